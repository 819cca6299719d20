/- What is refused, by cases. -/
import Derived.Test.YtfkeokeedljomaaDoorTa
import Derived.Test.YtfkeokeedljomaaDoorErr
namespace Go.Proofs.YtfkeokeedljomaaDoor
set_option linter.unusedVariables false

theorem cases_of (n : Nat) (wk : Int) : (((wk < 1 ∨ 16 < wk) ∧ (erC n wk : Int) = 1) ∨ (1 ≤ wk ∧ wk ≤ 16 ∧ 400 < n ∧ (erC n wk : Int) = 4) ∨ (1 ≤ wk ∧ wk ≤ 16 ∧ n ≤ 400 ∧ (erC n wk : Int) = 0)) := by
  unfold erC
  by_cases q1 : wk < 1 ∨ 16 < wk
  · exact .inl ⟨q1, by rw [if_pos q1]; rfl⟩
  · by_cases q3 : 400 < n
    · exact .inr (.inl ⟨by omega, by omega, q3, by rw [if_neg q1, if_pos (by omega)]; rfl⟩)
    · exact .inr (.inr ⟨by omega, by omega, by omega, by rw [if_neg q1, if_neg (by omega)]; rfl⟩)
end Go.Proofs.YtfkeokeedljomaaDoor
