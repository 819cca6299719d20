/- Longest first is nearly best: what the law knows ahead. -/
import Derived.Test.YtfkeokeedljomaaSk
import Derived.Test.YtfkeokeedljomaaSr
import Derived.Test.YtfkeokeedljomaaPureSw
import Derived.Test.YtfkeokeedljomaaSs
namespace Go.Proofs.Ytfkeokeedljomaa
open Go.RowKit
set_option linter.unusedVariables false

def l322 : List Int := [3, 2, 2]
theorem bk322 : Bk (ldf l322) 0 [0, 1, 2] := by
  refine ⟨by decide, ?_⟩
  simp [ah, ldf, l322]
theorem w322 : (givs (ldf l322) 2 3 [0, 1, 2]).2 = [0, 1, 1] := by decide
set_option maxHeartbeats 1000000 in
theorem fact_least (W : World) : Calls Try.prog 5 #[.slice (some ⟨W.heap.size, 0, none⟩) 3 3, .int .i64 2] (W.alloc (.cells #[.int .i64 3, .int .i64 2, .int .i64 2] 3)) fun e w' => ∃ g, e = .returned (.tuple #[.slice (some ⟨g, 0, none⟩) 3 3, .nilIface]) ∧ w'.cell? ⟨g, 0, none⟩ = some (.int .i64 0) ∧ w'.cell? ⟨g, 1, none⟩ = some (.int .i64 1) ∧ w'.cell? ⟨g, 2, none⟩ = some (.int .i64 1) ∧ Below W.heap.size W w' := by
  have hcs : CsAt (W.alloc (.cells #[.int .i64 3, .int .i64 2, .int .i64 2] 3)) (some ⟨W.heap.size, 0, none⟩) (icells l322) := by
    refine .inr ⟨W.heap.size, 0, rfl, fun j u hu => ?_⟩
    match j, hu with
    | 0, hu => simp [icells, l322] at hu; subst hu; simp [go_sem]
    | 1, hu => simp [icells, l322] at hu; subst hu; simp [go_sem]
    | 2, hu => simp [icells, l322] at hu; subst hu; simp [go_sem]
    | n + 3, hu => simp [icells, l322] at hu
  have hb : Below W.heap.size W (W.alloc (.cells #[.int .i64 3, .int .i64 2, .int .i64 2] 3)) := (Below.refl _ _).alloc (Nat.le_refl _) _
  refine (least_yes _ (some ⟨W.heap.size, 0, none⟩) 3 3 2 l322 hcs rfl (by decide)).mono ?_
  rintro e w' ⟨C, rfl, h1, h2, h3, h4⟩
  obtain rfl := h1.uniq bk322 h2
  rw [w322] at h3
  exact ⟨_, rfl, (h3 0 0 rfl).1, (h3 1 1 rfl).1, (h3 2 1 rfl).1, hb.trans (h4.mono hb.size)⟩
end Go.Proofs.Ytfkeokeedljomaa
