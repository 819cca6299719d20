/- Fresh. -/
import Derived.Test.YtckjcjoheeobgaaLc
namespace Go.Proofs.Ytckjcjoheeobgaa
open Go.RowKit
set_option linter.unusedVariables false
section
variable {lo : Nat} {w w' : World} {S Ml Mf : Nat} {v : Value} {s : Sto}

set_option maxHeartbeats 1000000 in
theorem fresh_any (h : StAt lo w S Ml Mf v s) (ok : SOk s) : Calls Try.prog 14 #[.pointer (some ⟨S, 0, none⟩)] w fun e w' => e = .returned (.int .i64 s.fr.length) ∧ w = w' := by
  obtain ⟨c0, c1, c2, c3⟩ := h.cell
  have hl := h.fresh.len ok.nd w rfl
  clear h
  go_enter Try.func14, Try.ntmps14
  go_wp2_with fail
  go_ret
  exact ⟨rfl, rfl⟩

end
end Go.Proofs.Ytckjcjoheeobgaa
