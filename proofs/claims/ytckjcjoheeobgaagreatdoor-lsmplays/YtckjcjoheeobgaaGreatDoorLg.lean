/- Fresh. -/
import Derived.Test.YtckjcjoheeobgaaGreatDoorLc
namespace Go.Proofs.YtckjcjoheeobgaaGreatDoor
open Go.RowKit
set_option linter.unusedVariables false
section
variable {lo : Nat} {w w' : World} {S Ml Mf : Nat} {v : Value} {s : Sto}

set_option maxHeartbeats 1000000 in
theorem fresh_any (h : StAt lo w S Ml Mf v s) (ok : SOk s) : Calls Tryz.prog 20 #[.pointer (some ⟨S, 0, none⟩)] w fun e w' => e = .returned (.int .i64 s.fr.length) ∧ w = w' := by
  obtain ⟨c0, c1, c2, c3⟩ := h.cell
  have hl := h.fresh.len ok.nd w rfl
  clear h
  go_enter Tryz.func20, Tryz.ntmps20
  go_wp2_with fail
  go_ret
  exact ⟨rfl, rfl⟩

end
end Go.Proofs.YtckjcjoheeobgaaGreatDoor
