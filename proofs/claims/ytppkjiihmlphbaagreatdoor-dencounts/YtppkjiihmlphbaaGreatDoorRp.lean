/- The face Eval. -/
import Derived.Test.YtppkjiihmlphbaaGreatDoorRo
import Derived.Test.YtppkjiihmlphbaaGreatDoorRpc
namespace Go.Proofs.YtppkjiihmlphbaaGreatDoor
open Go.RowKit

/-- What Eval answers: the number and the error. -/
def evP (l : List UInt8) (n s : Int) : Value :=
  match readP l with
  | .ok t _ => .tuple #[.int .i64 (ev n s t), .nilIface]
  | .bad _ er => .tuple #[.int .i64 0, .iface 76 (.int .i64 er)]

set_option maxHeartbeats 1000000 in
theorem eval_any {w : World} {x : ByteArray} (hg : Gl w) (hmax : x.size ≤ 9223372036854775807) (n s : Int) :
    Calls Tryz.prog 84 #[.string x, .int .i64 n, .int .i64 s] w fun e w' => e = .returned (evP x.data.toList n s) ∧ Below w.heap.size w w' := by
  have hr := read_any hg hmax
  unfold evP
  cases hR : readP x.data.toList with
  | ok t u =>
    rw [hR] at hr
    have hok := gr_ok (read_ok hR).2.2
    clear hR
    go_enter Tryz.func84, Tryz.ntmps84
    go_wp2_with (go_at_call 86; refine hr.mono ?_; rintro e wa ⟨p, rfl, ht, hb⟩)
    go_wp2_with (go_at_call 87; refine (value_any n s t p _ wa ht hok).mono ?_; rintro e wb ⟨rfl, m, rfl⟩)
    go_ret2
    exact ⟨rfl, below_drewN hb m⟩
  | bad pl er =>
    rw [hR] at hr
    clear hR
    go_enter Tryz.func84, Tryz.ntmps84
    go_wp2_with (go_at_call 86; refine hr.mono ?_; rintro e wa ⟨rfl, hb⟩)
    go_ret2
    exact ⟨rfl, hb⟩

end Go.Proofs.YtppkjiihmlphbaaGreatDoor
