/- The face Check. -/
import Derived.Test.YthadeccnibnioaaGreatDoorRm
namespace Go.Proofs.YthadeccnibnioaaGreatDoor
open Go.RowKit

def ckP (l : List UInt8) : Value :=
  match readP l with
  | .ok _ _ => .tuple #[.int .i64 0, .nilIface]
  | .bad pl er => .tuple #[.int .i64 ((l.length - pl : Nat) : Int), .iface 77 (.int .i64 er)]


theorem below_drewN {B : Nat} {a w : World} (h : Below B a w) (n : Nat) : Below B a (w.drewN n) := ⟨h.os, h.tape, h.output, h.size, h.block⟩
theorem Gl.below {w w' : World} (h : Gl w) (hb : Below w.heap.size w w') : Gl w' := h.fr (Fr.below (xs := []) hb) (by simp)

set_option maxHeartbeats 1000000 in
theorem check_any {w : World} {x : ByteArray} (hg : Gl w) (hmax : x.size ≤ 9223372036854775807) :
    Calls Tryz.prog 9 #[.string x] w fun e w' => e = .returned (ckP x.data.toList) ∧ Below w.heap.size w w' := by
  have hr := read_any hg hmax
  have hl : x.data.toList.length = x.size := by simp
  unfold ckP
  rw [hl]
  cases hR : readP x.data.toList with
  | ok t u =>
    rw [hR] at hr
    clear hR hl
    go_enter Tryz.func9, Tryz.ntmps9
    go_wp2_with (go_at_call 32; refine hr.mono ?_; rintro e wa ⟨p, rfl, ht, hb⟩)
    go_ret2
    exact ⟨rfl, hb⟩
  | bad pl er =>
    rw [hR] at hr
    clear hR hl
    go_enter Tryz.func9, Tryz.ntmps9
    go_wp2_with (go_at_call 32; refine hr.mono ?_; rintro e wa ⟨rfl, hb⟩)
    go_ret2
    exact ⟨rfl, hb⟩
end Go.Proofs.YthadeccnibnioaaGreatDoor
