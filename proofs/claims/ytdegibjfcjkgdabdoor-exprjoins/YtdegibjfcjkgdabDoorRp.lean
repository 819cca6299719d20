/- The faces Eval and Check. -/
import Derived.Test.YtdegibjfcjkgdabDoorRo
namespace Go.Proofs.YtdegibjfcjkgdabDoor
open Go.RowKit

/-- What Eval answers: the number and the error. -/
def evP (l : List UInt8) (n s : Int) : Value :=
  match readP l with
  | .ok t _ => .tuple #[.int .i64 (ev n s t), .nilIface]
  | .bad _ er => .tuple #[.int .i64 0, .iface 39 (.int .i64 er)]
def ckP (l : List UInt8) : Value :=
  match readP l with
  | .ok _ _ => .tuple #[.int .i64 0, .nilIface]
  | .bad pl er => .tuple #[.int .i64 ((l.length - pl : Nat) : Int), .iface 39 (.int .i64 er)]

theorem below_drewN {B : Nat} {a w : World} (h : Below B a w) (n : Nat) : Below B a (w.drewN n) := ⟨h.os, h.tape, h.output, h.size, h.block⟩
theorem Gl.below {w w' : World} (h : Gl w) (hb : Below w.heap.size w w') : Gl w' := h.fr (Fr.below (xs := []) hb) (by simp)

set_option maxHeartbeats 1000000 in
theorem eval_any {w : World} {x : ByteArray} (hg : Gl w) (hmax : x.size ≤ 9223372036854775807) (n s : Int) :
    Calls Tryd.prog 8 #[.string x, .int .i64 n, .int .i64 s] w fun e w' => e = .returned (evP x.data.toList n s) ∧ Below w.heap.size w w' := by
  have hr := read_any hg hmax
  unfold evP
  cases hR : readP x.data.toList with
  | ok t u =>
    rw [hR] at hr
    have hok := gr_ok (read_ok hR).2.2
    clear hR
    go_enter Tryd.func8, Tryd.ntmps8
    go_wp2_with (go_at_call 10; refine hr.mono ?_; rintro e wa ⟨p, rfl, ht, hb⟩)
    go_wp2_with (go_at_call 12; refine (value_any n s t p _ wa ht hok).mono ?_; rintro e wb ⟨rfl, m, rfl⟩)
    go_ret2
    exact ⟨rfl, below_drewN hb m⟩
  | bad pl er =>
    rw [hR] at hr
    clear hR
    go_enter Tryd.func8, Tryd.ntmps8
    go_wp2_with (go_at_call 10; refine hr.mono ?_; rintro e wa ⟨rfl, hb⟩)
    go_ret2
    exact ⟨rfl, hb⟩

set_option maxHeartbeats 1000000 in
theorem check_any {w : World} {x : ByteArray} (hg : Gl w) (hmax : x.size ≤ 9223372036854775807) :
    Calls Tryd.prog 9 #[.string x] w fun e w' => e = .returned (ckP x.data.toList) ∧ Below w.heap.size w w' := by
  have hr := read_any hg hmax
  have hl : x.data.toList.length = x.size := by simp
  unfold ckP
  rw [hl]
  cases hR : readP x.data.toList with
  | ok t u =>
    rw [hR] at hr
    clear hR hl
    go_enter Tryd.func9, Tryd.ntmps9
    go_wp2_with (go_at_call 10; refine hr.mono ?_; rintro e wa ⟨p, rfl, ht, hb⟩)
    go_ret2
    exact ⟨rfl, hb⟩
  | bad pl er =>
    rw [hR] at hr
    clear hR hl
    go_enter Tryd.func9, Tryd.ntmps9
    go_wp2_with (go_at_call 10; refine hr.mono ?_; rintro e wa ⟨rfl, hb⟩)
    go_ret2
    exact ⟨rfl, hb⟩
end Go.Proofs.YtdegibjfcjkgdabDoor
