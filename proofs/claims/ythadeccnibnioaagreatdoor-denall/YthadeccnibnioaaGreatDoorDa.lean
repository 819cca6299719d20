/- The document's Eval. -/
import Derived.Test.YthadeccnibnioaaGreatDoorSz3
import Derived.Test.YthadeccnibnioaaGreatDoorHp
namespace Go.Proofs.YthadeccnibnioaaGreatDoor
open Go.RowKit
set_option linter.unusedVariables false
set_option maxRecDepth 100000 in
set_option maxHeartbeats 2000000 in
theorem deval_any (tx : ByteArray) {n k : Int} (hn : Rng n) (hk : Rng k) (w : World) : Calls Tryz.prog 133 #[.string tx, .int .i64 n, .int .i64 k] w fun e w' => e = .returned (.int .i64 (valP tx n k)) ∧ Below w.heap.size w w' := by
  have hp := parse_any tx w
  cases hx : readP tx.data.toList with
  | bad pl er =>
    rw [hx] at hp
    have her : er ≠ 0 := read_bad_pos hx
    have her' : ¬ ((er : Nat) : Int) = 0 := by omega
    have hv : valP tx n k = 0 := by unfold valP; rw [hx]
    rw [hv]
    clear hx hv
    go_enter Tryz.func133, Tryz.ntmps133
    go_wp2_with (go_at_call 8; refine hp.mono ?_; rintro e u ⟨rfl, hb⟩)
    go_ret
    exact ⟨rfl, hb.alloc hb.size _⟩
  | ok t rest =>
    have hov := gr_okv (read_ok hx).2.2
    have hvl := val_any hn hk t hov
    rw [hx] at hp
    have hv : valP tx n k = ev n k t := by unfold valP; rw [hx]
    rw [hv]
    clear hx hv
    have HU := Lib.hid (fun (u : World) (v : Tv) (hu : TrV (fun p => w.heap.size ≤ p) u t v) => hvl _ u v hu)
    clear hvl hov
    generalize ev n k t = vv at *
    go_enter Tryz.func133, Tryz.ntmps133
    go_wp2_with (go_at_call 8; refine hp.mono ?_; rintro e u ⟨a, b, A, nn, c, rfl, hT, hb⟩; refine Hid.out ?_)
    refine Lib.hid ?_
    have hT2 : TrV (fun p => w.heap.size ≤ p) (u.alloc (.cells #[.int .i64 a, .int .i64 b, .slice A nn c] 24)) t ⟨a, b, A, nn, c⟩ := hT.alloc _
    have HV := HU.out _ _ hT2
    simp only [tvV] at HV
    have hb2 : Below w.heap.size w (u.alloc (.cells #[.int .i64 a, .int .i64 b, .slice A nn c] 24)) := hb.alloc hb.size _
    clear HU hT hT2 hp
    go_wp2_with (go_at_call 12; refine HV.mono ?_; rintro e u2 ⟨rfl, hb3⟩)
    go_ret
    exact ⟨rfl, hb2.trans (hb3.mono hb2.size)⟩
end Go.Proofs.YthadeccnibnioaaGreatDoor
