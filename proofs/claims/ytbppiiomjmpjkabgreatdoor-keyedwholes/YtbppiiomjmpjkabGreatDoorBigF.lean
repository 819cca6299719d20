/- What is left over 2^32: Set, QuoRem, DivMod, Mod; and a number as int64: Uint64, Int64. -/
import Derived.Test.YtbppiiomjmpjkabGreatDoorBigE
namespace Go.Proofs.YtbppiiomjmpjkabGreatDoor
open Go.RowKit

theorem wd_small (p : Int) (h0 : 0 < p) (h1 : p < 4294967296) : wd p = [p] := by
  have e1 : p % 4294967296 = p := by omega
  have e2 : p / 4294967296 = 0 := by omega
  have hp : p ≠ 0 := by omega
  unfold wd trm
  rw [e1, e2]
  simp [tl, hp]
theorem wd_big (p : Int) (h0 : 4294967296 ≤ p) : wd p = [p % 4294967296, p / 4294967296] := by
  have hp : p / 4294967296 ≠ 0 := by omega
  unfold wd trm
  simp [tl, hp]
theorem wd_none : wd 0 = [] := by decide
theorem wd_mod : wd 4294967296 = [0, 1] := by decide
theorem wd_one (p : Int) (h0 : 0 ≤ p) (h1 : p < 4294967296) : (wd p).length ≤ 1 ∧ (wd p).getD 0 0 = p := by
  by_cases h : p = 0
  · subst h; rw [wd_none]; simp
  · rw [wd_small p (by omega) h1]; simp

/-- div by 2^32. -/
theorem div_any (x y : Value) (p : Int) (w : World) (hx : Wds w x (wd p)) (hy : Wds w y [0, 1]) (p0 : 0 ≤ p) (p1 : p < 18446744073709551616) :
    Calls Tryz.prog 96 #[x, y] w fun e w' => ∃ q v lq, e = .returned (.tuple #[q, v]) ∧ Wds w' q lq ∧ Wds w' v (wd (p % 4294967296)) ∧ Below w.heap.size w w' := by
  obtain ⟨A2, cap2, rfl⟩ := hy.form
  obtain ⟨g2, rfl, -, k2⟩ := hy.some (by simp)
  by_cases h : p < 4294967296
  · obtain ⟨h1, -⟩ := wd_one p p0 h
    refine (div_lt x (wd p) g2 cap2 w hx (by omega)).mono ?_
    rintro e w' ⟨v, rfl, hv, hb⟩
    exact ⟨_, _, [], rfl, World.ownsRow_nil _ _ _ _, by rw [show p % 4294967296 = p from by omega]; exact hv, hb⟩
  · rw [wd_big p (by omega)] at hx
    obtain ⟨A, cap, rfl⟩ := hx.form
    obtain ⟨g, rfl, -, k1⟩ := hx.some (by simp)
    refine (div_ge g g2 cap cap2 p (p % 4294967296) (p / 4294967296) w (hx.at rfl 0 (by simp)) (hx.at rfl 1 (by simp)) (hy.at rfl 0 (by simp)) (hy.at rfl 1 (by simp)) k1 k2 (by omega) (by omega) (by omega) (by omega) (show _ = _ by omega) p0 p1).mono ?_
    rintro e w' ⟨q, v, rfl, hq, hv, hb⟩
    exact ⟨_, _, _, rfl, hq, hv, hb⟩

set_option maxRecDepth 100000 in
set_option maxHeartbeats 4000000 in
/-- Set: a number copied. -/
theorem Set_any (bz bx : Nat) (f v0 : Value) (l : List Int) (w : World) (hz : w.heap[bz]? = some (.cells #[f, v0] 92 (0, 0))) (hx : IntAt w bx l) (hl : l.length ≤ 1000000) :
    Calls Tryz.prog 78 #[.pointer (some ⟨bz, 0, none⟩), .pointer (some ⟨bx, 0, none⟩)] w fun e w' => e = .returned (.pointer (some ⟨bz, 0, none⟩)) ∧ IntAt w' bz l ∧ w.grownBy w' (some bz) := by
  have lt1 := hx.lt
  have ltz : bz < w.heap.size := (Array.getElem?_eq_some_iff.1 hz).1
  obtain ⟨vx, kx, Wx⟩ := hx
  have x0 : w.cell? ⟨bx, 0, none⟩ = some (.bool false) := by simp [World.cell?, kx]
  have x1 : w.cell? ⟨bx, 1, none⟩ = some vx := by simp [World.cell?, kx]
  have HCt : Hid (∀ w', Below w.heap.size w w' → Calls Tryz.prog 95 #[vx] w' fun e w'' => ∃ v, e = .returned v ∧ Wds w'' v l ∧ Below w'.heap.size w' w'') := fun w' hb => twin_any vx l w' (Wx.below hb) hl
  have HBz : Hid (∀ w1, Below w.heap.size w w1 → w1.cell? ⟨bx, 0, none⟩ = some (.bool false) ∧ w1.heap[bz]? = some (.cells #[f, v0] 92 (0, 0))) := fun w1 hb => ⟨(hb.cell (p := ⟨bx, 0, none⟩) lt1).trans x0, (hb.block bz ltz).trans hz⟩
  clear kx Wx hz
  go_enter Tryz.func78, Tryz.ntmps78
  go_wp2_with fail
  go_region_with (first
    | (go_at_call 95; refine (HCt.out _ ?_).mono ?_; exact ⟨rfl, rfl, rfl, Nat.le_refl _, fun _ _ => rfl⟩; rintro e w1 ⟨v, rfl, hv, hb1⟩; have hbw : Below w.heap.size w w1 := ⟨hb1.os, hb1.tape, hb1.output, hb1.size, hb1.block⟩; clear hb1; obtain ⟨q0, hz1⟩ := HBz.out w1 hbw; have HV : Hid (Wds w1 v l ∧ Below w.heap.size w w1 ∧ w1.heap[bz]? = some (.cells #[f, v0] 92 (0, 0))) := ⟨hv, hbw, hz1⟩; clear hv hbw hz1)
    | (go_at_call 50; refine (give_any bz f v0 _ l _ ?_ ?_).mono ?_; exact HV.out.2.2; exact HV.out.1; rintro e w2 ⟨rfl, hI, hG⟩))
  all_goals go_wp2
  all_goals go_ret
  all_goals exact ⟨rfl, hI, grown_trans (grown_of_below HV.out.2.1) hG⟩

set_option maxRecDepth 100000 in
set_option maxHeartbeats 4000000 in
/-- QuoRem by 2^32, what is left put into the number itself. -/
theorem QuoRem_any (bz bx bB : Nat) (f v0 : Value) (p : Int) (w : World) (hz : w.heap[bz]? = some (.cells #[f, v0] 92 (0, 0))) (hx : IntAt w bx (wd p)) (hy : IntAt w bB [0, 1]) (hne : bx ≠ bz) (p0 : 0 ≤ p) (p1 : p < 18446744073709551616) :
    Calls Tryz.prog 79 #[.pointer (some ⟨bz, 0, none⟩), .pointer (some ⟨bx, 0, none⟩), .pointer (some ⟨bB, 0, none⟩), .pointer (some ⟨bx, 0, none⟩)] w fun e w' => e = .returned (.tuple #[.pointer (some ⟨bz, 0, none⟩), .pointer (some ⟨bx, 0, none⟩)]) ∧ IntAt w' bx (wd (p % 4294967296)) ∧ ∃ u, w.grownBy u (some bz) ∧ u.grownBy w' (some bx) := by
  have lt1 := hx.lt
  have lt2 := hy.lt
  have ltz : bz < w.heap.size := (Array.getElem?_eq_some_iff.1 hz).1
  obtain ⟨vx, kx, Wx⟩ := hx
  obtain ⟨vy, ky, Wy⟩ := hy
  have x0 : w.cell? ⟨bx, 0, none⟩ = some (.bool false) := by simp [World.cell?, kx]
  have y0 : w.cell? ⟨bB, 0, none⟩ = some (.bool false) := by simp [World.cell?, ky]
  have x1 : w.cell? ⟨bx, 1, none⟩ = some vx := by simp [World.cell?, kx]
  have y1 : w.cell? ⟨bB, 1, none⟩ = some vy := by simp [World.cell?, ky]
  have HCt : Hid (∀ w', Below w.heap.size w w' → Calls Tryz.prog 96 #[vx, vy] w' fun e w'' => ∃ q v lq, e = .returned (.tuple #[q, v]) ∧ Wds w'' q lq ∧ Wds w'' v (wd (p % 4294967296)) ∧ Below w'.heap.size w' w'') := fun w' hb => div_any vx vy p w' (Wx.below hb) (Wy.below hb) p0 p1
  clear Wx Wy
  have HK : Hid (w.heap[bz]? = some (.cells #[f, v0] 92 (0, 0)) ∧ w.heap[bx]? = some (.cells #[.bool false, vx] 92 (0, 0))) := ⟨hz, kx⟩
  clear hz kx ky
  go_enter Tryz.func79, Tryz.ntmps79
  go_wp2_with fail
  go_quiet (fail)
  go_wp2_with fail
  go_region_with (first
    | (go_at_call 96; refine (HCt.out _ ?_).mono ?_; exact ⟨rfl, rfl, rfl, Nat.le_refl _, fun _ _ => rfl⟩; rintro e w1 ⟨q, v, lq, rfl, hq, hv, hb1⟩; have HV : Hid (Wds w1 q lq ∧ Wds w1 v (wd (p % 4294967296)) ∧ Below w.heap.size w w1) := ⟨hq, hv, ⟨hb1.os, hb1.tape, hb1.output, hb1.size, hb1.block⟩⟩; clear hq hv hb1))
  all_goals go_wp2_with fail
  all_goals (refine (give_any bz f v0 q lq w1 ((HV.out.2.2.block bz ltz).trans HK.out.1) HV.out.1).mono ?_; rintro e w2 ⟨rfl, hI, hG⟩)
  all_goals go_wp2_with fail
  all_goals (refine (give_any bx (.bool false) vx v _ w2 ((hG.block bx (Nat.lt_of_lt_of_le lt1 HV.out.2.2.size) (by simpa using hne)).trans ((HV.out.2.2.block bx lt1).trans HK.out.2)) (HV.out.2.1.grown hG ((HV.out.2.2.block bz ltz).trans HK.out.1))).mono ?_; rintro e w3 ⟨rfl, hI3, hG3⟩)
  all_goals go_wp2
  all_goals go_ret2
  all_goals exact ⟨rfl, hI3, w2, grown_trans (grown_of_below HV.out.2.2) hG, hG3⟩
end Go.Proofs.YtbppiiomjmpjkabGreatDoor
