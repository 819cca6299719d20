/- The product of two whole numbers, as Mul makes it. -/
import Derived.Test.YtbppiiomjmpjkabGreatDoorBigD
import Derived.Deep.RegionWith
namespace Go.Proofs.YtbppiiomjmpjkabGreatDoor
open Go.RowKit

set_option maxRecDepth 100000 in
set_option maxHeartbeats 20000000 in
/-- Mul of a number of at most one word and one of one word. -/
theorem Mul_any (bz bx bB : Nat) (f v0 : Value) (lx ly : List Int) (a c : Int) (w : World) (hz : w.heap[bz]? = some (.cells #[f, v0] 92 (0, 0))) (hx : IntAt w bx lx) (hy : IntAt w bB ly) (h1 : lx.length ≤ 1) (h2 : ly.length = 1)
    (HA : Hid (lx.getD 0 0 = a)) (HC : Hid (ly.getD 0 0 = c)) (a0 : 0 ≤ a) (a1 : a < 4294967296) (c0 : 0 ≤ c) (c1 : c < 4294967295) :
    Calls Tryz.prog 29 #[.pointer (some ⟨bz, 0, none⟩), .pointer (some ⟨bx, 0, none⟩), .pointer (some ⟨bB, 0, none⟩)] w fun e w' => e = .returned (.pointer (some ⟨bz, 0, none⟩)) ∧ IntAt w' bz (wd (a * c)) ∧ w.grownBy w' (some bz) := by
  have lt1 := hx.lt
  have lt2 := hy.lt
  have ltz : bz < w.heap.size := (Array.getElem?_eq_some_iff.1 hz).1
  obtain ⟨vx, kx, Wx⟩ := hx
  obtain ⟨vy, ky, Wy⟩ := hy
  have x0 : w.cell? ⟨bx, 0, none⟩ = some (.bool false) := by simp [World.cell?, kx]
  have y0 : w.cell? ⟨bB, 0, none⟩ = some (.bool false) := by simp [World.cell?, ky]
  have x1 : w.cell? ⟨bx, 1, none⟩ = some vx := by simp [World.cell?, kx]
  have y1 : w.cell? ⟨bB, 1, none⟩ = some vy := by simp [World.cell?, ky]
  have C := fun w' => mul_any vx vy lx ly a c w'
  have HCt : Hid (∀ w', Below w.heap.size w w' → Calls Tryz.prog 51 #[vx, vy] w' fun e w'' => ∃ v, e = .returned v ∧ Wds w'' v (wd (a * c)) ∧ Below w'.heap.size w' w'') := fun w' hb => C w' (Wx.below hb) (Wy.below hb) h1 h2 HA.out HC.out a0 a1 c0 c1
  have HBz : Hid (∀ w1, Below w.heap.size w w1 → w1.cell? ⟨bx, 0, none⟩ = some (.bool false) ∧ w1.cell? ⟨bB, 0, none⟩ = some (.bool false) ∧ w1.heap[bz]? = some (.cells #[f, v0] 92 (0, 0))) := fun w1 hb => ⟨(hb.cell (p := ⟨bx, 0, none⟩) lt1).trans x0, (hb.cell (p := ⟨bB, 0, none⟩) lt2).trans y0, (hb.block bz ltz).trans hz⟩
  clear C kx ky Wx Wy HA HC hz h1 h2 a0 a1 c0 c1
  go_enter Tryz.func29, Tryz.ntmps29
  go_wp2_with fail
  go_region_with (first
    | (go_at_call 51; refine (HCt.out _ ?_).mono ?_; exact ⟨rfl, rfl, rfl, Nat.le_refl _, fun _ _ => rfl⟩; rintro e w1 ⟨v, rfl, hv, hb1⟩; have hbw : Below w.heap.size w w1 := ⟨hb1.os, hb1.tape, hb1.output, hb1.size, hb1.block⟩; clear hb1; obtain ⟨q0, q1, hz1⟩ := HBz.out w1 hbw; have HV : Hid (Wds w1 v (wd (a * c)) ∧ Below w.heap.size w w1 ∧ w1.heap[bz]? = some (.cells #[f, v0] 92 (0, 0))) := ⟨hv, hbw, hz1⟩; clear hv hbw hz1)
    | (go_at_call 50; refine (give_any bz f v0 _ (wd (a * c)) _ ?_ ?_).mono ?_; exact HV.out.2.2; exact HV.out.1; rintro e w2 ⟨rfl, hI, hG⟩))
  all_goals go_wp2
  all_goals go_ret
  all_goals exact ⟨rfl, hI, grown_trans (grown_of_below HV.out.2.1) hG⟩
end Go.Proofs.YtbppiiomjmpjkabGreatDoor
