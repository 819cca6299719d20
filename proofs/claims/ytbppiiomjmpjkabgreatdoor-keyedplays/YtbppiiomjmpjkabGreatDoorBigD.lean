/- The product of a whole number of at most one word and one of one word: mul, Mul. -/
import Derived.Test.YtbppiiomjmpjkabGreatDoorBigC
import Derived.Deep.RegionWith
namespace Go.Proofs.YtbppiiomjmpjkabGreatDoor
open Go.RowKit

theorem mul0_any (A : Option Addr) (cap : Nat) (y : Value) (w : World) :
    Calls Tryz.prog 51 #[.slice A 0 cap, y] w fun e w' => e = .returned (.slice none 0 0) ∧ w = w' := by
  go_enter Tryz.func51, Tryz.ntmps51
  go_wp2
  go_ret
  exact ⟨rfl, rfl⟩

theorem wds_two {u : World} {g : Nat} {x y : Value} (p q : Int) (hg : u.heap[g]? = some (.cells #[x, y] 94 (0, 0))) : Wds ((u.setCell ⟨g, 0, none⟩ (.int .u32 p)).setCell ⟨g, 1, none⟩ (.int .u32 q)) (.slice (some ⟨g, 0, none⟩) 2 2) [p, q] := by
  refine ⟨rfl, .inr ⟨g, 2, #[.int .u32 p, .int .u32 q], rfl, Nat.zero_le _, ?_, by simp, by unfold maxLen; omega, rfl, rfl⟩⟩
  rw [heap_setCell_same _ _ _ _ _ _ (heap_setCell_same _ _ _ _ _ _ hg)]
  simp

set_option maxRecDepth 100000 in
set_option maxHeartbeats 1000000 in
theorem mul1_any (g1 g2 cap1 cap2 : Nat) (a c : Int) (w : World) (hx : w.cell? ⟨g1, 0, none⟩ = some (.int .u32 a)) (hy : w.cell? ⟨g2, 0, none⟩ = some (.int .u32 c)) (k1 : g1 < w.heap.size) (k2 : g2 < w.heap.size)
    (a0 : 0 ≤ a) (a1 : a < 4294967296) (c0 : 0 ≤ c) (c1 : c < 4294967296) (m0 : 0 ≤ a * c) (m1 : a * c < 18446744065119617025) :
    Calls Tryz.prog 51 #[.slice (some ⟨g1, 0, none⟩) 1 cap1, .slice (some ⟨g2, 0, none⟩) 1 cap2] w fun e w' => ∃ v, e = .returned v ∧ Wds w' v (wd (a * c)) ∧ Below w.heap.size w w' := by
  have hmk : ∀ w, (Instr.makeSlice 90 (.int .i64 2) (.int .i64 2)).run Tryz.prog w = .ok (.slice (some ⟨w.heap.size, 0, none⟩) 2 2) (w.alloc (.cells #[.int .u32 0, .int .u32 0] 94)) := fun _ => by kernel_rfl
  go_enter Tryz.func51, Tryz.ntmps51
  go_wp2_with fail
  refine wp_loop_rounds 2 ?_
  rw [rounds_succ]
  go_wp2_with fail
  refine wp_loop_rounds 2 ?_
  rw [rounds_succ]
  go_wp2_with fail
  go_quiet (fail)
  go_wp2_with fail
  rw [rounds_succ]
  go_wp2_with fail
  rw [rounds_succ]
  go_wp2_with fail
  have hg : ((w.alloc (.cells #[.int .u32 0, .int .u32 0] 94)).drewN nq).heap[w.heap.size]? = some (.cells #[.int .u32 0, .int .u32 0] 94 (0, 0)) := heap_alloc_new w _
  have hB : Below w.heap.size w ((w.alloc (.cells #[.int .u32 0, .int .u32 0] 94)).drewN nq) := ((Below.refl _ _).alloc (Nat.le_refl _) _).trans ⟨rfl, rfl, rfl, Nat.le_refl _, fun _ _ => rfl⟩
  refine (trim_any w.heap.size 2 [a * c % 4294967296, a * c / 4294967296] _ (wds_two _ _ hg) (by simp) (by simp)).mono ?_
  rintro e w' ⟨rfl, rfl, hW⟩
  go_wp2
  go_ret
  exact ⟨_, rfl, hW, (hB.setCell (Nat.le_refl _) _).setCell (Nat.le_refl _) _⟩

theorem wd_zero : wd 0 = [] := by decide
theorem mul_bd (a c : Int) (a0 : 0 ≤ a) (a1 : a < 4294967296) (c0 : 0 ≤ c) (c1 : c < 4294967296) : 0 ≤ a * c ∧ a * c < 18446744065119617025 + 1 := by
  have := Int.mul_le_mul (show a ≤ 4294967295 from by omega) (show c ≤ 4294967295 from by omega) c0 (by omega)
  exact ⟨Int.mul_nonneg a0 c0, by omega⟩
/-- mul: by the words of both. -/
theorem mul_any (x y : Value) (lx ly : List Int) (a c : Int) (w : World) (hx : Wds w x lx) (hy : Wds w y ly) (h1 : lx.length ≤ 1) (h2 : ly.length = 1) (ha : lx.getD 0 0 = a) (hc : ly.getD 0 0 = c)
    (a0 : 0 ≤ a) (a1 : a < 4294967296) (c0 : 0 ≤ c) (c1 : c < 4294967295) :
    Calls Tryz.prog 51 #[x, y] w fun e w' => ∃ v, e = .returned v ∧ Wds w' v (wd (a * c)) ∧ Below w.heap.size w w' := by
  obtain ⟨A, cap, rfl⟩ := hx.form
  obtain ⟨A2, cap2, rfl⟩ := hy.form
  by_cases h0 : lx.length = 0
  · obtain rfl : lx = [] := List.eq_nil_of_length_eq_zero h0
    obtain rfl : 0 = a := ha
    refine (mul0_any A cap _ w).mono ?_
    rintro e w' ⟨rfl, rfl⟩
    exact ⟨_, rfl, by rw [Int.zero_mul, wd_zero]; exact World.ownsRow_nil _ _ _ _, Below.refl _ _⟩
  · obtain ⟨g1, rfl, -, k1⟩ := hx.some (by omega)
    obtain ⟨g2, rfl, -, k2⟩ := hy.some (by omega)
    have e1 := hx.at rfl 0 (by omega)
    have e2 := hy.at rfl 0 (by omega)
    rw [ha] at e1
    rw [hc] at e2
    have l1 : lx.length = 1 := by omega
    rw [l1, h2]
    obtain ⟨m0, m1⟩ := mul_bd a c a0 a1 c0 (by omega)
    refine mul1_any g1 g2 cap cap2 a c w e1 e2 k1 k2 a0 a1 c0 (by omega) m0 ?_
    have := Int.mul_le_mul (show a ≤ 4294967295 from by omega) (show c ≤ 4294967294 from by omega) c0 (by omega)
    omega

end Go.Proofs.YtbppiiomjmpjkabGreatDoor
