/- States compared: cmp.Compare, cmp.Or, compare. -/
import Derived.Test.YtiofpimchbhfcabShelf
import Derived.Test.YtiofpimchbhfcabFo
import Derived.Deep.RegionHeld3
import Derived.Sort.Grow
namespace Go.Proofs.Ytiofpimchbhfcab
open Go.RowKit

def cmpI (a b : Int) : Int := if a < b then -1 else if b < a then 1 else 0
set_option maxHeartbeats 1000000 in
theorem nan_any (a : Int) (w : World) : Calls Try.prog 61 #[.int .i64 a] w fun e w' => e = .returned (.bool false) ∧ w = w' := by
  go_enter Try.func61, Try.ntmps61
  go_wp2_with fail
  go_ret
  exact ⟨ret_bool (by simp), rfl⟩
set_option maxRecDepth 100000 in
set_option maxHeartbeats 1000000 in
theorem cmpInt_any (a b : Int) (w : World) : Calls Try.prog 55 #[.int .i64 a, .int .i64 b] w fun e w' => e = .returned (.int .i64 (cmpI a b)) ∧ w = w' := by
  have HA := fun w' => nan_any a w'
  have HB := fun w' => nan_any b w'
  by_cases h1 : a < b
  · have e : cmpI a b = -1 := by unfold cmpI; rw [if_pos h1]
    rw [e]
    clear e
    go_enter Try.func55, Try.ntmps55
    go_wp2_with (first | (go_at_call 61; refine (HA _).mono ?_; rintro e w' ⟨rfl, rfl⟩; refine Hid.out ?_) | (refine Lib.hid ?_; go_at_call 61; refine (HB _).mono ?_; rintro e w' ⟨rfl, rfl⟩))
    refine Lib.hid ?_
    go_wp2_with (go_at_call 61; refine (HB _).mono ?_; rintro e w' ⟨rfl, rfl⟩)
    go_ret
    exact ⟨rfl, rfl⟩
  · by_cases h2 : b < a
    · have e : cmpI a b = 1 := by unfold cmpI; rw [if_neg h1, if_pos h2]
      rw [e]
      clear e
      go_enter Try.func55, Try.ntmps55
      go_wp2_with (go_at_call 61; refine (HA _).mono ?_; rintro e w' ⟨rfl, rfl⟩; refine Hid.out ?_)
      refine Lib.hid ?_
      go_wp2_with (go_at_call 61; refine (HB _).mono ?_; rintro e w' ⟨rfl, rfl⟩)
      go_ret
      exact ⟨rfl, rfl⟩
    · have e : cmpI a b = 0 := by unfold cmpI; rw [if_neg h1, if_neg h2]
      rw [e]
      clear e
      go_enter Try.func55, Try.ntmps55
      go_wp2_with (go_at_call 61; refine (HA _).mono ?_; rintro e w' ⟨rfl, rfl⟩; refine Hid.out ?_)
      refine Lib.hid ?_
      go_wp2_with (go_at_call 61; refine (HB _).mono ?_; rintro e w' ⟨rfl, rfl⟩)
      go_ret
      exact ⟨rfl, rfl⟩
def orI (x y : Int) : Int := if x = 0 then y else x
set_option maxRecDepth 100000 in
set_option maxHeartbeats 1000000 in
theorem or_any (w : World) (q : Nat) (x y : Int) (c0 : w.cell? ⟨q, 0, none⟩ = some (.int .i64 x)) (c1 : w.cell? ⟨q, 1, none⟩ = some (.int .i64 y)) :
    Calls Try.prog 54 #[.slice (some ⟨q, 0, none⟩) 2 2] w fun e w' => e = .returned (.int .i64 (orI x y)) ∧ w = w' := by
  obtain ⟨z, hz⟩ : ∃ z, z = orI x y := ⟨_, rfl⟩
  rw [← hz]
  have HZ := Lib.hid (show (x ≠ 0 → z = x) ∧ (x = 0 → z = y) from ⟨fun h => by rw [hz]; unfold orI; rw [if_neg h], fun h => by rw [hz]; unfold orI; rw [if_pos h]⟩)
  clear hz
  go_enter Try.func54, Try.ntmps54
  go_wp2_with fail
  go_loop [8] (fun i => i = .int .i64 0 ∨ (i = .int .i64 1 ∧ x = 0) ∨ (i = .int .i64 2 ∧ x = 0 ∧ y = 0)) (fun i => 2 - (intOf i).toNat)
  case atStart => exact .inl rfl
  case round =>
    rcases hrel with rfl | ⟨rfl, hx⟩ | ⟨rfl, hx, hy⟩
    · by_cases hx : x = 0
      · subst hx
        go_wp2_with fail
        go_round
        case rel => exact .inr (.inl ⟨rfl, trivial⟩)
        case measure => simp [intOf]
      · have hzx := HZ.out.1 hx
        subst hzx
        go_wp2_with fail
        go_ret
        exact ⟨rfl, rfl⟩
    · have hzy := HZ.out.2 hx
      subst hx
      by_cases hy : y = 0
      · subst hy
        go_wp2_with fail
        go_round
        case rel => exact .inr (.inr ⟨rfl, trivial, trivial⟩)
        case measure => simp [intOf]
      · subst hzy
        go_wp2_with fail
        go_ret
        exact ⟨rfl, rfl⟩
    · have hzy := HZ.out.2 hx
      subst hx hy
      have HZY := Lib.hid hzy
      clear HZ hzy
      go_wp2_with fail
      go_ret
      exact ⟨by show Ending.returned (Value.int .i64 0) = _; rw [HZY.out], rfl⟩

theorem cell_new2 (u : World) (q : Nat) (hq : q = u.heap.size) (a b : Value) (t : TypeId) : (u.alloc (.cells #[a, b] t)).cell? ⟨q, 0, none⟩ = some a ∧ (u.alloc (.cells #[a, b] t)).cell? ⟨q, 1, none⟩ = some b := by
  subst hq; exact ⟨by simp, by simp⟩
def cmpH (a b : Hd) : Int := orI (cmpI a.nd b.nd) (Lib.compareBytes a.key.data.toList b.key.data.toList)
set_option maxRecDepth 100000 in
set_option maxHeartbeats 1000000 in
theorem compare_full (a b : Hd) (w : World) : Calls Try.prog 44 #[hdV a, hdV b] w fun e w' => e = .returned (.int .i64 (cmpH a b)) ∧ Below w.heap.size w w' ∧ ∃ q os', w' = Sort.grow (w.drewN q) os' := by
  obtain ⟨an, ak, aa, ab⟩ := a
  obtain ⟨bn, bk, ba, bb⟩ := b
  simp only [hdV, cmpH]
  have HC := fun w' => cmpInt_any an bn w'
  have HS := fun w' => Try.strings_Compare ak bk w'
  generalize cmpI an bn = x at *
  generalize Lib.compareBytes ak.data.toList bk.data.toList = y at *
  have hcc := cell_new2 ((w.alloc (.cells #[.int .i64 an, .string ak, .int .i64 aa, .int .i64 ab] 29)).alloc (.cells #[.int .i64 bn, .string bk, .int .i64 ba, .int .i64 bb] 29)) (w.heap.size + 1 + 1) (by simp) (.int .i64 x) (.int .i64 y) 3
  have HO2 := or_any (((w.alloc (.cells #[.int .i64 an, .string ak, .int .i64 aa, .int .i64 ab] 29)).alloc (.cells #[.int .i64 bn, .string bk, .int .i64 ba, .int .i64 bb] 29)).alloc (.cells #[.int .i64 x, .int .i64 y] 3)).drew (w.heap.size + 1 + 1) x y hcc.1 hcc.2
  clear hcc
  generalize orI x y = z at *
  go_enter Try.func44, Try.ntmps44
  go_wp2_with fail
  have s0 : ((w.alloc (.cells #[.int .i64 an, .string ak, .int .i64 aa, .int .i64 ab] 29)).alloc (.cells #[.int .i64 bn, .string bk, .int .i64 ba, .int .i64 bb] 29)).cell? ⟨w.heap.size, 0, none⟩ = some (.int .i64 an) := by simp
  have s1 : ((w.alloc (.cells #[.int .i64 an, .string ak, .int .i64 aa, .int .i64 ab] 29)).alloc (.cells #[.int .i64 bn, .string bk, .int .i64 ba, .int .i64 bb] 29)).cell? ⟨w.heap.size, 1, none⟩ = some (.string ak) := by simp
  have s2 : ((w.alloc (.cells #[.int .i64 an, .string ak, .int .i64 aa, .int .i64 ab] 29)).alloc (.cells #[.int .i64 bn, .string bk, .int .i64 ba, .int .i64 bb] 29)).cell? ⟨w.heap.size + 1, 0, none⟩ = some (.int .i64 bn) := by simp
  have s3 : ((w.alloc (.cells #[.int .i64 an, .string ak, .int .i64 aa, .int .i64 ab] 29)).alloc (.cells #[.int .i64 bn, .string bk, .int .i64 ba, .int .i64 bb] 29)).cell? ⟨w.heap.size + 1, 1, none⟩ = some (.string bk) := by simp
  go_region_held3 (fun w' => w'.cell? ⟨w.heap.size, 0, none⟩ = some (.int .i64 an) ∧ w'.cell? ⟨w.heap.size, 1, none⟩ = some (.string ak) ∧ w'.cell? ⟨w.heap.size + 1, 0, none⟩ = some (.int .i64 bn) ∧ w'.cell? ⟨w.heap.size + 1, 1, none⟩ = some (.string bk)) (first | go_keep | (refine ⟨?_, ?_, ?_, ?_⟩ <;> (simp [go_sem, s0, s1, s2, s3]; done))) (first | (go_at_call 55; refine (HC _).mono ?_; rintro e w' ⟨rfl, rfl⟩) | (go_at_call 56; refine (HS _).mono ?_; rintro e w' ⟨rfl, rfl⟩) | (go_at_call 54; refine HO2.mono ?_; rintro e w' ⟨rfl, rfl⟩))
  go_wp2_with fail
  go_ret
  refine ⟨rfl, ?_, 1, ?_⟩
  · exact (((((Below.refl _ _).alloc (Nat.le_refl _) _).alloc (by simp) _).alloc (by simp; omega) _).drew)
  · refine ⟨#[.cells #[.int .i64 an, .string ak, .int .i64 aa, .int .i64 ab] 29] ++ #[.cells #[.int .i64 bn, .string bk, .int .i64 ba, .int .i64 bb] 29] ++ #[.cells #[.int .i64 x, .int .i64 y] 3], ?_⟩
    rw [Sort.alloc_eq_grow, Sort.alloc_eq_grow, Sort.alloc_eq_grow, Sort.grow_grow, Sort.grow_grow]
    rfl
theorem compare_any (a b : Hd) (w : World) : Calls Try.prog 44 #[hdV a, hdV b] w fun e w' => e = .returned (.int .i64 (cmpH a b)) ∧ Below w.heap.size w w' := by
  refine (compare_full a b w).mono ?_
  rintro e w' ⟨h1, h2, -⟩
  exact ⟨h1, h2⟩
end Go.Proofs.Ytiofpimchbhfcab
