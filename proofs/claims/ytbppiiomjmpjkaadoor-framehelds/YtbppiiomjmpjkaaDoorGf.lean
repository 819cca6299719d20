/- The document's side: a state, and which of two stands ahead. -/
import Derived.Test.YtbppiiomjmpjkaaDoorGd
import Derived.Test.YtbppiiomjmpjkaaDoorFs
import Derived.Sort.Walk0
namespace Go.Proofs.YtbppiiomjmpjkaaDoor
open Go.RowKit
open Go.Lib (compareBytes)

theorem cmp_lt : ∀ (a b : List UInt8), compareBytes a b < 0 ↔ a < b
  | [], [] => by simp [compareBytes]
  | [], y :: b => by simp [compareBytes]
  | x :: a, [] => by simp [compareBytes]
  | x :: a, y :: b => by
    unfold compareBytes
    rw [List.cons_lt_cons_iff]
    by_cases h1 : x < y
    · simp [h1]
    · by_cases h2 : y < x
      · have hne : x ≠ y := fun e => by subst e; exact h1 h2
        simp [h1, h2, hne]
      · have he : x = y := by
          have a1 : ¬ x.toNat < y.toNat := h1
          have a2 : ¬ y.toNat < x.toNat := h2
          exact UInt8.toNat_inj.1 (by omega)
        simp [he, cmp_lt a b]
theorem ltH_node {a b : Hd} (h : a.nd ≠ b.nd) : ltH a b = decide (a.nd < b.nd) := by
  unfold ltH cmpH orI cmpI
  by_cases h1 : a.nd < b.nd
  · simp [h1]
  · have h2 : b.nd < a.nd := by omega
    simp [h1, h2]
theorem ltH_key {a b : Hd} (h : a.nd = b.nd) : ltH a b = decide (a.key.data.toList < b.key.data.toList) := by
  unfold ltH cmpH orI cmpI
  rw [h]
  simp only [Int.lt_irrefl, if_false, if_true]
  exact decide_eq_decide.2 (cmp_lt _ _)

set_option maxRecDepth 100000 in
set_option maxHeartbeats 1000000 in
theorem ahead_any (a b : Hd) (w : World) : Calls Tryd.prog 34 #[hdV a, hdV b] w fun e w' => e = .returned (.bool (ltH a b)) ∧ Below w.heap.size w w' := by
  obtain ⟨an, ak, aa, ab⟩ := a
  obtain ⟨bn, bk, ba, bb⟩ := b
  have HB := (((Below.refl w.heap.size w).alloc (Nat.le_refl _) (.cells #[.int .i64 an, .string ak, .int .i64 aa, .int .i64 ab] 72)).alloc (by simp) (.cells #[.int .i64 bn, .string bk, .int .i64 ba, .int .i64 bb] 72))
  by_cases h : an = bn
  · rw [ltH_key (by exact h)]
    subst h
    simp only [hdV]
    go_enter Tryd.func34, Tryd.ntmps34
    go_wp2_with fail
    go_ret
    exact ⟨ret_bool (by rw [bytesLess_eq, Lib.toList_data, Lib.toList_data]), HB⟩
  · rw [ltH_node (by exact h)]
    simp only [hdV]
    go_enter Tryd.func34, Tryd.ntmps34
    go_wp2_with fail
    go_ret
    exact ⟨rfl, HB⟩

set_option maxRecDepth 100000 in
set_option maxHeartbeats 1000000 in
theorem sheld_any (r : Hd) (w : World) (hk : r.key.size ≤ 9223372036854775807) : Calls Tryd.prog 33 #[hdV r] w fun e w' => e = .returned (.bool (!badHd r)) ∧ Below w.heap.size w w' := by
  obtain ⟨bb, hbb⟩ : ∃ bb, bb = badHd r := ⟨_, rfl⟩
  obtain ⟨nd, key, a, b⟩ := r
  have hbd : badHd ⟨nd, key, a, b⟩ = (decide (nd < 0) || decide (12 ≤ nd) || decide (40 < key.size)) := rfl
  rw [← hbb] at hbd ⊢
  simp only [hdV] at *
  clear hbb
  have HB := (Below.refl w.heap.size w).alloc (Nat.le_refl _) (.cells #[.int .i64 nd, .string key, .int .i64 a, .int .i64 b] 72)
  by_cases h1 : nd < 0
  · have e : bb = true := by rw [hbd]; simp; omega
    subst e
    clear hbd
    have h1' : ¬ 0 ≤ nd := by omega
    go_enter Tryd.func33, Tryd.ntmps33
    go_wp2_with fail
    go_ret
    exact ⟨rfl, HB⟩
  · have h1' : 0 ≤ nd := by omega
    by_cases h2 : 12 ≤ nd
    · have e : bb = true := by rw [hbd]; simp; omega
      subst e
      clear hbd
      have h2' : ¬ nd < 12 := by omega
      go_enter Tryd.func33, Tryd.ntmps33
      go_wp2_with fail
      go_ret
      exact ⟨rfl, HB⟩
    · have h2' : nd < 12 := by omega
      by_cases h3 : (40 : Int) < (key.size : Nat)
      · have e : bb = true := by rw [hbd]; simp; omega
        subst e
        clear hbd
        have h3' : ¬ ((key.size : Nat) : Int) ≤ 40 := by omega
        go_enter Tryd.func33, Tryd.ntmps33
        go_wp2_with fail
        go_ret
        exact ⟨rfl, HB⟩
      · have e : bb = false := by rw [hbd]; simp; omega
        subst e
        clear hbd
        have h3' : ((key.size : Nat) : Int) ≤ 40 := by omega
        go_enter Tryd.func33, Tryd.ntmps33
        go_wp2_with fail
        go_ret
        exact ⟨rfl, HB⟩
end Go.Proofs.YtbppiiomjmpjkaaDoor
