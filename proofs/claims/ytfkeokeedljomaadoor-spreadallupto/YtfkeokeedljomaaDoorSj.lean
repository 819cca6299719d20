/- Least: who gets which load. -/
import Derived.Test.YtfkeokeedljomaaDoorSh0
import Derived.Test.YtfkeokeedljomaaDoorSi
namespace Go.Proofs.YtfkeokeedljomaaDoor
open Go.RowKit
set_option linter.unusedVariables false
set_option linter.unusedSimpArgs false

def badL (x : Int) : Bool := decide (x < 0) || decide (x > 1000000)
set_option maxHeartbeats 1000000 in
theorem isno_any (x : Int) (w : World) : Calls Tryd.prog 17 #[.int .i64 x] w fun e w' => e = .returned (.bool (badL x)) ∧ w' = w := by
  unfold badL
  by_cases h : x < 0
  · have h1 : decide (x < 0) = true := decide_eq_true h
    go_enter Tryd.func17, Tryd.ntmps17
    go_wp2
    go_ret
    exact ⟨by simp [h], rfl⟩
  · have h1 : decide (x < 0) = false := decide_eq_false h
    by_cases h2 : x > 1000000
    · go_enter Tryd.func17, Tryd.ntmps17
      go_wp2
      go_ret
      exact ⟨by simp [h, h2], rfl⟩
    · go_enter Tryd.func17, Tryd.ntmps17
      go_wp2
      go_ret
      exact ⟨by simp [h, h2], rfl⟩
set_option maxHeartbeats 1000000 in
theorem ifn_any (w : World) (la : Option Addr) (cap n : Nat) (L : List Int) (h : CsAt w la (icells L)) (hn : n = L.length) (hl : n < 4611686018427387904) :
    Calls Tryd.prog 22 #[.slice la n cap, .func (.func 17) #[] #[]] w fun e w' => (∃ r : Int, e = .returned (.int .i64 r) ∧ decide (r ≥ 0) = L.any badL) ∧ w' = w := by
  have HC : Hid (CsAt w la (icells L)) := h
  have HN : Hid (n = L.length) := hn
  clear h hn
  go_enter Tryd.func22, Tryd.ntmps22
  go_wp2_with fail
  go_loopw [8] (fun vi wr => ∃ k : Nat, vi = .int .i64 (k : Int) ∧ k ≤ n ∧ Hid ((L.take k).any badL = false) ∧ Hid (wr = w)) (fun vi _ => n - (intOf vi).toNat)
  case atStart => exact ⟨0, rfl, by omega, by show _ = _; simp, rfl⟩
  case round =>
    obtain ⟨k, rfl, hk, ha, hw⟩ := hrel
    obtain rfl := hw.out
    by_cases hlt : k < n
    · have hz : (k : Int) < (n : Int) := by omega
      obtain ⟨b, o, rfl, c1⟩ := is_at HC.out k (by have := HN.out; omega)
      have hkl : k < L.length := by have := HN.out; omega
      have hs := any_snoc badL L k hkl
      rw [ha.out, Bool.false_or] at hs
      have HS : Hid ((L.take (k + 1)).any badL = badL L[k]) := hs
      have HY : Hid (badL L[k] = true → L.any badL = true) := fun h => any_at k hkl h
      clear hs
      generalize L[k] = x at c1 HS HY
      cases hb : badL x with
      | true =>
        have HB : Hid (badL x = true) := hb
        clear hb
        have hc := isno_any x wr
        rw [HB.out] at hc
        go_wp2_with (go_at_call 17; refine hc.mono ?_; rintro e w' ⟨rfl, rfl⟩)
        go_ret
        exact ⟨⟨_, rfl, by rw [HY.out HB.out]; simp⟩, rfl⟩
      | false =>
        have HB : Hid (badL x = false) := hb
        clear hb
        have hc := isno_any x wr
        rw [HB.out] at hc
        go_wp2_with (go_at_call 17; refine hc.mono ?_; rintro e w' ⟨rfl, rfl⟩)
        exact ⟨⟨k + 1, by go_num, by omega, by show _ = _; rw [HS.out]; exact HB.out, Lib.hid (by trivial)⟩, by simp [intOf]; omega⟩
    · have hz : ¬ (k : Int) < (n : Int) := by omega
      have HKL : Hid (k = L.length) := by have := HN.out; show _ = _; omega
      go_wp2_with fail
      go_ret
      exact ⟨⟨_, rfl, by have := ha.out; rw [HKL.out, List.take_length] at this; rw [this]; rfl⟩, rfl⟩
set_option maxHeartbeats 1000000 in
theorem cfn_any (w : World) (la : Option Addr) (cap n : Nat) (L : List Int) (h : CsAt w la (icells L)) (hn : n = L.length) (hl : n < 4611686018427387904) :
    Calls Tryd.prog 16 #[.slice la n cap, .func (.func 17) #[] #[]] w fun e w' => e = .returned (.bool (L.any badL)) ∧ w' = w := by
  have H := Lib.hid (ifn_any w la cap n L h hn hl)
  clear h hn
  go_enter Tryd.func16, Tryd.ntmps16
  go_wp2_with fail
  refine H.out.mono ?_
  rintro e w' ⟨⟨r, rfl, hr⟩, rfl⟩
  have HR : Hid (decide (r ≥ 0) = L.any badL) := hr
  clear hr
  go_wp2_with fail
  all_goals (go_ret; exact ⟨by rw [← HR.out]; rfl, rfl⟩)

def erC (n m : Int) : Nat := if m < 1 ∨ 16 < m then 1 else if 400 < n then 4 else 0
set_option maxHeartbeats 1000000 in
theorem isw_any (m : Int) (w : World) : Calls Tryd.prog 20 #[.int .i64 m] w fun e w' => e = .returned (.bool (decide (1 ≤ m) && decide (m ≤ 16))) ∧ w' = w := by
  by_cases h : 1 ≤ m
  · have h1 : decide (m ≥ 1) = true := decide_eq_true h
    by_cases h2 : m ≤ 16
    · go_enter Tryd.func20, Tryd.ntmps20
      go_wp2
      go_ret
      exact ⟨by simp [h, h2], rfl⟩
    · go_enter Tryd.func20, Tryd.ntmps20
      go_wp2
      go_ret
      exact ⟨by simp [h, h2], rfl⟩
  · have h1 : decide (m ≥ 1) = false := decide_eq_false h
    go_enter Tryd.func20, Tryd.ntmps20
    go_wp2
    go_ret
    exact ⟨by simp [h], rfl⟩
set_option maxHeartbeats 1000000 in
theorem chk_any (n m : Int) (w : World) : Calls Tryd.prog 13 #[.int .i64 n, .int .i64 m] w fun e w' => e = .returned (errV (erC n m)) ∧ w' = w := by
  have hw := isw_any m w
  by_cases h : m < 1 ∨ 16 < m
  · have hb : (decide (1 ≤ m) && decide (m ≤ 16)) = false := by rw [Bool.and_eq_false_iff, decide_eq_false_iff_not, decide_eq_false_iff_not]; omega
    rw [hb] at hw
    have he : Hid (erC n m = 1) := by show _ = _; unfold erC; rw [if_pos h]
    clear hb h
    go_enter Tryd.func13, Tryd.ntmps13
    go_wp2_with (go_at_call 20; refine hw.mono ?_; rintro e w' ⟨rfl, rfl⟩)
    go_ret
    exact ⟨by rw [he.out]; rfl, rfl⟩
  · have hb : (decide (1 ≤ m) && decide (m ≤ 16)) = true := by simp; omega
    rw [hb] at hw
    by_cases h2 : 400 < n
    · have he : Hid (erC n m = 4) := by show _ = _; unfold erC; rw [if_neg h, if_pos h2]
      have h3 : n > 400 := h2
      clear hb h
      go_enter Tryd.func13, Tryd.ntmps13
      go_wp2_with (go_at_call 20; refine hw.mono ?_; rintro e w' ⟨rfl, rfl⟩)
      go_ret
      exact ⟨by rw [he.out]; rfl, rfl⟩
    · have he : Hid (erC n m = 0) := by show _ = _; unfold erC; rw [if_neg h, if_neg h2]
      have h3 : ¬ n > 400 := h2
      clear hb h
      go_enter Tryd.func13, Tryd.ntmps13
      go_wp2_with (go_at_call 20; refine hw.mono ?_; rintro e w' ⟨rfl, rfl⟩)
      go_ret
      exact ⟨by rw [he.out]; rfl, rfl⟩

set_option maxHeartbeats 1000000 in
theorem newg_any (m : Nat) (h0 : 0 < m) (hm : m ≤ 16) (w : World) : Calls Tryd.prog 23 #[.int .i64 m] w fun e w' => e = .returned (.func (.func 29) #[] #[.pointer (some ⟨w.heap.size + 1, 0, none⟩)]) ∧ BxAt w' (w.heap.size + 1) w.heap.size m m (List.replicate m 0) ∧ w'.heap.size = w.heap.size + 2 ∧ Below w.heap.size w w' := by
  have HMK := make_i m (by omega)
  go_enter Tryd.func23, Tryd.ntmps23
  go_wp2_with fail
  have hz := ZR.made w m
  have hF : Fr [] (w.alloc (.cells (madeCells #[.int .i64 0] m) 3)) ((w.alloc (.cells (madeCells #[.int .i64 0] m) 3)).alloc (.cells #[.slice (some ⟨w.heap.size, 0, none⟩) m m] 33)) := (Fr.refl _ _).alloc _
  have hz2 := hz.fr (xs := []) (by simp) hF
  go_ret
  exact ⟨rfl, ⟨by simp [go_sem], hz2, by simp, by omega⟩, by simp, ((Below.refl _ _).alloc (Nat.le_refl _) _).alloc (by simp) _⟩

theorem errV_ne {k : Nat} (h : k ≠ 0) : ∃ tv, errV k = .iface 38 tv := ⟨_, by unfold errV; rw [if_neg h]⟩
theorem erC_ok {n m : Int} (h : erC n m = 0) : 1 ≤ m ∧ m ≤ 16 ∧ n ≤ 400 := by
  unfold erC at h
  split at h
  · cases h
  · split at h
    · cases h
    · omega
end Go.Proofs.YtfkeokeedljomaaDoor
