/- A number that comes next. -/
import Derived.Test.YthadeccnibnioaaGreatDoorRb
namespace Go.Proofs.YthadeccnibnioaaGreatDoor
open Go.RowKit

theorem isDg_iff (c : UInt8) : isDg c = true ↔ 48 ≤ (c.toNat : Int) ∧ (c.toNat : Int) ≤ 57 := by
  simp [isDg]; omega

theorem tw_snoc (l : List UInt8) (j : Nat) (hj : j < l.length) (h : ∀ i (hi : i < j), isDg (l[i]'(by omega)) = true) (hc : isDg l[j] = false) : l.takeWhile isDg = l.take j := by
  induction j generalizing l with
  | zero =>
    cases l with
    | nil => simp at hj
    | cons a r => simp at hc; simp [hc]
  | succ j ih =>
    cases l with
    | nil => simp at hj
    | cons a r =>
      have h0 := h 0 (by omega)
      simp at h0
      rw [List.takeWhile_cons, h0]
      simp only [if_true, List.take_succ_cons]
      rw [ih r (by simpa using hj) (fun i hi => by have := h (i + 1) (by omega); simpa using this) (by simpa using hc)]
theorem tw_all (l : List UInt8) (h : ∀ i (hi : i < l.length), isDg l[i] = true) : l.takeWhile isDg = l := by
  have h' : ∀ x ∈ l, isDg x = true := by
    intro x hx
    obtain ⟨i, hi, rfl⟩ := List.getElem_of_mem hx
    exact h i hi
  have := List.takeWhile_append_of_pos (l₂ := []) h'
  simpa using this

theorem ext_list (r : ByteArray) (j : Nat) : (r.extract 0 j).data.toList = r.data.toList.take j := by simp
theorem dig_end {r : ByteArray} {u : List UInt8} (hx : r.data.toList = u) {j : Nat} (hj : j < r.size) (h : ∀ x (hx : x < j), isDg (r[x]'(by omega)) = true) (hc : isDg r[j] = false) : (r.extract 0 j).data.toList = u.takeWhile isDg := by
  subst hx
  rw [ext_list, tw_snoc r.data.toList j (by simpa using hj) (fun i hi => h i hi) hc]
theorem dig_all {r : ByteArray} {u : List UInt8} (hx : r.data.toList = u) {j : Nat} (hj : j = r.size) (h : ∀ x (hx : x < j), isDg (r[x]'(by omega)) = true) : (r.extract 0 j).data.toList = u.takeWhile isDg := by
  subst hx
  rw [ext_list, tw_all r.data.toList (fun i hi => h i (by rw [hj]; simpa using hi)), List.take_of_length_le (by rw [hj]; simp)]

set_option maxHeartbeats 1000000 in
theorem digits_zero {w : World} {rb k dp : Nat} {s : ByteArray} (h : Cx w rb s k dp) (hz : (s.data.toList.drop k).head? = some 48) :
    Calls Tryz.prog 232 #[.pointer (some ⟨rb, 0, none⟩)] w fun e w' => e = .returned (.string ⟨#[48]⟩) ∧ ∃ n, w' = w.drewN n := by
  have h0 := h.rd.c0
  have h1 := h.rd.c1
  have hle := h.le
  have hsh := h.short
  have hq : Lib.hasPrefix (s.extract k s.size).data.toList [48] = true := by
    have : (s.extract k s.size).data.toList = s.data.toList.drop k := by
      rw [← take_list s k]; simp
    rw [this]; unfold Lib.hasPrefix
    rw [head_cons hz]; rfl
  clear hz
  go_enter Tryz.func232, Tryz.ntmps232
  go_wp2_with fail
  go_quiet (fail)
  generalize s.extract k s.size = r at hq ⊢
  go_wp2_with (go_at_call 142; refine (Tryz.strings_HasPrefix _ _ _).mono ?_; rintro e w' ⟨rfl, rfl⟩)
  go_ret
  exact ⟨rfl, nq, rfl⟩

set_option maxHeartbeats 1000000 in
theorem digits_more {w : World} {rb k dp : Nat} {s : ByteArray} (h : Cx w rb s k dp) (hz : (s.data.toList.drop k).head? ≠ some 48) :
    Calls Tryz.prog 232 #[.pointer (some ⟨rb, 0, none⟩)] w fun e w' => (∃ d : ByteArray, e = .returned (.string d) ∧ d.data.toList = (s.data.toList.drop k).takeWhile isDg) ∧ ∃ n, w' = w.drewN n := by
  have h0 := h.rd.c0
  have h1 := h.rd.c1
  have hle := h.le
  have hsh := h.short
  have hx : (s.extract k s.size).data.toList = s.data.toList.drop k := by
    rw [← take_list s k]; simp
  have hq : Lib.hasPrefix (s.extract k s.size).data.toList [48] = false := by
    rw [hx]; unfold Lib.hasPrefix
    cases hd : s.data.toList.drop k with
    | nil => rfl
    | cons a t => rw [hd] at hz; simp at hz; simp [List.isPrefixOf, Ne.symm hz]
  have hsz : (s.extract k s.size).size ≤ 120 := by simp; omega
  have HX := Lib.hid hx
  clear hz hx
  go_enter Tryz.func232, Tryz.ntmps232
  go_wp2_with fail
  go_quiet (fail)
  generalize s.extract k s.size = r at hq HX hsz ⊢
  go_wp2_with (go_at_call 142; refine (Tryz.strings_HasPrefix _ _ _).mono ?_; rintro e w' ⟨rfl, rfl⟩)
  go_loop [4] (fun i => ∃ j : Nat, ∃ hj : j ≤ r.size, i = .int .i64 j ∧ ∀ x (hx : x < j), isDg (r[x]'(by omega)) = true) (fun i => r.size - (intOf i).toNat)
  case atStart => exact ⟨0, Nat.zero_le _, rfl, fun x hx => by omega⟩
  case round =>
    obtain ⟨j, hj, rfl, hall⟩ := hrel
    by_cases hlt : j < r.size
    · by_cases hd : 48 ≤ (r[j].toNat : Int) ∧ (r[j].toNat : Int) ≤ 57
      · obtain ⟨hd1, hd2⟩ := hd
        go_wp2_with fail
        go_round
        case rel =>
          refine ⟨j + 1, hlt, by go_num, fun x hx => ?_⟩
          by_cases hxj : x = j
          · subst hxj; exact (isDg_iff _).2 ⟨hd1, hd2⟩
          · exact hall x (by omega)
        case measure => simp [intOf]; omega
      · have hnd : isDg r[j] = false := by
          rw [Bool.eq_false_iff]; exact fun e => hd ((isDg_iff _).1 e)
        by_cases hd1 : 48 ≤ (r[j].toNat : Int)
        · have hd2 : ¬ (r[j].toNat : Int) ≤ 57 := fun e => hd ⟨hd1, e⟩
          clear hd
          go_wp2_with fail
          go_ret
          exact ⟨⟨_, rfl, dig_end HX.out hlt hall hnd⟩, nq, rfl⟩
        · clear hd
          go_wp2_with fail
          go_ret
          exact ⟨⟨_, rfl, dig_end HX.out hlt hall hnd⟩, nq, rfl⟩
    · go_wp2_with fail
      go_ret
      exact ⟨⟨_, rfl, dig_all HX.out (by omega) hall⟩, nq, rfl⟩

/-- The digits of the number that comes next. -/
theorem digits_any {w : World} {rb k dp : Nat} {s : ByteArray} (h : Cx w rb s k dp) :
    Calls Tryz.prog 232 #[.pointer (some ⟨rb, 0, none⟩)] w fun e w' => (∃ d : ByteArray, e = .returned (.string d) ∧ d.data.toList = digs (s.data.toList.drop k)) ∧ ∃ n, w' = w.drewN n := by
  by_cases hz : (s.data.toList.drop k).head? = some 48
  · refine (digits_zero h hz).mono ?_
    rintro e w' ⟨rfl, hn⟩
    exact ⟨⟨_, rfl, by unfold digs; rw [if_pos hz]⟩, hn⟩
  · refine (digits_more h hz).mono ?_
    rintro e w' ⟨⟨d, rfl, hd⟩, hn⟩
    exact ⟨⟨d, rfl, by unfold digs; rw [if_neg hz]; exact hd⟩, hn⟩

/- what the library makes of digits -/
theorem pu_digits : ∀ (l : List UInt8) (acc : Nat), acc < 18446744073709551616 → (∀ c ∈ l, isDg c = true) →
    Lib.parseUint10 acc l = if valFrom acc l < 18446744073709551616 then .ok (valFrom acc l) else .range := by
  intro l
  induction l with
  | nil => intro acc ha _; rw [valFrom_nil, if_pos ha]; rfl
  | cons c r ih =>
    intro acc ha hd
    have hc : 48 ≤ c.toNat ∧ c.toNat ≤ 57 := by simpa [isDg] using hd c (by simp)
    have hg := valFrom_ge r (stepV acc c)
    have he := stepV_eq acc c
    rw [valFrom_cons]
    unfold Lib.parseUint10
    rw [if_pos hc]
    by_cases h1 : 1844674407370955162 ≤ acc
    · rw [if_pos h1, if_neg (by omega)]
    · rw [if_neg h1]
      by_cases h2 : 18446744073709551616 ≤ acc * 10 + (c.toNat - 48)
      · rw [if_pos h2, if_neg (by omega)]
      · rw [if_neg h2, ← he]
        exact ih _ (by omega) (fun x hx => hd x (by simp [hx]))

theorem atoi_digits (l : List UInt8) (hd : ∀ c ∈ l, isDg c = true) :
    Lib.atoiAll l = if l = [] then .«syntax» else if valFrom 0 l < 9223372036854775808 then .ok (valFrom 0 l : Int) else .range := by
  cases l with
  | nil => rfl
  | cons c r =>
    have hc : 48 ≤ c.toNat ∧ c.toNat ≤ 57 := by simpa [isDg] using hd c (by simp)
    have h43 : ¬ c.toNat = 43 := by omega
    have h45 : ¬ c.toNat = 45 := by omega
    rw [if_neg (by simp)]
    unfold Lib.atoiAll
    simp only [h43, h45, or_self, if_false]
    unfold Lib.parseMag
    rw [if_neg (by simp), pu_digits _ 0 (by omega) hd]
    by_cases h1 : valFrom 0 (c :: r) < 18446744073709551616
    · rw [if_pos h1]
      by_cases h2 : valFrom 0 (c :: r) < 9223372036854775808
      · rw [if_pos h2]; simp [h2]
      · rw [if_neg h2]; simp; omega
    · rw [if_neg h1, if_neg (by omega)]

end Go.Proofs.YthadeccnibnioaaGreatDoor
