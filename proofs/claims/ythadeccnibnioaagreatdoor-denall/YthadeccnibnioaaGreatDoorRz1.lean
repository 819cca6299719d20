import Derived.Test.YthadeccnibnioaaGreatDoorRa
/- The small steps of a reading: refuse, take, must, takeOf. -/
namespace Go.Proofs.YthadeccnibnioaaGreatDoor
open Go.RowKit

theorem run_panic (t : TypeId) (v : Value) (w : World) : (Instr.panic (.iface t v)).run Tryz.prog w = .halt (.panic (.iface t v)) w := rfl

theorem refuse_any {w : World} {rb k dp : Nat} {s : ByteArray} (h : Cx w rb s k dp) :
    Calls Tryz.prog 70 #[.pointer (some ⟨rb, 0, none⟩)] w fun e w' => e = .panicked (flt k 2) ∧ w = w' := by
  have h1 := h.rd.c1
  have hpn := run_panic
  go_enter Tryz.func70, Tryz.ntmps70
  go_wp2_with fail
  exact ⟨rfl, rfl, rfl⟩

theorem take_list (s : ByteArray) (k : Nat) : List.take (s.size - k) (List.drop k s.data.toList) = s.data.toList.drop k := by
  rw [List.take_of_length_le]; simp

theorem take_yes {w : World} {rb k dp : Nat} {s p : ByteArray} (h : Cx w rb s k dp) (hp : p.data.toList <+: s.data.toList.drop k) :
    Calls Tryz.prog 107 #[.pointer (some ⟨rb, 0, none⟩), .string p] w fun e w' => e = .returned (.bool true) ∧ ∃ n, w' = (w.drewN n).setCell ⟨rb, 1, none⟩ (.int .i64 ((k + p.size : Nat) : Int)) := by
  have h0 := h.rd.c0
  have h1 := h.rd.c1
  have fz := h.rd.fz 1
  have hle := h.le
  have hsh := h.short
  have hps : k + p.size ≤ s.size := by
    have := hp.length_le
    simp at this
    have e1 : p.data.size = p.size := rfl
    have e2 : s.data.size = s.size := rfl
    omega
  have hq : Lib.hasPrefix (List.take (s.size - k) (List.drop k s.data.toList)) p.data.toList = true := by
    rw [take_list]; unfold Lib.hasPrefix; exact List.isPrefixOf_iff_prefix.2 hp
  clear hp
  go_enter Tryz.func107, Tryz.ntmps107
  go_wp2_with fail
  go_quiet ((go_at_call 142; exact Calls.quiet_of_same (Tryz.strings_HasPrefix _ _ _)))
  go_wp2_with fail
  go_ret
  exact ⟨rfl, nq, rfl⟩

theorem take_no {w : World} {rb k dp : Nat} {s p : ByteArray} (h : Cx w rb s k dp) (hp : ¬ p.data.toList <+: s.data.toList.drop k) :
    Calls Tryz.prog 107 #[.pointer (some ⟨rb, 0, none⟩), .string p] w fun e w' => e = .returned (.bool false) ∧ ∃ n, w' = w.drewN n := by
  have h0 := h.rd.c0
  have h1 := h.rd.c1
  have hle := h.le
  have hsh := h.short
  have hq : Lib.hasPrefix (List.take (s.size - k) (List.drop k s.data.toList)) p.data.toList = false := by
    rw [take_list]; unfold Lib.hasPrefix
    rw [Bool.eq_false_iff]; exact fun e => hp (List.isPrefixOf_iff_prefix.1 e)
  clear hp
  go_enter Tryz.func107, Tryz.ntmps107
  go_wp2_with fail
  go_quiet ((go_at_call 142; exact Calls.quiet_of_same (Tryz.strings_HasPrefix _ _ _)))
  go_wp2_with fail
  go_ret
  exact ⟨rfl, nq, rfl⟩

theorem must_yes {w : World} {rb k dp : Nat} {s p : ByteArray} (h : Cx w rb s k dp) (hp : p.data.toList <+: s.data.toList.drop k) :
    Calls Tryz.prog 110 #[.pointer (some ⟨rb, 0, none⟩), .string p] w fun e w' => e = .returned (.tuple #[]) ∧ ∃ n, w' = (w.drewN n).setCell ⟨rb, 1, none⟩ (.int .i64 ((k + p.size : Nat) : Int)) := by
  go_enter Tryz.func110, Tryz.ntmps110
  go_wp2_with (go_at_call 107; refine (take_yes h hp).mono ?_; rintro e w' ⟨rfl, n, rfl⟩)
  go_end0
  exact ⟨rfl, n, rfl⟩

theorem must_no {w : World} {rb k dp : Nat} {s p : ByteArray} (h : Cx w rb s k dp) (hp : ¬ p.data.toList <+: s.data.toList.drop k) :
    Calls Tryz.prog 110 #[.pointer (some ⟨rb, 0, none⟩), .string p] w fun e w' => e = .panicked (flt k 2) ∧ ∃ n, w' = w.drewN n := by
  go_enter Tryz.func110, Tryz.ntmps110
  go_wp2_with (first | (go_at_call 107; refine (take_no h hp).mono ?_; rintro e w' ⟨rfl, n, rfl⟩) | (go_at_call 70; refine (refuse_any (w := w.drewN n) ⟨h.rd, h.gl, h.lo, h.le, h.short⟩).mono ?_; rintro e w' ⟨rfl, rfl⟩))
  exact ⟨rfl, rfl, n, rfl⟩

theorem Cx.out {w : World} {rb k dp j n : Nat} {s : ByteArray} (h : Cx w rb s k dp) : Rd ((w.drewN n).setCell ⟨rb, 1, none⟩ (.int .i64 (j : Int))) rb s j dp ∧ Fr [rb] w ((w.drewN n).setCell ⟨rb, 1, none⟩ (.int .i64 (j : Int))) :=
  ⟨(h.rd.drewN n).set1 j, ((Fr.refl _ _).drewN n).setCell (.inl (by simp)) _⟩

theorem idx_neg (l : List UInt8) (c : UInt8) : Lib.indexByte l c < 0 ↔ c ∉ l := by
  have key : Lib.indexByte l c = -1 ∧ c ∉ l ∨ 0 ≤ Lib.indexByte l c ∧ c ∈ l := by
    induction l with
    | nil => left; simp [Lib.indexByte]
    | cons b l ih =>
      by_cases hb : b = c
      · subst hb; right; simp [Lib.indexByte]
      · rcases ih with ⟨h1, h2⟩ | ⟨h1, h2⟩
        · left; exact ⟨by simp [Lib.indexByte, hb, h1], by simp [h2, Ne.symm hb]⟩
        · right; refine ⟨?_, by simp [h2]⟩
          have : ¬ Lib.indexByte l c = -1 := by omega
          simp [Lib.indexByte, hb, this]; omega
  rcases key with ⟨h1, h2⟩ | ⟨h1, h2⟩
  · exact ⟨fun _ => h2, fun _ => by omega⟩
  · exact ⟨fun h => by omega, fun h => absurd h2 h⟩

theorem takeOf_end {w : World} {rb k dp : Nat} {s p : ByteArray} (h : Cx w rb s k dp) (hk : k = s.size) :
    Calls Tryz.prog 141 #[.pointer (some ⟨rb, 0, none⟩), .string p] w fun e w' => e = .returned (.tuple #[.int .u8 0, .bool false]) ∧ ∃ n, w' = w.drewN n := by
  have h0 := h.rd.c0
  have h1 := h.rd.c1
  have hsh := h.short
  have hk' : (k : Int) = (s.size : Int) := by omega
  go_enter Tryz.func141, Tryz.ntmps141
  go_wp2_with fail
  go_quiet ((go_at_call 177; exact Calls.quiet_of_same (Tryz.strings_IndexByte _ _ _)))
  go_wp2_with fail
  go_ret2
  exact ⟨rfl, nq, rfl⟩

theorem takeOf_not {w : World} {rb k dp : Nat} {s p : ByteArray} (h : Cx w rb s k dp) (hk : k < s.size) (hn : s[k] ∉ p.data.toList) :
    Calls Tryz.prog 141 #[.pointer (some ⟨rb, 0, none⟩), .string p] w fun e w' => e = .returned (.tuple #[.int .u8 0, .bool false]) ∧ ∃ n, w' = w.drewN n := by
  have h0 := h.rd.c0
  have h1 := h.rd.c1
  have hsh := h.short
  have hk' : ((k : Int) == (s.size : Int)) = false := by simp; omega
  have hi : Lib.indexByte p.data.toList s[k] < 0 := (idx_neg _ _).2 hn
  clear hn
  go_enter Tryz.func141, Tryz.ntmps141
  go_wp2_with fail
  go_quiet ((go_at_call 177; exact Calls.quiet_of_same (Tryz.strings_IndexByte _ _ _)))
  go_wp2_with fail
  go_ret2
  exact ⟨rfl, nq, rfl⟩

theorem takeOf_in {w : World} {rb k dp : Nat} {s p : ByteArray} (h : Cx w rb s k dp) (hk : k < s.size) (hn : s[k] ∈ p.data.toList) :
    Calls Tryz.prog 141 #[.pointer (some ⟨rb, 0, none⟩), .string p] w fun e w' => e = .returned (.tuple #[.int .u8 s[k].toNat, .bool true]) ∧ Rd w' rb s (k + 1) dp ∧ Fr [rb] w w' := by
  have h0 := h.rd.c0
  have h1 := h.rd.c1
  have fz := h.rd.fz 1
  have hsh := h.short
  have hk' : ((k : Int) == (s.size : Int)) = false := by simp; omega
  have hi : ¬ Lib.indexByte p.data.toList s[k] < 0 := fun e => (idx_neg _ _).1 e hn
  clear hn
  go_enter Tryz.func141, Tryz.ntmps141
  go_wp2_with fail
  go_quiet ((go_at_call 177; exact Calls.quiet_of_same (Tryz.strings_IndexByte _ _ _)))
  go_wp2_with fail
  go_quiet (fail)
  go_wp2_with fail
  go_ret2
  exact ⟨rfl, (h.rd.drewN _).set1 (k + 1), (((Fr.refl _ _).drewN _).setCell (.inl (by simp)) _).drewN _⟩

theorem drop_at {s : ByteArray} {k : Nat} (hk : k < s.size) : s.data.toList.drop k = s[k] :: s.data.toList.drop (k + 1) := by
  rw [List.drop_eq_getElem_cons (by simpa using hk)]; rfl
theorem drop_end {s : ByteArray} {k : Nat} (hk : s.size ≤ k) : s.data.toList.drop k = [] := by
  rw [List.drop_eq_nil_iff]; simpa using hk
theorem drop_len (s : ByteArray) (k : Nat) : (s.data.toList.drop k).length = s.size - k := by simp

/-- Nothing of these comes next. -/
theorem takeOf_none {w : World} {rb k dp : Nat} {s p : ByteArray} (h : Cx w rb s k dp) (ho : opAt p.data.toList (s.data.toList.drop k) = none) :
    Calls Tryz.prog 141 #[.pointer (some ⟨rb, 0, none⟩), .string p] w fun e w' => e = .returned (.tuple #[.int .u8 0, .bool false]) ∧ Rd w' rb s k dp ∧ Fr [rb] w w' := by
  have hle := h.le
  by_cases hk : k = s.size
  · refine (takeOf_end h hk).mono ?_
    rintro e w' ⟨rfl, n, rfl⟩
    exact ⟨rfl, h.rd.drewN n, (Fr.refl _ _).drewN n⟩
  · have hk' : k < s.size := by omega
    refine (takeOf_not h hk' ?_).mono ?_
    · rw [drop_at hk'] at ho
      intro hm; simp [opAt, hm] at ho
    rintro e w' ⟨rfl, n, rfl⟩
    exact ⟨rfl, h.rd.drewN n, (Fr.refl _ _).drewN n⟩

theorem takeOf_some {w : World} {rb k dp : Nat} {s p : ByteArray} {c : UInt8} (h : Cx w rb s k dp) (ho : opAt p.data.toList (s.data.toList.drop k) = some c) :
    Calls Tryz.prog 141 #[.pointer (some ⟨rb, 0, none⟩), .string p] w fun e w' => e = .returned (.tuple #[.int .u8 c.toNat, .bool true]) ∧ Rd w' rb s (k + 1) dp ∧ Fr [rb] w w' := by
  have hle := h.le
  by_cases hk : k < s.size
  · rw [drop_at hk] at ho
    obtain ⟨h1, h2⟩ := opAt_some ho
    simp at h1
    subst h1
    exact takeOf_in h hk h2
  · rw [drop_end (by omega)] at ho; simp [opAt] at ho

theorem pre_one {p : ByteArray} {c : UInt8} (hp : p.data.toList = [c]) (u : List UInt8) : p.data.toList <+: u ↔ u.head? = some c := by
  rw [hp]
  cases u with
  | nil => simp
  | cons a r => simp [eq_comm]

theorem Cx.takeOut {w : World} {rb k dp : Nat} {s p : ByteArray} (h : Cx w rb s k dp) (hp : p.data.toList <+: s.data.toList.drop k) :
    Calls Tryz.prog 107 #[.pointer (some ⟨rb, 0, none⟩), .string p] w fun e w' => e = .returned (.bool true) ∧ Rd w' rb s (k + p.size) dp ∧ Fr [rb] w w' := by
  refine (take_yes h hp).mono ?_
  rintro e w' ⟨rfl, n, rfl⟩
  exact ⟨rfl, h.out.1, h.out.2⟩
theorem Cx.takeNot {w : World} {rb k dp : Nat} {s p : ByteArray} (h : Cx w rb s k dp) (hp : ¬ p.data.toList <+: s.data.toList.drop k) :
    Calls Tryz.prog 107 #[.pointer (some ⟨rb, 0, none⟩), .string p] w fun e w' => e = .returned (.bool false) ∧ Rd w' rb s k dp ∧ Fr [rb] w w' := by
  refine (take_no h hp).mono ?_
  rintro e w' ⟨rfl, n, rfl⟩
  exact ⟨rfl, h.rd.drewN n, (Fr.refl _ _).drewN n⟩
theorem Cx.mustOut {w : World} {rb k dp : Nat} {s p : ByteArray} (h : Cx w rb s k dp) (hp : p.data.toList <+: s.data.toList.drop k) :
    Calls Tryz.prog 110 #[.pointer (some ⟨rb, 0, none⟩), .string p] w fun e w' => e = .returned (.tuple #[]) ∧ Rd w' rb s (k + p.size) dp ∧ Fr [rb] w w' := by
  refine (must_yes h hp).mono ?_
  rintro e w' ⟨rfl, n, rfl⟩
  exact ⟨rfl, h.out.1, h.out.2⟩
theorem Cx.mustNot {w : World} {rb k dp : Nat} {s p : ByteArray} (h : Cx w rb s k dp) (hp : ¬ p.data.toList <+: s.data.toList.drop k) :
    Calls Tryz.prog 110 #[.pointer (some ⟨rb, 0, none⟩), .string p] w fun e w' => e = .panicked (flt k 2) ∧ Fr [rb] w w' := by
  refine (must_no h hp).mono ?_
  rintro e w' ⟨rfl, n, rfl⟩
  exact ⟨rfl, (Fr.refl _ _).drewN n⟩

end Go.Proofs.YthadeccnibnioaaGreatDoor

/- A number that comes next. -/
namespace Go.Proofs.YthadeccnibnioaaGreatDoor
open Go.RowKit

theorem isDg_iff (c : UInt8) : isDg c = true ↔ 48 ≤ (c.toNat : Int) ∧ (c.toNat : Int) ≤ 57 := by
  simp [isDg]; omega

theorem tw_snoc (l : List UInt8) (j : Nat) (hj : j < l.length) (h : ∀ i (hi : i < j), isDg (l[i]'(by omega)) = true) (hc : isDg l[j] = false) : l.takeWhile isDg = l.take j := by
  induction j generalizing l with
  | zero =>
    cases l with
    | nil => simp at hj
    | cons a r => simp at hc; simp [hc]
  | succ j ih =>
    cases l with
    | nil => simp at hj
    | cons a r =>
      have h0 := h 0 (by omega)
      simp at h0
      rw [List.takeWhile_cons, h0]
      simp only [if_true, List.take_succ_cons]
      rw [ih r (by simpa using hj) (fun i hi => by have := h (i + 1) (by omega); simpa using this) (by simpa using hc)]
theorem tw_all (l : List UInt8) (h : ∀ i (hi : i < l.length), isDg l[i] = true) : l.takeWhile isDg = l := by
  have h' : ∀ x ∈ l, isDg x = true := by
    intro x hx
    obtain ⟨i, hi, rfl⟩ := List.getElem_of_mem hx
    exact h i hi
  have := List.takeWhile_append_of_pos (l₂ := []) h'
  simpa using this

theorem ext_list (r : ByteArray) (j : Nat) : (r.extract 0 j).data.toList = r.data.toList.take j := by simp
theorem dig_end {r : ByteArray} {u : List UInt8} (hx : r.data.toList = u) {j : Nat} (hj : j < r.size) (h : ∀ x (hx : x < j), isDg (r[x]'(by omega)) = true) (hc : isDg r[j] = false) : (r.extract 0 j).data.toList = u.takeWhile isDg := by
  subst hx
  rw [ext_list, tw_snoc r.data.toList j (by simpa using hj) (fun i hi => h i hi) hc]
theorem dig_all {r : ByteArray} {u : List UInt8} (hx : r.data.toList = u) {j : Nat} (hj : j = r.size) (h : ∀ x (hx : x < j), isDg (r[x]'(by omega)) = true) : (r.extract 0 j).data.toList = u.takeWhile isDg := by
  subst hx
  rw [ext_list, tw_all r.data.toList (fun i hi => h i (by rw [hj]; simpa using hi)), List.take_of_length_le (by rw [hj]; simp)]

set_option maxHeartbeats 1000000 in
theorem digits_zero {w : World} {rb k dp : Nat} {s : ByteArray} (h : Cx w rb s k dp) (hz : (s.data.toList.drop k).head? = some 48) :
    Calls Tryz.prog 232 #[.pointer (some ⟨rb, 0, none⟩)] w fun e w' => e = .returned (.string ⟨#[48]⟩) ∧ ∃ n, w' = w.drewN n := by
  have h0 := h.rd.c0
  have h1 := h.rd.c1
  have hle := h.le
  have hsh := h.short
  have hq : Lib.hasPrefix (s.extract k s.size).data.toList [48] = true := by
    have : (s.extract k s.size).data.toList = s.data.toList.drop k := by
      rw [← take_list s k]; simp
    rw [this]; unfold Lib.hasPrefix
    rw [head_cons hz]; rfl
  clear hz
  go_enter Tryz.func232, Tryz.ntmps232
  go_wp2_with fail
  go_quiet (fail)
  generalize s.extract k s.size = r at hq ⊢
  go_wp2_with (go_at_call 142; refine (Tryz.strings_HasPrefix _ _ _).mono ?_; rintro e w' ⟨rfl, rfl⟩)
  go_ret
  exact ⟨rfl, nq, rfl⟩

set_option maxHeartbeats 1000000 in
theorem digits_more {w : World} {rb k dp : Nat} {s : ByteArray} (h : Cx w rb s k dp) (hz : (s.data.toList.drop k).head? ≠ some 48) :
    Calls Tryz.prog 232 #[.pointer (some ⟨rb, 0, none⟩)] w fun e w' => (∃ d : ByteArray, e = .returned (.string d) ∧ d.data.toList = (s.data.toList.drop k).takeWhile isDg) ∧ ∃ n, w' = w.drewN n := by
  have h0 := h.rd.c0
  have h1 := h.rd.c1
  have hle := h.le
  have hsh := h.short
  have hx : (s.extract k s.size).data.toList = s.data.toList.drop k := by
    rw [← take_list s k]; simp
  have hq : Lib.hasPrefix (s.extract k s.size).data.toList [48] = false := by
    rw [hx]; unfold Lib.hasPrefix
    cases hd : s.data.toList.drop k with
    | nil => rfl
    | cons a t => rw [hd] at hz; simp at hz; simp [List.isPrefixOf, Ne.symm hz]
  have hsz : (s.extract k s.size).size ≤ 120 := by simp; omega
  have HX := Lib.hid hx
  clear hz hx
  go_enter Tryz.func232, Tryz.ntmps232
  go_wp2_with fail
  go_quiet (fail)
  generalize s.extract k s.size = r at hq HX hsz ⊢
  go_wp2_with (go_at_call 142; refine (Tryz.strings_HasPrefix _ _ _).mono ?_; rintro e w' ⟨rfl, rfl⟩)
  go_loop [4] (fun i => ∃ j : Nat, ∃ hj : j ≤ r.size, i = .int .i64 j ∧ ∀ x (hx : x < j), isDg (r[x]'(by omega)) = true) (fun i => r.size - (intOf i).toNat)
  case atStart => exact ⟨0, Nat.zero_le _, rfl, fun x hx => by omega⟩
  case round =>
    obtain ⟨j, hj, rfl, hall⟩ := hrel
    by_cases hlt : j < r.size
    · by_cases hd : 48 ≤ (r[j].toNat : Int) ∧ (r[j].toNat : Int) ≤ 57
      · obtain ⟨hd1, hd2⟩ := hd
        go_wp2_with fail
        go_round
        case rel =>
          refine ⟨j + 1, hlt, by go_num, fun x hx => ?_⟩
          by_cases hxj : x = j
          · subst hxj; exact (isDg_iff _).2 ⟨hd1, hd2⟩
          · exact hall x (by omega)
        case measure => simp [intOf]; omega
      · have hnd : isDg r[j] = false := by
          rw [Bool.eq_false_iff]; exact fun e => hd ((isDg_iff _).1 e)
        by_cases hd1 : 48 ≤ (r[j].toNat : Int)
        · have hd2 : ¬ (r[j].toNat : Int) ≤ 57 := fun e => hd ⟨hd1, e⟩
          clear hd
          go_wp2_with fail
          go_ret
          exact ⟨⟨_, rfl, dig_end HX.out hlt hall hnd⟩, nq, rfl⟩
        · clear hd
          go_wp2_with fail
          go_ret
          exact ⟨⟨_, rfl, dig_end HX.out hlt hall hnd⟩, nq, rfl⟩
    · go_wp2_with fail
      go_ret
      exact ⟨⟨_, rfl, dig_all HX.out (by omega) hall⟩, nq, rfl⟩

/-- The digits of the number that comes next. -/
theorem digits_any {w : World} {rb k dp : Nat} {s : ByteArray} (h : Cx w rb s k dp) :
    Calls Tryz.prog 232 #[.pointer (some ⟨rb, 0, none⟩)] w fun e w' => (∃ d : ByteArray, e = .returned (.string d) ∧ d.data.toList = digs (s.data.toList.drop k)) ∧ ∃ n, w' = w.drewN n := by
  by_cases hz : (s.data.toList.drop k).head? = some 48
  · refine (digits_zero h hz).mono ?_
    rintro e w' ⟨rfl, hn⟩
    exact ⟨⟨_, rfl, by unfold digs; rw [if_pos hz]⟩, hn⟩
  · refine (digits_more h hz).mono ?_
    rintro e w' ⟨⟨d, rfl, hd⟩, hn⟩
    exact ⟨⟨d, rfl, by unfold digs; rw [if_neg hz]; exact hd⟩, hn⟩

/- what the library makes of digits -/
theorem pu_digits : ∀ (l : List UInt8) (acc : Nat), acc < 18446744073709551616 → (∀ c ∈ l, isDg c = true) →
    Lib.parseUint10 acc l = if valFrom acc l < 18446744073709551616 then .ok (valFrom acc l) else .range := by
  intro l
  induction l with
  | nil => intro acc ha _; rw [valFrom_nil, if_pos ha]; rfl
  | cons c r ih =>
    intro acc ha hd
    have hc : 48 ≤ c.toNat ∧ c.toNat ≤ 57 := by simpa [isDg] using hd c (by simp)
    have hg := valFrom_ge r (stepV acc c)
    have he := stepV_eq acc c
    rw [valFrom_cons]
    unfold Lib.parseUint10
    rw [if_pos hc]
    by_cases h1 : 1844674407370955162 ≤ acc
    · rw [if_pos h1, if_neg (by omega)]
    · rw [if_neg h1]
      by_cases h2 : 18446744073709551616 ≤ acc * 10 + (c.toNat - 48)
      · rw [if_pos h2, if_neg (by omega)]
      · rw [if_neg h2, ← he]
        exact ih _ (by omega) (fun x hx => hd x (by simp [hx]))

theorem atoi_digits (l : List UInt8) (hd : ∀ c ∈ l, isDg c = true) :
    Lib.atoiAll l = if l = [] then .«syntax» else if valFrom 0 l < 9223372036854775808 then .ok (valFrom 0 l : Int) else .range := by
  cases l with
  | nil => rfl
  | cons c r =>
    have hc : 48 ≤ c.toNat ∧ c.toNat ≤ 57 := by simpa [isDg] using hd c (by simp)
    have h43 : ¬ c.toNat = 43 := by omega
    have h45 : ¬ c.toNat = 45 := by omega
    rw [if_neg (by simp)]
    unfold Lib.atoiAll
    simp only [h43, h45, or_self, if_false]
    unfold Lib.parseMag
    rw [if_neg (by simp), pu_digits _ 0 (by omega) hd]
    by_cases h1 : valFrom 0 (c :: r) < 18446744073709551616
    · rw [if_pos h1]
      by_cases h2 : valFrom 0 (c :: r) < 9223372036854775808
      · rw [if_pos h2]; simp [h2]
      · rw [if_neg h2]; simp; omega
    · rw [if_neg h1, if_neg (by omega)]

end Go.Proofs.YthadeccnibnioaaGreatDoor

/- A number is read, or refused where it begins. -/
namespace Go.Proofs.YthadeccnibnioaaGreatDoor
open Go.RowKit

theorem Gl.syn {w : World} (h : Gl w) : ∃ ev, w.cell? ⟨3, 0, none⟩ = some ev ∧ (ev = .nilIface ∨ ∃ te pe, ev = .iface te pe) := h.2.1
theorem Gl.ran {w : World} (h : Gl w) : ∃ ev, w.cell? ⟨4, 0, none⟩ = some ev ∧ (ev = .nilIface ∨ ∃ te pe, ev = .iface te pe) := h.2.2

theorem digs_len (u : List UInt8) : (digs u).length ≤ u.length := by
  have := congrArg List.length (digs_append u)
  simp only [List.length_append] at this; omega

theorem alloc_at {w : World} {o : Obj} {k : Nat} (h : k = w.heap.size) : (w.alloc o).heap[k]? = some o := by
  subst h; show (w.heap.push o)[w.heap.size]? = _; simp

set_option maxHeartbeats 1000000 in
theorem number_ok {w : World} {rb k dp : Nat} {s : ByteArray} (h : Cx w rb s k dp) (hv : digs (s.data.toList.drop k) ≠ [] ∧ valFrom 0 (digs (s.data.toList.drop k)) < 9223372036854775808) :
    Calls Tryz.prog 227 #[.pointer (some ⟨rb, 0, none⟩)] w (Out rb s dp w (.ok (.num (valFrom 0 (digs (s.data.toList.drop k)))) ((s.data.toList.drop k).drop (digs (s.data.toList.drop k)).length))) := by
  have hat := atoi_digits _ (digs_isDg (s.data.toList.drop k))
  rw [if_neg hv.1, if_pos hv.2] at hat
  have hlen := digs_len (s.data.toList.drop k)
  rw [drop_len] at hlen
  generalize valFrom 0 (digs (s.data.toList.drop k)) = v at hat hv ⊢
  have hv2 := hv.2
  clear hv
  have hsh := h.short
  have hle := h.le
  generalize hdg : digs (s.data.toList.drop k) = dg at hat hlen ⊢
  have HDG := Lib.hid hdg
  clear hdg
  go_enter Tryz.func227, Tryz.ntmps227
  go_wp2_with (go_at_call 232; refine (digits_any h).mono ?_; rintro e w' ⟨⟨d, rfl, hd⟩, n, rfl⟩)
  have hds : d.size = dg.length := by rw [← HDG.out, ← hd]; simp
  have hd' : d.data.toList = dg := hd.trans HDG.out
  have hat' : Lib.atoiAll d.data.toList = .ok (v : Int) := by rw [hd']; exact hat
  clear hd hd' hat
  go_wp2_with (go_at_call 130; refine (Tryz.strconv_Atoi_ok d (by omega) v hat' _).mono ?_; rintro e w' ⟨rfl, hw⟩; have hb : Below w.heap.size w w' := (by
    rcases hw with rfl | ⟨t, rfl⟩
    · exact ⟨rfl, rfl, rfl, Nat.le_refl _, fun _ _ => rfl⟩
    · exact Below.trans (b := w.drewN n) ⟨rfl, rfl, rfl, Nat.le_refl _, fun _ _ => rfl⟩ (Lib.bytesWorld_below (w.drewN n) 5 t)); clear hw; have hr' := h.rd.fr (Fr.below (xs := []) hb) (by simp); have c1 := hr'.c1; have fz := hr'.fz 1; have hsz := hb.size)
  go_ret
  refine ⟨w'.heap.size, k + dg.length, rfl, ⟨?_, hv2, ?_⟩, ?_, by omega, by rw [List.drop_drop], ?_⟩
  · exact hsz
  · exact alloc_at (by simp)
  · exact (hr'.set1 (k + dg.length)).alloc _
  · exact ((Fr.below hb).setCell (.inl (by simp)) _).alloc _

set_option maxHeartbeats 1000000 in
theorem number_no {w : World} {rb k dp : Nat} {s : ByteArray} (h : Cx w rb s k dp) (hv : ¬ (digs (s.data.toList.drop k) ≠ [] ∧ valFrom 0 (digs (s.data.toList.drop k)) < 9223372036854775808)) :
    Calls Tryz.prog 227 #[.pointer (some ⟨rb, 0, none⟩)] w fun e w' => e = .panicked (flt k 2) ∧ Fr [rb] w w' := by
  have hat := atoi_digits _ (digs_isDg (s.data.toList.drop k))
  have hat2 : Lib.atoiAll (digs (s.data.toList.drop k)) = .«syntax» ∨ Lib.atoiAll (digs (s.data.toList.drop k)) = .range := by
    rw [hat]
    by_cases h1 : digs (s.data.toList.drop k) = []
    · rw [if_pos h1]; exact .inl rfl
    · rw [if_neg h1, if_neg (fun h2 => hv ⟨h1, h2⟩)]; exact .inr rfl
  have hlen := digs_len (s.data.toList.drop k)
  rw [drop_len] at hlen
  clear hv hat
  have hsh := h.short
  have hle := h.le
  generalize hdg : digs (s.data.toList.drop k) = dg at hat2 hlen
  have HDG := Lib.hid hdg
  clear hdg
  obtain ⟨e1, g1, g1'⟩ := h.gl.syn
  obtain ⟨e2, g2, g2'⟩ := h.gl.ran
  go_enter Tryz.func227, Tryz.ntmps227
  go_wp2_with (go_at_call 232; refine (digits_any h).mono ?_; rintro e w' ⟨⟨d, rfl, hd⟩, n, rfl⟩)
  have hds : d.size = dg.length := by rw [← HDG.out, ← hd]; simp
  have hd' : d.data.toList = dg := hd.trans HDG.out
  rw [← hd'] at hat2
  clear hd hd'
  rcases hat2 with hat | hat
  · go_wp2_with (first | (go_at_call 130; refine (Tryz.strconv_Atoi_syntax d (by omega) hat e1 (w.drewN n) g1 g1').mono ?_; rintro e w' ⟨N, rfl, hN, hblk, hbb⟩; have hb : Below w.heap.size w w' := Below.trans (b := w.drewN n) ⟨rfl, rfl, rfl, Nat.le_refl _, fun _ _ => rfl⟩ hbb; have hr' : Cx w' rb s k dp := h.fr (Fr.below hb) (h.rd.fr (Fr.below (xs := []) hb) (by simp)) h.le; clear hblk) | (go_at_call 70; refine (refuse_any hr').mono ?_; rintro e w2 ⟨rfl, rfl⟩))
    exact ⟨rfl, rfl, Fr.below hb⟩
  · go_wp2_with (first | (go_at_call 130; refine (Tryz.strconv_Atoi_range d (by omega) hat e2 (w.drewN n) g2 g2').mono ?_; rintro e w' ⟨N, rfl, hN, hblk, hbb⟩; have hb : Below w.heap.size w w' := Below.trans (b := w.drewN n) ⟨rfl, rfl, rfl, Nat.le_refl _, fun _ _ => rfl⟩ hbb; have hr' : Cx w' rb s k dp := h.fr (Fr.below hb) (h.rd.fr (Fr.below (xs := []) hb) (by simp)) h.le; clear hblk) | (go_at_call 70; refine (refuse_any hr').mono ?_; rintro e w2 ⟨rfl, rfl⟩))
    exact ⟨rfl, rfl, Fr.below hb⟩

theorem at_of {s : ByteArray} {k : Nat} (hk : k ≤ s.size) : s.size - (s.data.toList.drop k).length = k := by rw [drop_len]; omega

theorem number_any {w : World} {rb k dp : Nat} {s : ByteArray} (h : Cx w rb s k dp) :
    Calls Tryz.prog 227 #[.pointer (some ⟨rb, 0, none⟩)] w (Out rb s dp w (numF (s.data.toList.drop k))) := by
  unfold numF
  split
  · rename_i hv; exact number_ok h hv
  · rename_i hv
    refine (number_no h hv).mono ?_
    rintro e w' ⟨rfl, hf⟩
    exact ⟨by rw [at_of h.le], hf⟩

end Go.Proofs.YthadeccnibnioaaGreatDoor
