/- The small steps of a reading: refuse, take, must, takeOf. -/
import Derived.Test.YthadeccnibnioaaGreatDoorRa
namespace Go.Proofs.YthadeccnibnioaaGreatDoor
open Go.RowKit

theorem run_panic (t : TypeId) (v : Value) (w : World) : (Instr.panic (.iface t v)).run Tryz.prog w = .halt (.panic (.iface t v)) w := rfl

theorem refuse_any {w : World} {rb k dp : Nat} {s : ByteArray} (h : Cx w rb s k dp) :
    Calls Tryz.prog 70 #[.pointer (some ⟨rb, 0, none⟩)] w fun e w' => e = .panicked (flt k 2) ∧ w = w' := by
  have h1 := h.rd.c1
  have hpn := run_panic
  go_enter Tryz.func70, Tryz.ntmps70
  go_wp2_with fail
  exact ⟨rfl, rfl, rfl⟩

theorem take_list (s : ByteArray) (k : Nat) : List.take (s.size - k) (List.drop k s.data.toList) = s.data.toList.drop k := by
  rw [List.take_of_length_le]; simp

theorem take_yes {w : World} {rb k dp : Nat} {s p : ByteArray} (h : Cx w rb s k dp) (hp : p.data.toList <+: s.data.toList.drop k) :
    Calls Tryz.prog 107 #[.pointer (some ⟨rb, 0, none⟩), .string p] w fun e w' => e = .returned (.bool true) ∧ ∃ n, w' = (w.drewN n).setCell ⟨rb, 1, none⟩ (.int .i64 ((k + p.size : Nat) : Int)) := by
  have h0 := h.rd.c0
  have h1 := h.rd.c1
  have fz := h.rd.fz 1
  have hle := h.le
  have hsh := h.short
  have hps : k + p.size ≤ s.size := by
    have := hp.length_le
    simp at this
    have e1 : p.data.size = p.size := rfl
    have e2 : s.data.size = s.size := rfl
    omega
  have hq : Lib.hasPrefix (List.take (s.size - k) (List.drop k s.data.toList)) p.data.toList = true := by
    rw [take_list]; unfold Lib.hasPrefix; exact List.isPrefixOf_iff_prefix.2 hp
  clear hp
  go_enter Tryz.func107, Tryz.ntmps107
  go_wp2_with fail
  go_quiet ((go_at_call 142; exact Calls.quiet_of_same (Tryz.strings_HasPrefix _ _ _)))
  go_wp2_with fail
  go_ret
  exact ⟨rfl, nq, rfl⟩

theorem take_no {w : World} {rb k dp : Nat} {s p : ByteArray} (h : Cx w rb s k dp) (hp : ¬ p.data.toList <+: s.data.toList.drop k) :
    Calls Tryz.prog 107 #[.pointer (some ⟨rb, 0, none⟩), .string p] w fun e w' => e = .returned (.bool false) ∧ ∃ n, w' = w.drewN n := by
  have h0 := h.rd.c0
  have h1 := h.rd.c1
  have hle := h.le
  have hsh := h.short
  have hq : Lib.hasPrefix (List.take (s.size - k) (List.drop k s.data.toList)) p.data.toList = false := by
    rw [take_list]; unfold Lib.hasPrefix
    rw [Bool.eq_false_iff]; exact fun e => hp (List.isPrefixOf_iff_prefix.1 e)
  clear hp
  go_enter Tryz.func107, Tryz.ntmps107
  go_wp2_with fail
  go_quiet ((go_at_call 142; exact Calls.quiet_of_same (Tryz.strings_HasPrefix _ _ _)))
  go_wp2_with fail
  go_ret
  exact ⟨rfl, nq, rfl⟩

theorem must_yes {w : World} {rb k dp : Nat} {s p : ByteArray} (h : Cx w rb s k dp) (hp : p.data.toList <+: s.data.toList.drop k) :
    Calls Tryz.prog 110 #[.pointer (some ⟨rb, 0, none⟩), .string p] w fun e w' => e = .returned (.tuple #[]) ∧ ∃ n, w' = (w.drewN n).setCell ⟨rb, 1, none⟩ (.int .i64 ((k + p.size : Nat) : Int)) := by
  go_enter Tryz.func110, Tryz.ntmps110
  go_wp2_with (go_at_call 107; refine (take_yes h hp).mono ?_; rintro e w' ⟨rfl, n, rfl⟩)
  go_end0
  exact ⟨rfl, n, rfl⟩

theorem must_no {w : World} {rb k dp : Nat} {s p : ByteArray} (h : Cx w rb s k dp) (hp : ¬ p.data.toList <+: s.data.toList.drop k) :
    Calls Tryz.prog 110 #[.pointer (some ⟨rb, 0, none⟩), .string p] w fun e w' => e = .panicked (flt k 2) ∧ ∃ n, w' = w.drewN n := by
  go_enter Tryz.func110, Tryz.ntmps110
  go_wp2_with (first | (go_at_call 107; refine (take_no h hp).mono ?_; rintro e w' ⟨rfl, n, rfl⟩) | (go_at_call 70; refine (refuse_any (w := w.drewN n) ⟨h.rd, h.gl, h.lo, h.le, h.short⟩).mono ?_; rintro e w' ⟨rfl, rfl⟩))
  exact ⟨rfl, rfl, n, rfl⟩

theorem Cx.out {w : World} {rb k dp j n : Nat} {s : ByteArray} (h : Cx w rb s k dp) : Rd ((w.drewN n).setCell ⟨rb, 1, none⟩ (.int .i64 (j : Int))) rb s j dp ∧ Fr [rb] w ((w.drewN n).setCell ⟨rb, 1, none⟩ (.int .i64 (j : Int))) :=
  ⟨(h.rd.drewN n).set1 j, ((Fr.refl _ _).drewN n).setCell (.inl (by simp)) _⟩

theorem idx_neg (l : List UInt8) (c : UInt8) : Lib.indexByte l c < 0 ↔ c ∉ l := by
  have key : Lib.indexByte l c = -1 ∧ c ∉ l ∨ 0 ≤ Lib.indexByte l c ∧ c ∈ l := by
    induction l with
    | nil => left; simp [Lib.indexByte]
    | cons b l ih =>
      by_cases hb : b = c
      · subst hb; right; simp [Lib.indexByte]
      · rcases ih with ⟨h1, h2⟩ | ⟨h1, h2⟩
        · left; exact ⟨by simp [Lib.indexByte, hb, h1], by simp [h2, Ne.symm hb]⟩
        · right; refine ⟨?_, by simp [h2]⟩
          have : ¬ Lib.indexByte l c = -1 := by omega
          simp [Lib.indexByte, hb, this]; omega
  rcases key with ⟨h1, h2⟩ | ⟨h1, h2⟩
  · exact ⟨fun _ => h2, fun _ => by omega⟩
  · exact ⟨fun h => by omega, fun h => absurd h2 h⟩

theorem takeOf_end {w : World} {rb k dp : Nat} {s p : ByteArray} (h : Cx w rb s k dp) (hk : k = s.size) :
    Calls Tryz.prog 141 #[.pointer (some ⟨rb, 0, none⟩), .string p] w fun e w' => e = .returned (.tuple #[.int .u8 0, .bool false]) ∧ ∃ n, w' = w.drewN n := by
  have h0 := h.rd.c0
  have h1 := h.rd.c1
  have hsh := h.short
  have hk' : (k : Int) = (s.size : Int) := by omega
  go_enter Tryz.func141, Tryz.ntmps141
  go_wp2_with fail
  go_quiet ((go_at_call 177; exact Calls.quiet_of_same (Tryz.strings_IndexByte _ _ _)))
  go_wp2_with fail
  go_ret2
  exact ⟨rfl, nq, rfl⟩

theorem takeOf_not {w : World} {rb k dp : Nat} {s p : ByteArray} (h : Cx w rb s k dp) (hk : k < s.size) (hn : s[k] ∉ p.data.toList) :
    Calls Tryz.prog 141 #[.pointer (some ⟨rb, 0, none⟩), .string p] w fun e w' => e = .returned (.tuple #[.int .u8 0, .bool false]) ∧ ∃ n, w' = w.drewN n := by
  have h0 := h.rd.c0
  have h1 := h.rd.c1
  have hsh := h.short
  have hk' : ((k : Int) == (s.size : Int)) = false := by simp; omega
  have hi : Lib.indexByte p.data.toList s[k] < 0 := (idx_neg _ _).2 hn
  clear hn
  go_enter Tryz.func141, Tryz.ntmps141
  go_wp2_with fail
  go_quiet ((go_at_call 177; exact Calls.quiet_of_same (Tryz.strings_IndexByte _ _ _)))
  go_wp2_with fail
  go_ret2
  exact ⟨rfl, nq, rfl⟩

theorem takeOf_in {w : World} {rb k dp : Nat} {s p : ByteArray} (h : Cx w rb s k dp) (hk : k < s.size) (hn : s[k] ∈ p.data.toList) :
    Calls Tryz.prog 141 #[.pointer (some ⟨rb, 0, none⟩), .string p] w fun e w' => e = .returned (.tuple #[.int .u8 s[k].toNat, .bool true]) ∧ Rd w' rb s (k + 1) dp ∧ Fr [rb] w w' := by
  have h0 := h.rd.c0
  have h1 := h.rd.c1
  have fz := h.rd.fz 1
  have hsh := h.short
  have hk' : ((k : Int) == (s.size : Int)) = false := by simp; omega
  have hi : ¬ Lib.indexByte p.data.toList s[k] < 0 := fun e => (idx_neg _ _).1 e hn
  clear hn
  go_enter Tryz.func141, Tryz.ntmps141
  go_wp2_with fail
  go_quiet ((go_at_call 177; exact Calls.quiet_of_same (Tryz.strings_IndexByte _ _ _)))
  go_wp2_with fail
  go_quiet (fail)
  go_wp2_with fail
  go_ret2
  exact ⟨rfl, (h.rd.drewN _).set1 (k + 1), (((Fr.refl _ _).drewN _).setCell (.inl (by simp)) _).drewN _⟩

theorem drop_at {s : ByteArray} {k : Nat} (hk : k < s.size) : s.data.toList.drop k = s[k] :: s.data.toList.drop (k + 1) := by
  rw [List.drop_eq_getElem_cons (by simpa using hk)]; rfl
theorem drop_end {s : ByteArray} {k : Nat} (hk : s.size ≤ k) : s.data.toList.drop k = [] := by
  rw [List.drop_eq_nil_iff]; simpa using hk
theorem drop_len (s : ByteArray) (k : Nat) : (s.data.toList.drop k).length = s.size - k := by simp

/-- Nothing of these comes next. -/
theorem takeOf_none {w : World} {rb k dp : Nat} {s p : ByteArray} (h : Cx w rb s k dp) (ho : opAt p.data.toList (s.data.toList.drop k) = none) :
    Calls Tryz.prog 141 #[.pointer (some ⟨rb, 0, none⟩), .string p] w fun e w' => e = .returned (.tuple #[.int .u8 0, .bool false]) ∧ Rd w' rb s k dp ∧ Fr [rb] w w' := by
  have hle := h.le
  by_cases hk : k = s.size
  · refine (takeOf_end h hk).mono ?_
    rintro e w' ⟨rfl, n, rfl⟩
    exact ⟨rfl, h.rd.drewN n, (Fr.refl _ _).drewN n⟩
  · have hk' : k < s.size := by omega
    refine (takeOf_not h hk' ?_).mono ?_
    · rw [drop_at hk'] at ho
      intro hm; simp [opAt, hm] at ho
    rintro e w' ⟨rfl, n, rfl⟩
    exact ⟨rfl, h.rd.drewN n, (Fr.refl _ _).drewN n⟩

theorem takeOf_some {w : World} {rb k dp : Nat} {s p : ByteArray} {c : UInt8} (h : Cx w rb s k dp) (ho : opAt p.data.toList (s.data.toList.drop k) = some c) :
    Calls Tryz.prog 141 #[.pointer (some ⟨rb, 0, none⟩), .string p] w fun e w' => e = .returned (.tuple #[.int .u8 c.toNat, .bool true]) ∧ Rd w' rb s (k + 1) dp ∧ Fr [rb] w w' := by
  have hle := h.le
  by_cases hk : k < s.size
  · rw [drop_at hk] at ho
    obtain ⟨h1, h2⟩ := opAt_some ho
    simp at h1
    subst h1
    exact takeOf_in h hk h2
  · rw [drop_end (by omega)] at ho; simp [opAt] at ho

theorem pre_one {p : ByteArray} {c : UInt8} (hp : p.data.toList = [c]) (u : List UInt8) : p.data.toList <+: u ↔ u.head? = some c := by
  rw [hp]
  cases u with
  | nil => simp
  | cons a r => simp [eq_comm]

theorem Cx.takeOut {w : World} {rb k dp : Nat} {s p : ByteArray} (h : Cx w rb s k dp) (hp : p.data.toList <+: s.data.toList.drop k) :
    Calls Tryz.prog 107 #[.pointer (some ⟨rb, 0, none⟩), .string p] w fun e w' => e = .returned (.bool true) ∧ Rd w' rb s (k + p.size) dp ∧ Fr [rb] w w' := by
  refine (take_yes h hp).mono ?_
  rintro e w' ⟨rfl, n, rfl⟩
  exact ⟨rfl, h.out.1, h.out.2⟩
theorem Cx.takeNot {w : World} {rb k dp : Nat} {s p : ByteArray} (h : Cx w rb s k dp) (hp : ¬ p.data.toList <+: s.data.toList.drop k) :
    Calls Tryz.prog 107 #[.pointer (some ⟨rb, 0, none⟩), .string p] w fun e w' => e = .returned (.bool false) ∧ Rd w' rb s k dp ∧ Fr [rb] w w' := by
  refine (take_no h hp).mono ?_
  rintro e w' ⟨rfl, n, rfl⟩
  exact ⟨rfl, h.rd.drewN n, (Fr.refl _ _).drewN n⟩
theorem Cx.mustOut {w : World} {rb k dp : Nat} {s p : ByteArray} (h : Cx w rb s k dp) (hp : p.data.toList <+: s.data.toList.drop k) :
    Calls Tryz.prog 110 #[.pointer (some ⟨rb, 0, none⟩), .string p] w fun e w' => e = .returned (.tuple #[]) ∧ Rd w' rb s (k + p.size) dp ∧ Fr [rb] w w' := by
  refine (must_yes h hp).mono ?_
  rintro e w' ⟨rfl, n, rfl⟩
  exact ⟨rfl, h.out.1, h.out.2⟩
theorem Cx.mustNot {w : World} {rb k dp : Nat} {s p : ByteArray} (h : Cx w rb s k dp) (hp : ¬ p.data.toList <+: s.data.toList.drop k) :
    Calls Tryz.prog 110 #[.pointer (some ⟨rb, 0, none⟩), .string p] w fun e w' => e = .panicked (flt k 2) ∧ Fr [rb] w w' := by
  refine (must_no h hp).mono ?_
  rintro e w' ⟨rfl, n, rfl⟩
  exact ⟨rfl, (Fr.refl _ _).drewN n⟩

end Go.Proofs.YthadeccnibnioaaGreatDoor
