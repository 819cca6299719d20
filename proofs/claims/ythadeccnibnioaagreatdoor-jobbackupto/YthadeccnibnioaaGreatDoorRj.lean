/- Operators from the left. -/
import Derived.Test.YthadeccnibnioaaGreatDoorRi
namespace Go.Proofs.YthadeccnibnioaaGreatDoor
open Go.RowKit

def PtOK (G : Nat) (P : List UInt8 → Res) (dp : Nat) : Prop := ∀ (w : World) (rb : Nat) (s : ByteArray) (k : Nat), Cx w rb s k dp →
  Calls Tryz.prog G #[.pointer (some ⟨rb, 0, none⟩)] w (Out rb s dp w (P (s.data.toList.drop k)))

set_option maxHeartbeats 1000000 in
theorem left_sign {P : List UInt8 → Res} {dp : Nat} (hP : PtOK 203 P dp) (hS : Shr P) {ops : ByteArray} {w : World} {rb k : Nat} {s : ByteArray} (h : Cx w rb s k dp) :
    Calls Tryz.prog 175 #[.pointer (some ⟨rb, 0, none⟩), .string ops, .func (.func 203) #[.pointer (some ⟨rb, 0, none⟩)] #[]] w (Out rb s dp w (rowF ops.data.toList P (s.data.toList.drop k))) := by
  have hle := h.le
  have hrow : rowF ops.data.toList P (s.data.toList.drop k) = rowF ops.data.toList P (s.data.toList.drop k) := rfl
  conv at hrow => rhs; unfold rowF
  generalize rowF ops.data.toList P (s.data.toList.drop k) = R at hrow ⊢
  cases hR : P (s.data.toList.drop k) with
  | bad pl er =>
    rw [hR] at hrow
    simp only at hrow
    subst hrow
    have HR := Lib.hid hR
    clear hR
    go_enter Tryz.func175, Tryz.ntmps175
    go_wp2_with (go_at_call 203; refine (hP w rb s k h).mono ?_; rw [HR.out]; rintro e wa ⟨rfl, hfa⟩)
    exact ⟨rfl, rfl, hfa⟩
  | ok t u =>
    rw [hR] at hrow
    simp only at hrow
    have HW := Lib.hid hrow
    have HR := Lib.hid hR
    clear hR hrow
    go_enter Tryz.func175, Tryz.ntmps175
    go_wp2_with (go_at_call 203; refine (hP w rb s k h).mono ?_; rw [HR.out]; rintro e wa ⟨pa, ka, rfl, hta, hra, hka, hua, hfa⟩)
    go_loopw [7] (fun q wr => ∃ p j t0, q = .pointer (some ⟨p, 0, none⟩) ∧ j ≤ s.size ∧ Tr w.heap.size wr t0 p ∧ Rd wr rb s j dp ∧ Fr [rb] w wr ∧ Hid (R = loopF ops.data.toList P (s.size - j) t0 (s.data.toList.drop j))) (fun q wr => s.size - (intOf ((wr.cell? ⟨rb, 1, none⟩).getD undef)).toNat)
    case atStart =>
      refine ⟨pa, ka, t, rfl, hka, hta, hra, hfa, ?_⟩
      show R = _
      rw [HW.out, hua, drop_len]
    case round =>
      obtain ⟨p, j, t0, rfl, hj, htr, hrd, hfr, HL⟩ := hrel
      have hcx := h.fr hfr hrd hj
      have hlt := h.rd.lt
      have hsz := hfr.size
      have m0 := hrd.c1
      cases ho : opAt ops.data.toList (s.data.toList.drop j) with
      | none =>
        have hRR : R = .ok t0 (s.data.toList.drop j) := by
          rw [HL.out]; unfold loopF; rw [ho]
        have HRR := Lib.hid hRR
        have HO := Lib.hid ho
        clear hRR ho HL m0
        go_wp2_with (go_at_call 141; refine (takeOf_none hcx (p := ops) HO.out).mono ?_; rintro e wb ⟨rfl, hrb, hfb⟩)
        go_ret
        rw [HRR.out]
        exact ⟨p, j, rfl, Tr.fr hfb (by simpa using hlt) _ _ htr, hrb, hj, rfl, hfr.trans hfb⟩
      | some c =>
        have hj1 : j + 1 ≤ s.size := by
          have := opAt_some ho
          exact head_lt (c := c) (by rw [this.1]; rfl)
        have hst : R = match P (s.data.toList.drop (j + 1)) with
            | .bad p e => .bad p e
            | .ok b v2 => loopF ops.data.toList P (s.size - (j + 1)) (.two c t0 b) v2 := by
          rw [HL.out]
          have e1 : s.size - j = (s.size - (j + 1)) + 1 := by omega
          rw [e1]
          conv => lhs; unfold loopF
          rw [ho]
          simp only [drop_drop1]
          cases P (s.data.toList.drop (j + 1)) <;> rfl
        have HO := Lib.hid ho
        clear ho HL
        cases hR2 : P (s.data.toList.drop (j + 1)) with
        | bad pl er =>
          rw [hR2] at hst
          have HS := Lib.hid hst
          have HR2 := Lib.hid hR2
          clear hst hR2 m0
          go_wp2_with (go_at_call 141; refine (takeOf_some hcx (p := ops) HO.out).mono ?_; rintro e wb ⟨rfl, hrb, hfb⟩; have hcb : Cx wb rb s (j + 1) dp := hcx.fr hfb hrb hj1)
          go_wp2_with (go_at_call 203; refine (hP wb rb s (j + 1) hcb).mono ?_; rw [HR2.out]; rintro e wz ⟨rfl, hfz⟩)
          refine ⟨rfl, ?_⟩
          rw [HS.out]
          exact ⟨rfl, (hfr.trans hfb).trans hfz⟩
        | ok b v2 =>
          rw [hR2] at hst
          simp only at hst
          have hsh := hS _ _ _ hR2
          have HS := Lib.hid hst
          have HR2 := Lib.hid hR2
          clear hst hR2
          go_wp2_with (go_at_call 141; refine (takeOf_some hcx (p := ops) HO.out).mono ?_; rintro e wb ⟨rfl, hrb, hfb⟩; have hcb : Cx wb rb s (j + 1) dp := hcx.fr hfb hrb hj1)
          go_wp2_with (go_at_call 203; refine (hP wb rb s (j + 1) hcb).mono ?_; rw [HR2.out]; rintro e wz ⟨pz, kz, rfl, htz, hrz, hkz, huz, hfz⟩)
          have hsb := hfb.size
          have hsz2 := hfz.size
          rw [huz, drop_len, drop_len] at hsh
          go_roundw
          case rel =>
            refine ⟨_, kz, .two c t0 b, rfl, hkz, ?_, (hrz.alloc _).alloc _, (((hfr.trans hfb).trans hfz).alloc _).alloc _, ?_⟩
            · exact Tr.mkTwo (Tr.fr (hfb.trans hfz) (by simpa using hlt) _ _ htr) (Tr.mono (by omega) _ _ htz) (by omega)
            · show R = _
              rw [HS.out, huz]
              exact loop_fuel hS _ _ _ _ (by rw [drop_len]; omega) (by rw [drop_len]; omega)
          case measure =>
            have m1 := ((hrz.alloc (.cells #[.pointer (some ⟨p, 0, none⟩), .pointer (some ⟨pz, 0, none⟩)] 74)).alloc (.cells #[.int .u8 c.toNat, .int .i64 0, .slice (some ⟨wz.heap.size, 0, none⟩) 2 2] 138)).c1
            rw [m0, m1]
            simp [intOf]; omega

set_option maxHeartbeats 1000000 in
theorem left_product {P : List UInt8 → Res} {dp : Nat} (hP : PtOK 176 P dp) (hS : Shr P) {ops : ByteArray} {w : World} {rb k : Nat} {s : ByteArray} (h : Cx w rb s k dp) :
    Calls Tryz.prog 175 #[.pointer (some ⟨rb, 0, none⟩), .string ops, .func (.func 176) #[.pointer (some ⟨rb, 0, none⟩)] #[]] w (Out rb s dp w (rowF ops.data.toList P (s.data.toList.drop k))) := by
  have hle := h.le
  have hrow : rowF ops.data.toList P (s.data.toList.drop k) = rowF ops.data.toList P (s.data.toList.drop k) := rfl
  conv at hrow => rhs; unfold rowF
  generalize rowF ops.data.toList P (s.data.toList.drop k) = R at hrow ⊢
  cases hR : P (s.data.toList.drop k) with
  | bad pl er =>
    rw [hR] at hrow
    simp only at hrow
    subst hrow
    have HR := Lib.hid hR
    clear hR
    go_enter Tryz.func175, Tryz.ntmps175
    go_wp2_with (go_at_call 176; refine (hP w rb s k h).mono ?_; rw [HR.out]; rintro e wa ⟨rfl, hfa⟩)
    exact ⟨rfl, rfl, hfa⟩
  | ok t u =>
    rw [hR] at hrow
    simp only at hrow
    have HW := Lib.hid hrow
    have HR := Lib.hid hR
    clear hR hrow
    go_enter Tryz.func175, Tryz.ntmps175
    go_wp2_with (go_at_call 176; refine (hP w rb s k h).mono ?_; rw [HR.out]; rintro e wa ⟨pa, ka, rfl, hta, hra, hka, hua, hfa⟩)
    go_loopw [7] (fun q wr => ∃ p j t0, q = .pointer (some ⟨p, 0, none⟩) ∧ j ≤ s.size ∧ Tr w.heap.size wr t0 p ∧ Rd wr rb s j dp ∧ Fr [rb] w wr ∧ Hid (R = loopF ops.data.toList P (s.size - j) t0 (s.data.toList.drop j))) (fun q wr => s.size - (intOf ((wr.cell? ⟨rb, 1, none⟩).getD undef)).toNat)
    case atStart =>
      refine ⟨pa, ka, t, rfl, hka, hta, hra, hfa, ?_⟩
      show R = _
      rw [HW.out, hua, drop_len]
    case round =>
      obtain ⟨p, j, t0, rfl, hj, htr, hrd, hfr, HL⟩ := hrel
      have hcx := h.fr hfr hrd hj
      have hlt := h.rd.lt
      have hsz := hfr.size
      have m0 := hrd.c1
      cases ho : opAt ops.data.toList (s.data.toList.drop j) with
      | none =>
        have hRR : R = .ok t0 (s.data.toList.drop j) := by
          rw [HL.out]; unfold loopF; rw [ho]
        have HRR := Lib.hid hRR
        have HO := Lib.hid ho
        clear hRR ho HL m0
        go_wp2_with (go_at_call 141; refine (takeOf_none hcx (p := ops) HO.out).mono ?_; rintro e wb ⟨rfl, hrb, hfb⟩)
        go_ret
        rw [HRR.out]
        exact ⟨p, j, rfl, Tr.fr hfb (by simpa using hlt) _ _ htr, hrb, hj, rfl, hfr.trans hfb⟩
      | some c =>
        have hj1 : j + 1 ≤ s.size := by
          have := opAt_some ho
          exact head_lt (c := c) (by rw [this.1]; rfl)
        have hst : R = match P (s.data.toList.drop (j + 1)) with
            | .bad p e => .bad p e
            | .ok b v2 => loopF ops.data.toList P (s.size - (j + 1)) (.two c t0 b) v2 := by
          rw [HL.out]
          have e1 : s.size - j = (s.size - (j + 1)) + 1 := by omega
          rw [e1]
          conv => lhs; unfold loopF
          rw [ho]
          simp only [drop_drop1]
          cases P (s.data.toList.drop (j + 1)) <;> rfl
        have HO := Lib.hid ho
        clear ho HL
        cases hR2 : P (s.data.toList.drop (j + 1)) with
        | bad pl er =>
          rw [hR2] at hst
          have HS := Lib.hid hst
          have HR2 := Lib.hid hR2
          clear hst hR2 m0
          go_wp2_with (go_at_call 141; refine (takeOf_some hcx (p := ops) HO.out).mono ?_; rintro e wb ⟨rfl, hrb, hfb⟩; have hcb : Cx wb rb s (j + 1) dp := hcx.fr hfb hrb hj1)
          go_wp2_with (go_at_call 176; refine (hP wb rb s (j + 1) hcb).mono ?_; rw [HR2.out]; rintro e wz ⟨rfl, hfz⟩)
          refine ⟨rfl, ?_⟩
          rw [HS.out]
          exact ⟨rfl, (hfr.trans hfb).trans hfz⟩
        | ok b v2 =>
          rw [hR2] at hst
          simp only at hst
          have hsh := hS _ _ _ hR2
          have HS := Lib.hid hst
          have HR2 := Lib.hid hR2
          clear hst hR2
          go_wp2_with (go_at_call 141; refine (takeOf_some hcx (p := ops) HO.out).mono ?_; rintro e wb ⟨rfl, hrb, hfb⟩; have hcb : Cx wb rb s (j + 1) dp := hcx.fr hfb hrb hj1)
          go_wp2_with (go_at_call 176; refine (hP wb rb s (j + 1) hcb).mono ?_; rw [HR2.out]; rintro e wz ⟨pz, kz, rfl, htz, hrz, hkz, huz, hfz⟩)
          have hsb := hfb.size
          have hsz2 := hfz.size
          rw [huz, drop_len, drop_len] at hsh
          go_roundw
          case rel =>
            refine ⟨_, kz, .two c t0 b, rfl, hkz, ?_, (hrz.alloc _).alloc _, (((hfr.trans hfb).trans hfz).alloc _).alloc _, ?_⟩
            · exact Tr.mkTwo (Tr.fr (hfb.trans hfz) (by simpa using hlt) _ _ htr) (Tr.mono (by omega) _ _ htz) (by omega)
            · show R = _
              rw [HS.out, huz]
              exact loop_fuel hS _ _ _ _ (by rw [drop_len]; omega) (by rw [drop_len]; omega)
          case measure =>
            have m1 := ((hrz.alloc (.cells #[.pointer (some ⟨p, 0, none⟩), .pointer (some ⟨pz, 0, none⟩)] 74)).alloc (.cells #[.int .u8 c.toNat, .int .i64 0, .slice (some ⟨wz.heap.size, 0, none⟩) 2 2] 138)).c1
            rw [m0, m1]
            simp [intOf]; omega
end Go.Proofs.YthadeccnibnioaaGreatDoor
