import Derived.Test.YthadeccnibnioaaGreatDoorRz3
/- Operators from the left. -/
namespace Go.Proofs.YthadeccnibnioaaGreatDoor
open Go.RowKit

def PtOK (G : Nat) (P : List UInt8 → Res) (dp : Nat) : Prop := ∀ (w : World) (rb : Nat) (s : ByteArray) (k : Nat), Cx w rb s k dp →
  Calls Tryz.prog G #[.pointer (some ⟨rb, 0, none⟩)] w (Out rb s dp w (P (s.data.toList.drop k)))

set_option maxHeartbeats 1000000 in
theorem left_sign {P : List UInt8 → Res} {dp : Nat} (hP : PtOK 203 P dp) (hS : Shr P) {ops : ByteArray} {w : World} {rb k : Nat} {s : ByteArray} (h : Cx w rb s k dp) :
    Calls Tryz.prog 175 #[.pointer (some ⟨rb, 0, none⟩), .string ops, .func (.func 203) #[.pointer (some ⟨rb, 0, none⟩)] #[]] w (Out rb s dp w (rowF ops.data.toList P (s.data.toList.drop k))) := by
  have hle := h.le
  have hrow : rowF ops.data.toList P (s.data.toList.drop k) = rowF ops.data.toList P (s.data.toList.drop k) := rfl
  conv at hrow => rhs; unfold rowF
  generalize rowF ops.data.toList P (s.data.toList.drop k) = R at hrow ⊢
  cases hR : P (s.data.toList.drop k) with
  | bad pl er =>
    rw [hR] at hrow
    simp only at hrow
    subst hrow
    have HR := Lib.hid hR
    clear hR
    go_enter Tryz.func175, Tryz.ntmps175
    go_wp2_with (go_at_call 203; refine (hP w rb s k h).mono ?_; rw [HR.out]; rintro e wa ⟨rfl, hfa⟩)
    exact ⟨rfl, rfl, hfa⟩
  | ok t u =>
    rw [hR] at hrow
    simp only at hrow
    have HW := Lib.hid hrow
    have HR := Lib.hid hR
    clear hR hrow
    go_enter Tryz.func175, Tryz.ntmps175
    go_wp2_with (go_at_call 203; refine (hP w rb s k h).mono ?_; rw [HR.out]; rintro e wa ⟨pa, ka, rfl, hta, hra, hka, hua, hfa⟩)
    go_loopw [7] (fun q wr => ∃ p j t0, q = .pointer (some ⟨p, 0, none⟩) ∧ j ≤ s.size ∧ Tr w.heap.size wr t0 p ∧ Rd wr rb s j dp ∧ Fr [rb] w wr ∧ Hid (R = loopF ops.data.toList P (s.size - j) t0 (s.data.toList.drop j))) (fun q wr => s.size - (intOf ((wr.cell? ⟨rb, 1, none⟩).getD undef)).toNat)
    case atStart =>
      refine ⟨pa, ka, t, rfl, hka, hta, hra, hfa, ?_⟩
      show R = _
      rw [HW.out, hua, drop_len]
    case round =>
      obtain ⟨p, j, t0, rfl, hj, htr, hrd, hfr, HL⟩ := hrel
      have hcx := h.fr hfr hrd hj
      have hlt := h.rd.lt
      have hsz := hfr.size
      have m0 := hrd.c1
      cases ho : opAt ops.data.toList (s.data.toList.drop j) with
      | none =>
        have hRR : R = .ok t0 (s.data.toList.drop j) := by
          rw [HL.out]; unfold loopF; rw [ho]
        have HRR := Lib.hid hRR
        have HO := Lib.hid ho
        clear hRR ho HL m0
        go_wp2_with (go_at_call 141; refine (takeOf_none hcx (p := ops) HO.out).mono ?_; rintro e wb ⟨rfl, hrb, hfb⟩)
        go_ret
        rw [HRR.out]
        exact ⟨p, j, rfl, Tr.fr hfb (by simpa using hlt) _ _ htr, hrb, hj, rfl, hfr.trans hfb⟩
      | some c =>
        have hj1 : j + 1 ≤ s.size := by
          have := opAt_some ho
          exact head_lt (c := c) (by rw [this.1]; rfl)
        have hst : R = match P (s.data.toList.drop (j + 1)) with
            | .bad p e => .bad p e
            | .ok b v2 => loopF ops.data.toList P (s.size - (j + 1)) (.two c t0 b) v2 := by
          rw [HL.out]
          have e1 : s.size - j = (s.size - (j + 1)) + 1 := by omega
          rw [e1]
          conv => lhs; unfold loopF
          rw [ho]
          simp only [drop_drop1]
          cases P (s.data.toList.drop (j + 1)) <;> rfl
        have HO := Lib.hid ho
        clear ho HL
        cases hR2 : P (s.data.toList.drop (j + 1)) with
        | bad pl er =>
          rw [hR2] at hst
          have HS := Lib.hid hst
          have HR2 := Lib.hid hR2
          clear hst hR2 m0
          go_wp2_with (go_at_call 141; refine (takeOf_some hcx (p := ops) HO.out).mono ?_; rintro e wb ⟨rfl, hrb, hfb⟩; have hcb : Cx wb rb s (j + 1) dp := hcx.fr hfb hrb hj1)
          go_wp2_with (go_at_call 203; refine (hP wb rb s (j + 1) hcb).mono ?_; rw [HR2.out]; rintro e wz ⟨rfl, hfz⟩)
          refine ⟨rfl, ?_⟩
          rw [HS.out]
          exact ⟨rfl, (hfr.trans hfb).trans hfz⟩
        | ok b v2 =>
          rw [hR2] at hst
          simp only at hst
          have hsh := hS _ _ _ hR2
          have HS := Lib.hid hst
          have HR2 := Lib.hid hR2
          clear hst hR2
          go_wp2_with (go_at_call 141; refine (takeOf_some hcx (p := ops) HO.out).mono ?_; rintro e wb ⟨rfl, hrb, hfb⟩; have hcb : Cx wb rb s (j + 1) dp := hcx.fr hfb hrb hj1)
          go_wp2_with (go_at_call 203; refine (hP wb rb s (j + 1) hcb).mono ?_; rw [HR2.out]; rintro e wz ⟨pz, kz, rfl, htz, hrz, hkz, huz, hfz⟩)
          have hsb := hfb.size
          have hsz2 := hfz.size
          rw [huz, drop_len, drop_len] at hsh
          go_roundw
          case rel =>
            refine ⟨_, kz, .two c t0 b, rfl, hkz, ?_, (hrz.alloc _).alloc _, (((hfr.trans hfb).trans hfz).alloc _).alloc _, ?_⟩
            · exact Tr.mkTwo (Tr.fr (hfb.trans hfz) (by simpa using hlt) _ _ htr) (Tr.mono (by omega) _ _ htz) (by omega)
            · show R = _
              rw [HS.out, huz]
              exact loop_fuel hS _ _ _ _ (by rw [drop_len]; omega) (by rw [drop_len]; omega)
          case measure =>
            have m1 := ((hrz.alloc (.cells #[.pointer (some ⟨p, 0, none⟩), .pointer (some ⟨pz, 0, none⟩)] 74)).alloc (.cells #[.int .u8 c.toNat, .int .i64 0, .slice (some ⟨wz.heap.size, 0, none⟩) 2 2] 138)).c1
            rw [m0, m1]
            simp [intOf]; omega

set_option maxHeartbeats 1000000 in
theorem left_product {P : List UInt8 → Res} {dp : Nat} (hP : PtOK 176 P dp) (hS : Shr P) {ops : ByteArray} {w : World} {rb k : Nat} {s : ByteArray} (h : Cx w rb s k dp) :
    Calls Tryz.prog 175 #[.pointer (some ⟨rb, 0, none⟩), .string ops, .func (.func 176) #[.pointer (some ⟨rb, 0, none⟩)] #[]] w (Out rb s dp w (rowF ops.data.toList P (s.data.toList.drop k))) := by
  have hle := h.le
  have hrow : rowF ops.data.toList P (s.data.toList.drop k) = rowF ops.data.toList P (s.data.toList.drop k) := rfl
  conv at hrow => rhs; unfold rowF
  generalize rowF ops.data.toList P (s.data.toList.drop k) = R at hrow ⊢
  cases hR : P (s.data.toList.drop k) with
  | bad pl er =>
    rw [hR] at hrow
    simp only at hrow
    subst hrow
    have HR := Lib.hid hR
    clear hR
    go_enter Tryz.func175, Tryz.ntmps175
    go_wp2_with (go_at_call 176; refine (hP w rb s k h).mono ?_; rw [HR.out]; rintro e wa ⟨rfl, hfa⟩)
    exact ⟨rfl, rfl, hfa⟩
  | ok t u =>
    rw [hR] at hrow
    simp only at hrow
    have HW := Lib.hid hrow
    have HR := Lib.hid hR
    clear hR hrow
    go_enter Tryz.func175, Tryz.ntmps175
    go_wp2_with (go_at_call 176; refine (hP w rb s k h).mono ?_; rw [HR.out]; rintro e wa ⟨pa, ka, rfl, hta, hra, hka, hua, hfa⟩)
    go_loopw [7] (fun q wr => ∃ p j t0, q = .pointer (some ⟨p, 0, none⟩) ∧ j ≤ s.size ∧ Tr w.heap.size wr t0 p ∧ Rd wr rb s j dp ∧ Fr [rb] w wr ∧ Hid (R = loopF ops.data.toList P (s.size - j) t0 (s.data.toList.drop j))) (fun q wr => s.size - (intOf ((wr.cell? ⟨rb, 1, none⟩).getD undef)).toNat)
    case atStart =>
      refine ⟨pa, ka, t, rfl, hka, hta, hra, hfa, ?_⟩
      show R = _
      rw [HW.out, hua, drop_len]
    case round =>
      obtain ⟨p, j, t0, rfl, hj, htr, hrd, hfr, HL⟩ := hrel
      have hcx := h.fr hfr hrd hj
      have hlt := h.rd.lt
      have hsz := hfr.size
      have m0 := hrd.c1
      cases ho : opAt ops.data.toList (s.data.toList.drop j) with
      | none =>
        have hRR : R = .ok t0 (s.data.toList.drop j) := by
          rw [HL.out]; unfold loopF; rw [ho]
        have HRR := Lib.hid hRR
        have HO := Lib.hid ho
        clear hRR ho HL m0
        go_wp2_with (go_at_call 141; refine (takeOf_none hcx (p := ops) HO.out).mono ?_; rintro e wb ⟨rfl, hrb, hfb⟩)
        go_ret
        rw [HRR.out]
        exact ⟨p, j, rfl, Tr.fr hfb (by simpa using hlt) _ _ htr, hrb, hj, rfl, hfr.trans hfb⟩
      | some c =>
        have hj1 : j + 1 ≤ s.size := by
          have := opAt_some ho
          exact head_lt (c := c) (by rw [this.1]; rfl)
        have hst : R = match P (s.data.toList.drop (j + 1)) with
            | .bad p e => .bad p e
            | .ok b v2 => loopF ops.data.toList P (s.size - (j + 1)) (.two c t0 b) v2 := by
          rw [HL.out]
          have e1 : s.size - j = (s.size - (j + 1)) + 1 := by omega
          rw [e1]
          conv => lhs; unfold loopF
          rw [ho]
          simp only [drop_drop1]
          cases P (s.data.toList.drop (j + 1)) <;> rfl
        have HO := Lib.hid ho
        clear ho HL
        cases hR2 : P (s.data.toList.drop (j + 1)) with
        | bad pl er =>
          rw [hR2] at hst
          have HS := Lib.hid hst
          have HR2 := Lib.hid hR2
          clear hst hR2 m0
          go_wp2_with (go_at_call 141; refine (takeOf_some hcx (p := ops) HO.out).mono ?_; rintro e wb ⟨rfl, hrb, hfb⟩; have hcb : Cx wb rb s (j + 1) dp := hcx.fr hfb hrb hj1)
          go_wp2_with (go_at_call 176; refine (hP wb rb s (j + 1) hcb).mono ?_; rw [HR2.out]; rintro e wz ⟨rfl, hfz⟩)
          refine ⟨rfl, ?_⟩
          rw [HS.out]
          exact ⟨rfl, (hfr.trans hfb).trans hfz⟩
        | ok b v2 =>
          rw [hR2] at hst
          simp only at hst
          have hsh := hS _ _ _ hR2
          have HS := Lib.hid hst
          have HR2 := Lib.hid hR2
          clear hst hR2
          go_wp2_with (go_at_call 141; refine (takeOf_some hcx (p := ops) HO.out).mono ?_; rintro e wb ⟨rfl, hrb, hfb⟩; have hcb : Cx wb rb s (j + 1) dp := hcx.fr hfb hrb hj1)
          go_wp2_with (go_at_call 176; refine (hP wb rb s (j + 1) hcb).mono ?_; rw [HR2.out]; rintro e wz ⟨pz, kz, rfl, htz, hrz, hkz, huz, hfz⟩)
          have hsb := hfb.size
          have hsz2 := hfz.size
          rw [huz, drop_len, drop_len] at hsh
          go_roundw
          case rel =>
            refine ⟨_, kz, .two c t0 b, rfl, hkz, ?_, (hrz.alloc _).alloc _, (((hfr.trans hfb).trans hfz).alloc _).alloc _, ?_⟩
            · exact Tr.mkTwo (Tr.fr (hfb.trans hfz) (by simpa using hlt) _ _ htr) (Tr.mono (by omega) _ _ htz) (by omega)
            · show R = _
              rw [HS.out, huz]
              exact loop_fuel hS _ _ _ _ (by rw [drop_len]; omega) (by rw [drop_len]; omega)
          case measure =>
            have m1 := ((hrz.alloc (.cells #[.pointer (some ⟨p, 0, none⟩), .pointer (some ⟨pz, 0, none⟩)] 74)).alloc (.cells #[.int .u8 c.toNat, .int .i64 0, .slice (some ⟨wz.heap.size, 0, none⟩) 2 2] 138)).c1
            rw [m0, m1]
            simp [intOf]; omega
end Go.Proofs.YthadeccnibnioaaGreatDoor

/- Products, sums, comparisons. -/
namespace Go.Proofs.YthadeccnibnioaaGreatDoor
open Go.RowKit

theorem Out.id {rb : Nat} {s : ByteArray} {dp : Nat} {w w' : World} {R : Res} {e : Ending} (h : Out rb s dp w R e w') :
    (∃ t u p k, R = .ok t u ∧ e = .returned (.pointer (some ⟨p, 0, none⟩)) ∧ Tr w.heap.size w' t p ∧ Rd w' rb s k dp ∧ k ≤ s.size ∧ u = s.data.toList.drop k ∧ Fr [rb] w w') ∨ (∃ pl er, R = .bad pl er ∧ e = .panicked (flt (s.size - pl) er) ∧ Fr [rb] w w') := by
  cases R with
  | ok t u => obtain ⟨p, k, h⟩ := h; exact .inl ⟨t, u, p, k, rfl, h⟩
  | bad pl er => exact .inr ⟨pl, er, rfl, h⟩

theorem product_any {d dp : Nat} (hS : SgOK d) (hd : dp + d = 20) : PtOK 176 (prP d) dp := by
  intro w rb s k h
  have hmf : ∀ (fn : Fn) (first cap : Array Value) (w : World), (Instr.makeFunc fn first cap).run Tryz.prog w = .ok (.func fn first cap) w := fun _ _ _ _ => rfl
  have hl := left_sign (P := sgP d) (dp := dp) (fun w rb s k h => hS w rb s k dp h hd) (shr_sg d) (ops := ⟨#[42, 47, 37]⟩) h
  have he : rowF (⟨#[42, 47, 37]⟩ : ByteArray).data.toList (sgP d) (s.data.toList.drop k) = prP d (s.data.toList.drop k) := rfl
  rw [he] at hl
  clear he
  generalize prP d (s.data.toList.drop k) = R at hl ⊢
  cases R with
  | ok t u =>
    go_enter Tryz.func176, Tryz.ntmps176
    go_wp2_with (go_at_call 175; refine hl.mono ?_; rintro e wa ⟨pa, ka, rfl, hta, hra, hka, hua, hfa⟩)
    go_ret
    exact ⟨pa, ka, rfl, hta, hra, hka, hua, hfa⟩
  | bad pl er =>
    go_enter Tryz.func176, Tryz.ntmps176
    go_wp2_with (go_at_call 175; refine hl.mono ?_; rintro e wa ⟨rfl, hfa⟩)
    exact ⟨rfl, rfl, hfa⟩

theorem sum_any {d dp : Nat} (hP : PtOK 176 (prP d) dp) : PtOK 140 (smP d) dp := by
  intro w rb s k h
  have hmf : ∀ (fn : Fn) (first cap : Array Value) (w : World), (Instr.makeFunc fn first cap).run Tryz.prog w = .ok (.func fn first cap) w := fun _ _ _ _ => rfl
  have hl := left_product (P := prP d) (dp := dp) hP (shr_pr d) (ops := ⟨#[43, 45]⟩) h
  have he : rowF (⟨#[43, 45]⟩ : ByteArray).data.toList (prP d) (s.data.toList.drop k) = smP d (s.data.toList.drop k) := rfl
  rw [he] at hl
  clear he
  generalize smP d (s.data.toList.drop k) = R at hl ⊢
  cases R with
  | ok t u =>
    go_enter Tryz.func140, Tryz.ntmps140
    go_wp2_with (go_at_call 175; refine hl.mono ?_; rintro e wa ⟨pa, ka, rfl, hta, hra, hka, hua, hfa⟩)
    go_ret
    exact ⟨pa, ka, rfl, hta, hra, hka, hua, hfa⟩
  | bad pl er =>
    go_enter Tryz.func140, Tryz.ntmps140
    go_wp2_with (go_at_call 175; refine hl.mono ?_; rintro e wa ⟨rfl, hfa⟩)
    exact ⟨rfl, rfl, hfa⟩

set_option maxHeartbeats 1000000 in
theorem compare_any {d dp : Nat} (hP : PtOK 140 (smP d) dp) : PtOK 106 (cpP d) dp := by
  intro w rb s k h
  have hlt := h.rd.lt
  have hR : cpP d (s.data.toList.drop k) = cmpF (smP d) (s.data.toList.drop k) := rfl
  conv at hR => rhs; unfold cmpF
  generalize cpP d (s.data.toList.drop k) = R at hR ⊢
  cases h1 : smP d (s.data.toList.drop k) with
  | bad pl er =>
    rw [h1] at hR
    simp only at hR
    subst hR
    have H1 := Lib.hid h1
    clear h1
    go_enter Tryz.func106, Tryz.ntmps106
    go_wp2_with (go_at_call 140; refine (hP w rb s k h).mono ?_; rw [H1.out]; rintro e wa ⟨rfl, hfa⟩)
    exact ⟨rfl, rfl, hfa⟩
  | ok a v =>
    rw [h1] at hR
    simp only at hR
    have HR := Lib.hid hR
    have H1 := Lib.hid h1
    clear h1 hR
    go_enter Tryz.func106, Tryz.ntmps106
    go_wp2_with (go_at_call 140; refine (hP w rb s k h).mono ?_; rw [H1.out]; rintro e wa ⟨pa, ka, rfl, hta, hra, hka, hua, hfa⟩; refine Hid.out ?_)
    refine Lib.hid ?_
    have hcx := h.fr hfa hra hka
    have hsa := hfa.size
    subst hua
    cases ho : opAt [61, 60, 62] (s.data.toList.drop ka) with
    | none =>
      have hR := HR.out
      rw [ho] at hR
      simp only at hR
      have HR2 := Lib.hid hR
      have HO := Lib.hid ho
      clear hR ho HR
      go_wp2_with (go_at_call 141; refine (takeOf_none hcx (p := ⟨#[61, 60, 62]⟩) HO.out).mono ?_; rintro e wb ⟨rfl, hrb, hfb⟩)
      go_ret
      rw [HR2.out]
      exact ⟨pa, ka, rfl, Tr.fr hfb (by simpa using hlt) _ _ hta, hrb, hka, rfl, hfa.trans hfb⟩
    | some c =>
      have hj1 : ka + 1 ≤ s.size := by
        have := opAt_some ho
        exact head_lt (c := c) (by rw [this.1]; rfl)
      have hR := HR.out
      rw [ho] at hR
      simp only [drop_drop1] at hR
      have HO := Lib.hid ho
      clear ho HR
      cases h2 : smP d (s.data.toList.drop (ka + 1)) with
      | bad pl er =>
        rw [h2] at hR
        simp only at hR
        have HR2 := Lib.hid hR
        have H2 := Lib.hid h2
        clear hR h2
        go_wp2_with (go_at_call 141; refine (takeOf_some hcx (p := ⟨#[61, 60, 62]⟩) HO.out).mono ?_; rintro e wb ⟨rfl, hrb, hfb⟩; have hcb : Cx wb rb s (ka + 1) dp := hcx.fr hfb hrb hj1)
        go_wp2_with (go_at_call 140; refine (hP wb rb s (ka + 1) hcb).mono ?_; rw [H2.out]; rintro e wz ⟨rfl, hfz⟩)
        refine ⟨rfl, ?_⟩
        rw [HR2.out]
        exact ⟨rfl, (hfa.trans hfb).trans hfz⟩
      | ok b v2 =>
        rw [h2] at hR
        simp only at hR
        have HR2 := Lib.hid hR
        have H2 := Lib.hid h2
        clear hR h2
        go_wp2_with (go_at_call 141; refine (takeOf_some hcx (p := ⟨#[61, 60, 62]⟩) HO.out).mono ?_; rintro e wb ⟨rfl, hrb, hfb⟩; have hcb : Cx wb rb s (ka + 1) dp := hcx.fr hfb hrb hj1)
        go_wp2_with (go_at_call 140; refine (hP wb rb s (ka + 1) hcb).mono ?_; rw [H2.out]; rintro e wz ⟨pz, kz, rfl, htz, hrz, hkz, huz, hfz⟩)
        go_ret
        have hsb := hfb.size
        have hsz := hfz.size
        rw [HR2.out]
        refine ⟨wz.heap.size + 1, kz, rfl, ?_, (hrz.alloc _).alloc _, hkz, huz, (((hfa.trans hfb).trans hfz).alloc _).alloc _⟩
        exact Tr.mkTwo (Tr.fr (hfb.trans hfz) (by simpa using hlt) _ _ hta) (Tr.mono (by omega) _ _ htz) (by omega)
end Go.Proofs.YthadeccnibnioaaGreatDoor

/- An expression, and all levels. -/
namespace Go.Proofs.YthadeccnibnioaaGreatDoor
open Go.RowKit

theorem heapFr {xs : List Nat} {w w' : World} {b : Nat} {o : Obj} (h : w.heap[b]? = some o) (f : Fr xs w w') (hx : b ∉ xs) : w'.heap[b]? = some o := by rw [f.block b (some_lt h) hx]; exact h
theorem heapAl {w : World} {b : Nat} {o : Obj} (h : w.heap[b]? = some o) (o' : Obj) : (w.alloc o').heap[b]? = some o := by rw [Below.heap_alloc _ _ _ (some_lt h)]; exact h

set_option maxHeartbeats 2000000 in
theorem choice_any {d dp : Nat} (hP : PtOK 106 (cpP d) dp) (hin : ∀ e, d = e + 1 → ChOK e) (hd : dp + d = 20) : PtOK 69 (chP d) dp := by
  intro w rb s k h
  have hmf : ∀ (fn : Fn) (first cap : Array Value) (w : World), (Instr.makeFunc fn first cap).run Tryz.prog w = .ok (.func fn first cap) w := fun _ _ _ _ => rfl
  have hlt := h.rd.lt
  have hlo := h.lo
  have hbox : (w.alloc (.cells #[.pointer (some ⟨rb, 0, none⟩)] 121)).heap[w.heap.size]? = some (.cells #[.pointer (some ⟨rb, 0, none⟩)] 121) := alloc_at rfl
  have hw0 : Fr [rb] w (w.alloc (.cells #[.pointer (some ⟨rb, 0, none⟩)] 121)) := Fr.al1 _ _ _
  have hcx0 := h.alloc (.cells #[.pointer (some ⟨rb, 0, none⟩)] 121)
  have hR := chP_eq d (s.data.toList.drop k)
  unfold choF at hR
  generalize chP d (s.data.toList.drop k) = R at hR ⊢
  cases h1 : cpP d (s.data.toList.drop k) with
  | bad pl er =>
    rw [h1] at hR
    simp only at hR
    subst hR
    have H1 := Lib.hid h1
    clear h1
    go_enter Tryz.func69, Tryz.ntmps69
    go_wp2_with (go_at_call 106; refine (hP _ rb s k hcx0).mono ?_; rw [H1.out]; rintro e wa ⟨rfl, hfa⟩)
    exact ⟨rfl, rfl, hw0.trans hfa⟩
  | ok a v =>
    rw [h1] at hR
    simp only at hR
    have HR := Lib.hid hR
    have H1 := Lib.hid h1
    clear h1 hR
    go_enter Tryz.func69, Tryz.ntmps69
    go_wp2_with (go_at_call 106; refine (hP _ rb s k hcx0).mono ?_; rw [H1.out]; rintro e wa ⟨pa, ka, rfl, hta, hra, hka, hua, hfa⟩; have hbxa := heapFr hbox hfa (by simp; omega); have a1 := (cell1 hbxa).1; have a2 := hra.c1)
    have hcx := hcx0.fr hfa hra hka
    have hsa : w.heap.size + 1 ≤ wa.heap.size := by simpa using hfa.size
    have hta' : Tr w.heap.size wa a pa := Tr.mono (by simp) _ _ hta
    clear hta
    subst hua
    by_cases hm : (s.data.toList.drop ka).head? = some 63
    · have hka1 := head_lt hm
      have hR := HR.out
      rw [if_pos hm, drop_len, drop_drop1] at hR
      have HR1 := Lib.hid hR
      clear HR hR
      go_wp2_with (go_at_call 107; refine (Cx.takeOut hcx (p := ⟨#[63]⟩) ((pre_one rfl _).2 hm)).mono ?_; rintro e wb ⟨rfl, hrb, hfb⟩; have hcb : Cx wb rb s (ka + 1) dp := hcx.fr hfb hrb hka1; have hbxb := heapFr hbxa hfb (by simp; omega); have b1 : ∀ o o', ((wb.alloc o).alloc o').cell? ⟨w.heap.size, 0, none⟩ = some (.pointer (some ⟨rb, 0, none⟩)) := (fun o o' => cellAl (heapAl hbxb o) o'); have hsb := hfb.size)
      have hfwb : Fr [rb] w wb := (hw0.trans hfa).trans hfb
      have htb : Tr w.heap.size wb a pa := Tr.fr hfb (by simpa using hlt) _ _ hta'
      have hbxW : ((wb.alloc (.cells #[.pointer none] 74)).alloc (.cells #[.pointer none] 74)).heap[w.heap.size]? = some (.cells #[.pointer (some ⟨rb, 0, none⟩)] 121) := heapAl (heapAl hbxb _) _
      have hc1W : ((wb.alloc (.cells #[.pointer none] 74)).alloc (.cells #[.pointer none] 74)).heap[wb.heap.size]? = some (.cells #[.pointer none] 74) := heapAl (alloc_at rfl) _
      have hc2W : ((wb.alloc (.cells #[.pointer none] 74)).alloc (.cells #[.pointer none] 74)).heap[wb.heap.size + 1]? = some (.cells #[.pointer none] 74) := alloc_at (by simp)
      have hcW := (hcb.alloc (.cells #[.pointer none] 74)).alloc (.cells #[.pointer none] 74)
      have hfW : Fr [rb] w ((wb.alloc (.cells #[.pointer none] 74)).alloc (.cells #[.pointer none] 74)) := (hfwb.alloc _).alloc _
      have htW : Tr w.heap.size ((wb.alloc (.cells #[.pointer none] 74)).alloc (.cells #[.pointer none] 74)) a pa := (htb.alloc _).alloc _
      have hsW : ((wb.alloc (.cells #[.pointer none] 74)).alloc (.cells #[.pointer none] 74)).heap.size = wb.heap.size + 2 := by simp
      have hdeep := deep_choice1 hin (bx := w.heap.size) (cv := wb.heap.size) (v0 := .pointer none) hcW hd hka hbxW hc1W (by omega) (by omega)
      have hR := HR1.out
      clear HR1
      cases h2 : inCh d (s.size - ka) (s.data.toList.drop (ka + 1)) with
      | bad pl er =>
        rw [h2] at hR hdeep
        simp only at hR
        have HR2 := Lib.hid hR
        clear hR h2
        go_wp2_with (go_at_call 108; refine hdeep.mono ?_; rintro e wc ⟨rfl, hfc⟩)
        refine ⟨rfl, ?_⟩
        rw [HR2.out]
        exact ⟨rfl, hfW.over hfc (by simp; omega)⟩
      | ok b v2 =>
        rw [h2] at hR hdeep
        simp only at hR
        have HR2 := Lib.hid hR
        clear hR h2
        go_wp2_with (go_at_call 108; refine hdeep.mono ?_; rintro e wc ⟨pc, kc, rfl, htc, hcc, hrc, hkc, huc, hfc⟩; have hbxc := heapFr hbxW hfc (by simp; omega); have c1 := (cell1 hbxc).1; have c2 := hrc.c1)
        have hfwc : Fr [rb] w wc := hfW.over hfc (by simp; omega)
        have hfbc : Fr [rb] wb wc := (Fr.al2 _ _ _ _).over hfc (by simp)
        have hcxc := h.fr hfwc hrc hkc
        have hc2c := heapFr hc2W hfc (by simp; omega)
        have hsc := hfc.size
        rw [hsW] at hsc htc
        have htac : Tr w.heap.size wc a pa := Tr.fr hfbc (by simpa using hlt) _ _ htb
        clear hdeep hbxW hc1W hc2W hcW hfW htW hsW
        subst huc
        by_cases hm2 : (s.data.toList.drop kc).head? = some 58
        · have hkc1 := head_lt hm2
          have hR := HR2.out
          rw [if_pos hm2, drop_len, drop_drop1] at hR
          have HR3 := Lib.hid hR
          clear HR2 hR
          go_wp2_with (go_at_call 110; refine (Cx.mustOut hcxc (p := ⟨#[58]⟩) ((pre_one rfl _).2 hm2)).mono ?_; rintro e wd ⟨rfl, hrd, hfd⟩; have hcd : Cx wd rb s (kc + 1) dp := hcxc.fr hfd hrd hkc1; have hbxd := heapFr hbxc hfd (by simp; omega); have d1 := (cell1 hbxd).1)
          have hc1d := heapFr hcc hfd (by simp; omega)
          have hc2d := heapFr hc2c hfd (by simp; omega)
          have hsd := hfd.size
          have hdeep := deep_choice2 hin (bx := w.heap.size) (cv := wb.heap.size + 1) (v0 := .pointer none) hcd hd hkc hbxd hc2d (by omega) (by omega)
          have hR := HR3.out
          clear HR3
          cases h3 : inCh d (s.size - kc) (s.data.toList.drop (kc + 1)) with
          | bad pl er =>
            rw [h3] at hR hdeep
            simp only at hR
            have HR4 := Lib.hid hR
            clear hR h3
            go_wp2_with (go_at_call 108; refine hdeep.mono ?_; rintro e we ⟨rfl, hfe⟩)
            refine ⟨rfl, ?_⟩
            rw [HR4.out]
            exact ⟨rfl, (hfwc.trans hfd).over hfe (by simp; omega)⟩
          | ok c v3 =>
            rw [h3] at hR hdeep
            simp only at hR
            have HR4 := Lib.hid hR
            clear hR h3
            go_wp2_with (go_at_call 108; refine hdeep.mono ?_; rintro e we ⟨pe, ke, rfl, hte, hce, hre, hke, hue, hfe⟩; have hc1e := heapFr hc1d hfe (by simp; omega); have e1 := (cell1 hc1e).1; have e2 := (cell1 hce).1)
            go_ret
            have hse := hfe.size
            have hfwe : Fr [rb] w we := (hfwc.trans hfd).over hfe (by simp; omega)
            have hfbe : Fr [rb] wb we := (hfbc.trans hfd).over hfe (by simp)
            have hfce : Fr [rb, wb.heap.size + 1] wc we := hfd.one.trans hfe
            rw [HR4.out]
            refine ⟨we.heap.size + 1, ke, rfl, ?_, (hre.alloc _).alloc _, hke, hue, (hfwe.alloc _).alloc _⟩
            exact Tr.mkCond (Tr.fr hfbe (by simpa using hlt) _ _ htb) (Tr.mono (by omega) _ _ (Tr.fr hfce (by simp; omega) _ _ htc)) (Tr.mono (by omega) _ _ hte) hfwe.size
        · have hR := HR2.out
          rw [if_neg hm2] at hR
          have HR3 := Lib.hid hR
          clear HR2 hR
          go_wp2_with (go_at_call 110; refine (Cx.mustNot hcxc (p := ⟨#[58]⟩) (fun e => hm2 ((pre_one rfl _).1 e))).mono ?_; rintro e wd ⟨rfl, hfd⟩)
          refine ⟨rfl, ?_⟩
          rw [HR3.out]
          exact ⟨by rw [at_of hkc], hfwc.trans hfd⟩
    · have hR := HR.out
      rw [if_neg hm] at hR
      have HR3 := Lib.hid hR
      clear HR hR
      go_wp2_with (go_at_call 107; refine (Cx.takeNot hcx (p := ⟨#[63]⟩) (fun e => hm ((pre_one rfl _).1 e))).mono ?_; rintro e wb ⟨rfl, hrb, hfb⟩)
      go_ret
      rw [HR3.out]
      exact ⟨pa, ka, rfl, Tr.fr hfb (by simpa using hlt) _ _ hta', hrb, hka, rfl, (hw0.trans hfa).trans hfb⟩

theorem levels (d : Nat) : ChOK d ∧ SgOK d := by
  induction d with
  | zero =>
    have hS : SgOK 0 := fun w rb s k dp h hd => sign_any (fun e he => by omega) (fun e he => by omega) h hd
    refine ⟨fun w rb s k dp h hd => ?_, hS⟩
    exact choice_any (compare_any (sum_any (product_any hS hd))) (fun e he => by omega) hd w rb s k h
  | succ d ih =>
    have hin : ∀ e, d + 1 = e + 1 → ChOK e := fun e he => by
      have : e = d := by omega
      subst this; exact ih.1
    have hinS : ∀ e, d + 1 = e + 1 → SgOK e := fun e he => by
      have : e = d := by omega
      subst this; exact ih.2
    have hS : SgOK (d + 1) := fun w rb s k dp h hd => sign_any hin hinS h hd
    refine ⟨fun w rb s k dp h hd => ?_, hS⟩
    exact choice_any (compare_any (sum_any (product_any hS hd))) hin hd w rb s k h
end Go.Proofs.YthadeccnibnioaaGreatDoor
