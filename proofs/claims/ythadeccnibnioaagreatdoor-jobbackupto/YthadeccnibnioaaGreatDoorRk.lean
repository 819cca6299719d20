/- Products, sums, comparisons. -/
import Derived.Test.YthadeccnibnioaaGreatDoorRj
namespace Go.Proofs.YthadeccnibnioaaGreatDoor
open Go.RowKit

theorem Out.id {rb : Nat} {s : ByteArray} {dp : Nat} {w w' : World} {R : Res} {e : Ending} (h : Out rb s dp w R e w') :
    (∃ t u p k, R = .ok t u ∧ e = .returned (.pointer (some ⟨p, 0, none⟩)) ∧ Tr w.heap.size w' t p ∧ Rd w' rb s k dp ∧ k ≤ s.size ∧ u = s.data.toList.drop k ∧ Fr [rb] w w') ∨ (∃ pl er, R = .bad pl er ∧ e = .panicked (flt (s.size - pl) er) ∧ Fr [rb] w w') := by
  cases R with
  | ok t u => obtain ⟨p, k, h⟩ := h; exact .inl ⟨t, u, p, k, rfl, h⟩
  | bad pl er => exact .inr ⟨pl, er, rfl, h⟩

theorem product_any {d dp : Nat} (hS : SgOK d) (hd : dp + d = 20) : PtOK 176 (prP d) dp := by
  intro w rb s k h
  have hmf : ∀ (fn : Fn) (first cap : Array Value) (w : World), (Instr.makeFunc fn first cap).run Tryz.prog w = .ok (.func fn first cap) w := fun _ _ _ _ => rfl
  have hl := left_sign (P := sgP d) (dp := dp) (fun w rb s k h => hS w rb s k dp h hd) (shr_sg d) (ops := ⟨#[42, 47, 37]⟩) h
  have he : rowF (⟨#[42, 47, 37]⟩ : ByteArray).data.toList (sgP d) (s.data.toList.drop k) = prP d (s.data.toList.drop k) := rfl
  rw [he] at hl
  clear he
  generalize prP d (s.data.toList.drop k) = R at hl ⊢
  cases R with
  | ok t u =>
    go_enter Tryz.func176, Tryz.ntmps176
    go_wp2_with (go_at_call 175; refine hl.mono ?_; rintro e wa ⟨pa, ka, rfl, hta, hra, hka, hua, hfa⟩)
    go_ret
    exact ⟨pa, ka, rfl, hta, hra, hka, hua, hfa⟩
  | bad pl er =>
    go_enter Tryz.func176, Tryz.ntmps176
    go_wp2_with (go_at_call 175; refine hl.mono ?_; rintro e wa ⟨rfl, hfa⟩)
    exact ⟨rfl, rfl, hfa⟩

theorem sum_any {d dp : Nat} (hP : PtOK 176 (prP d) dp) : PtOK 140 (smP d) dp := by
  intro w rb s k h
  have hmf : ∀ (fn : Fn) (first cap : Array Value) (w : World), (Instr.makeFunc fn first cap).run Tryz.prog w = .ok (.func fn first cap) w := fun _ _ _ _ => rfl
  have hl := left_product (P := prP d) (dp := dp) hP (shr_pr d) (ops := ⟨#[43, 45]⟩) h
  have he : rowF (⟨#[43, 45]⟩ : ByteArray).data.toList (prP d) (s.data.toList.drop k) = smP d (s.data.toList.drop k) := rfl
  rw [he] at hl
  clear he
  generalize smP d (s.data.toList.drop k) = R at hl ⊢
  cases R with
  | ok t u =>
    go_enter Tryz.func140, Tryz.ntmps140
    go_wp2_with (go_at_call 175; refine hl.mono ?_; rintro e wa ⟨pa, ka, rfl, hta, hra, hka, hua, hfa⟩)
    go_ret
    exact ⟨pa, ka, rfl, hta, hra, hka, hua, hfa⟩
  | bad pl er =>
    go_enter Tryz.func140, Tryz.ntmps140
    go_wp2_with (go_at_call 175; refine hl.mono ?_; rintro e wa ⟨rfl, hfa⟩)
    exact ⟨rfl, rfl, hfa⟩

set_option maxHeartbeats 1000000 in
theorem compare_any {d dp : Nat} (hP : PtOK 140 (smP d) dp) : PtOK 106 (cpP d) dp := by
  intro w rb s k h
  have hlt := h.rd.lt
  have hR : cpP d (s.data.toList.drop k) = cmpF (smP d) (s.data.toList.drop k) := rfl
  conv at hR => rhs; unfold cmpF
  generalize cpP d (s.data.toList.drop k) = R at hR ⊢
  cases h1 : smP d (s.data.toList.drop k) with
  | bad pl er =>
    rw [h1] at hR
    simp only at hR
    subst hR
    have H1 := Lib.hid h1
    clear h1
    go_enter Tryz.func106, Tryz.ntmps106
    go_wp2_with (go_at_call 140; refine (hP w rb s k h).mono ?_; rw [H1.out]; rintro e wa ⟨rfl, hfa⟩)
    exact ⟨rfl, rfl, hfa⟩
  | ok a v =>
    rw [h1] at hR
    simp only at hR
    have HR := Lib.hid hR
    have H1 := Lib.hid h1
    clear h1 hR
    go_enter Tryz.func106, Tryz.ntmps106
    go_wp2_with (go_at_call 140; refine (hP w rb s k h).mono ?_; rw [H1.out]; rintro e wa ⟨pa, ka, rfl, hta, hra, hka, hua, hfa⟩; refine Hid.out ?_)
    refine Lib.hid ?_
    have hcx := h.fr hfa hra hka
    have hsa := hfa.size
    subst hua
    cases ho : opAt [61, 60, 62] (s.data.toList.drop ka) with
    | none =>
      have hR := HR.out
      rw [ho] at hR
      simp only at hR
      have HR2 := Lib.hid hR
      have HO := Lib.hid ho
      clear hR ho HR
      go_wp2_with (go_at_call 141; refine (takeOf_none hcx (p := ⟨#[61, 60, 62]⟩) HO.out).mono ?_; rintro e wb ⟨rfl, hrb, hfb⟩)
      go_ret
      rw [HR2.out]
      exact ⟨pa, ka, rfl, Tr.fr hfb (by simpa using hlt) _ _ hta, hrb, hka, rfl, hfa.trans hfb⟩
    | some c =>
      have hj1 : ka + 1 ≤ s.size := by
        have := opAt_some ho
        exact head_lt (c := c) (by rw [this.1]; rfl)
      have hR := HR.out
      rw [ho] at hR
      simp only [drop_drop1] at hR
      have HO := Lib.hid ho
      clear ho HR
      cases h2 : smP d (s.data.toList.drop (ka + 1)) with
      | bad pl er =>
        rw [h2] at hR
        simp only at hR
        have HR2 := Lib.hid hR
        have H2 := Lib.hid h2
        clear hR h2
        go_wp2_with (go_at_call 141; refine (takeOf_some hcx (p := ⟨#[61, 60, 62]⟩) HO.out).mono ?_; rintro e wb ⟨rfl, hrb, hfb⟩; have hcb : Cx wb rb s (ka + 1) dp := hcx.fr hfb hrb hj1)
        go_wp2_with (go_at_call 140; refine (hP wb rb s (ka + 1) hcb).mono ?_; rw [H2.out]; rintro e wz ⟨rfl, hfz⟩)
        refine ⟨rfl, ?_⟩
        rw [HR2.out]
        exact ⟨rfl, (hfa.trans hfb).trans hfz⟩
      | ok b v2 =>
        rw [h2] at hR
        simp only at hR
        have HR2 := Lib.hid hR
        have H2 := Lib.hid h2
        clear hR h2
        go_wp2_with (go_at_call 141; refine (takeOf_some hcx (p := ⟨#[61, 60, 62]⟩) HO.out).mono ?_; rintro e wb ⟨rfl, hrb, hfb⟩; have hcb : Cx wb rb s (ka + 1) dp := hcx.fr hfb hrb hj1)
        go_wp2_with (go_at_call 140; refine (hP wb rb s (ka + 1) hcb).mono ?_; rw [H2.out]; rintro e wz ⟨pz, kz, rfl, htz, hrz, hkz, huz, hfz⟩)
        go_ret
        have hsb := hfb.size
        have hsz := hfz.size
        rw [HR2.out]
        refine ⟨wz.heap.size + 1, kz, rfl, ?_, (hrz.alloc _).alloc _, hkz, huz, (((hfa.trans hfb).trans hfz).alloc _).alloc _⟩
        exact Tr.mkTwo (Tr.fr (hfb.trans hfz) (by simpa using hlt) _ _ hta) (Tr.mono (by omega) _ _ htz) (by omega)
end Go.Proofs.YthadeccnibnioaaGreatDoor
