/- One that stands by itself; one with '-' ahead. -/
import Derived.Test.YthadeccnibnioaaGreatDoorRg
namespace Go.Proofs.YthadeccnibnioaaGreatDoor
open Go.RowKit

theorem pre4 (a b c d : UInt8) : (⟨#[a, b, c, d]⟩ : ByteArray).data.toList = [a, b, c, d] := rfl
theorem drop_drop4 (s : ByteArray) (k : Nat) : (s.data.toList.drop k).drop 4 = s.data.toList.drop (k + 4) := by rw [List.drop_drop]
theorem pre_le {s p : ByteArray} {k : Nat} (h : p.data.toList <+: s.data.toList.drop k) (hp : 0 < p.size) : k + p.size ≤ s.size := by
  have := h.length_le
  simp at this
  have e1 : p.data.size = p.size := rfl
  have e2 : s.data.size = s.size := rfl
  omega
theorem opAt_ns {u : List UInt8} : opAt [110, 115] u = if u.head? = some 110 then some 110 else if u.head? = some 115 then some 115 else none := by
  cases u with
  | nil => rfl
  | cons a r =>
    by_cases h1 : a = 110
    · subst h1; rfl
    · by_cases h2 : a = 115
      · subst h2; rfl
      · simp [opAt, h1, h2]

theorem Out.from {rb : Nat} {s : ByteArray} {dp : Nat} {w w1 w2 : World} {r : Res} {e : Ending} (f : Fr [rb] w w1) (h : Out rb s dp w1 r e w2) : Out rb s dp w r e w2 := by
  cases r with
  | ok t u =>
    obtain ⟨p, k, h1, h2, h3, h4, h5, h6⟩ := h
    exact ⟨p, k, h1, Tr.mono f.size _ _ h2, h3, h4, h5, f.trans h6⟩
  | bad pl er => exact ⟨h.1, f.trans h.2⟩


set_option maxHeartbeats 1000000 in
theorem single_any {d : Nat} (hin : ∀ e, d = e + 1 → ChOK e) {w : World} {rb k dp : Nat} {s : ByteArray} (h : Cx w rb s k dp) (hd : dp + d = 20) :
    Calls Tryz.prog 217 #[.pointer (some ⟨rb, 0, none⟩)] w (Out rb s dp w (singleF (inCh d) (s.data.toList.drop k))) := by
  have h1 := h.rd.c1
  have hle := h.le
  have hns := opAt_ns (u := s.data.toList.drop k)
  unfold singleF
  rw [drop_len, drop_drop1, drop_drop4]
  by_cases hn : (s.data.toList.drop k).head? = some 110
  · have hk1 := head_lt hn
    rw [if_pos hn] at hns ⊢
    go_enter Tryz.func217, Tryz.ntmps217
    go_wp2_with (go_at_call 141; refine (takeOf_some h (p := ⟨#[110, 115]⟩) hns).mono ?_; rintro e wa ⟨rfl, hra, hfa⟩)
    go_ret
    exact ⟨wa.heap.size, k + 1, rfl, ⟨hfa.size, alloc_at rfl⟩, hra.alloc _, hk1, rfl, hfa.alloc _⟩
  rw [if_neg hn] at hns ⊢
  by_cases hs : (s.data.toList.drop k).head? = some 115
  · have hk1 := head_lt hs
    rw [if_pos hs] at hns ⊢
    go_enter Tryz.func217, Tryz.ntmps217
    go_wp2_with (go_at_call 141; refine (takeOf_some h (p := ⟨#[110, 115]⟩) hns).mono ?_; rintro e wa ⟨rfl, hra, hfa⟩)
    go_ret
    exact ⟨wa.heap.size, k + 1, rfl, ⟨hfa.size, alloc_at rfl⟩, hra.alloc _, hk1, rfl, hfa.alloc _⟩
  rw [if_neg hs] at hns ⊢
  by_cases hb : (s.data.toList.drop k).head? = some 40
  · have hk1 := head_lt hb
    rw [if_pos hb]
    cases hR : brkF (inCh d) (s.size - k) (s.data.toList.drop (k + 1)) with
    | ok t u =>
      have HR := Lib.hid hR
      clear hR
      go_enter Tryz.func217, Tryz.ntmps217
      go_wp2_with (go_at_call 141; refine (takeOf_none h (p := ⟨#[110, 115]⟩) hns).mono ?_; rintro e wa ⟨rfl, hra, hfa⟩; have hcx : Cx wa rb s k dp := h.fr hfa hra hle; refine Hid.out ?_)
      refine Lib.hid ?_
      go_wp2_with (go_at_call 107; refine (Cx.takeOut hcx (p := ⟨#[40]⟩) ((pre_one rfl _).2 hb)).mono ?_; rintro e wb ⟨rfl, hrwb, hfwb⟩; have hcb : Cx wb rb s (k + 1) dp := hcx.fr hfwb hrwb hk1; refine Hid.out ?_)
      refine Lib.hid ?_
      go_wp2_with (go_at_call 225; refine (bracket_any hin hcb hd hle).mono ?_; rw [HR.out]; rintro e wz ⟨pz, kz, rfl, htz, hrz, hkz, huz, hfz⟩)
      go_ret
      exact Out.from (hfa.trans hfwb) ⟨pz, kz, rfl, htz, hrz, hkz, huz, hfz⟩
    | bad pl er =>
      have HR := Lib.hid hR
      clear hR
      go_enter Tryz.func217, Tryz.ntmps217
      go_wp2_with (go_at_call 141; refine (takeOf_none h (p := ⟨#[110, 115]⟩) hns).mono ?_; rintro e wa ⟨rfl, hra, hfa⟩; have hcx : Cx wa rb s k dp := h.fr hfa hra hle; refine Hid.out ?_)
      refine Lib.hid ?_
      go_wp2_with (go_at_call 107; refine (Cx.takeOut hcx (p := ⟨#[40]⟩) ((pre_one rfl _).2 hb)).mono ?_; rintro e wb ⟨rfl, hrwb, hfwb⟩; have hcb : Cx wb rb s (k + 1) dp := hcx.fr hfwb hrwb hk1; refine Hid.out ?_)
      refine Lib.hid ?_
      go_wp2_with (go_at_call 225; refine (bracket_any hin hcb hd hle).mono ?_; rw [HR.out]; rintro e wz ⟨rfl, hfz⟩)
      exact ⟨rfl, rfl, (hfa.trans hfwb).trans hfz⟩
  rw [if_neg hb]
  have hb' : ¬ (⟨#[40]⟩ : ByteArray).data.toList <+: s.data.toList.drop k := fun e => hb ((pre_one rfl _).1 e)
  by_cases hmn : [109, 105, 110, 40] <+: s.data.toList.drop k
  · have hk4 : k + 4 ≤ s.size := pre_le (p := ⟨#[109, 105, 110, 40]⟩) hmn (by decide)
    rw [if_pos hmn]
    cases hR : pairF (inCh d) 109 (s.size - k) (s.data.toList.drop (k + 4)) with
    | ok t u =>
      have HR := Lib.hid hR
      clear hR
      go_enter Tryz.func217, Tryz.ntmps217
      go_wp2_with (go_at_call 141; refine (takeOf_none h (p := ⟨#[110, 115]⟩) hns).mono ?_; rintro e wa ⟨rfl, hra, hfa⟩; have hcx : Cx wa rb s k dp := h.fr hfa hra hle; refine Hid.out ?_)
      refine Lib.hid ?_
      go_wp2_with (go_at_call 107; refine (Cx.takeNot hcx (p := ⟨#[40]⟩) hb').mono ?_; rintro e wb ⟨rfl, hrwb, hfwb⟩; have hcb : Cx wb rb s k dp := hcx.fr hfwb hrwb hle; refine Hid.out ?_)
      refine Lib.hid ?_
      go_wp2_with (go_at_call 107; refine (Cx.takeOut hcb (p := ⟨#[109, 105, 110, 40]⟩) hmn).mono ?_; rintro e wc ⟨rfl, hrwc, hfwc⟩; have hcc : Cx wc rb s (k + 4) dp := hcb.fr hfwc hrwc hk4; refine Hid.out ?_)
      refine Lib.hid ?_
      go_wp2_with (go_at_call 226; refine (pair_any hin 109 hcc hd hle).mono ?_; rw [HR.out]; rintro e wz ⟨pz, kz, rfl, htz, hrz, hkz, huz, hfz⟩)
      go_ret
      exact Out.from ((hfa.trans hfwb).trans hfwc) ⟨pz, kz, rfl, htz, hrz, hkz, huz, hfz⟩
    | bad pl er =>
      have HR := Lib.hid hR
      clear hR
      go_enter Tryz.func217, Tryz.ntmps217
      go_wp2_with (go_at_call 141; refine (takeOf_none h (p := ⟨#[110, 115]⟩) hns).mono ?_; rintro e wa ⟨rfl, hra, hfa⟩; have hcx : Cx wa rb s k dp := h.fr hfa hra hle; refine Hid.out ?_)
      refine Lib.hid ?_
      go_wp2_with (go_at_call 107; refine (Cx.takeNot hcx (p := ⟨#[40]⟩) hb').mono ?_; rintro e wb ⟨rfl, hrwb, hfwb⟩; have hcb : Cx wb rb s k dp := hcx.fr hfwb hrwb hle; refine Hid.out ?_)
      refine Lib.hid ?_
      go_wp2_with (go_at_call 107; refine (Cx.takeOut hcb (p := ⟨#[109, 105, 110, 40]⟩) hmn).mono ?_; rintro e wc ⟨rfl, hrwc, hfwc⟩; have hcc : Cx wc rb s (k + 4) dp := hcb.fr hfwc hrwc hk4; refine Hid.out ?_)
      refine Lib.hid ?_
      go_wp2_with (go_at_call 226; refine (pair_any hin 109 hcc hd hle).mono ?_; rw [HR.out]; rintro e wz ⟨rfl, hfz⟩)
      exact ⟨rfl, rfl, ((hfa.trans hfwb).trans hfwc).trans hfz⟩
  rw [if_neg hmn]
  by_cases hmx : [109, 97, 120, 40] <+: s.data.toList.drop k
  · have hk4 : k + 4 ≤ s.size := pre_le (p := ⟨#[109, 97, 120, 40]⟩) hmx (by decide)
    rw [if_pos hmx]
    cases hR : pairF (inCh d) 77 (s.size - k) (s.data.toList.drop (k + 4)) with
    | ok t u =>
      have HR := Lib.hid hR
      clear hR
      go_enter Tryz.func217, Tryz.ntmps217
      go_wp2_with (go_at_call 141; refine (takeOf_none h (p := ⟨#[110, 115]⟩) hns).mono ?_; rintro e wa ⟨rfl, hra, hfa⟩; have hcx : Cx wa rb s k dp := h.fr hfa hra hle; refine Hid.out ?_)
      refine Lib.hid ?_
      go_wp2_with (go_at_call 107; refine (Cx.takeNot hcx (p := ⟨#[40]⟩) hb').mono ?_; rintro e wb ⟨rfl, hrwb, hfwb⟩; have hcb : Cx wb rb s k dp := hcx.fr hfwb hrwb hle; refine Hid.out ?_)
      refine Lib.hid ?_
      go_wp2_with (go_at_call 107; refine (Cx.takeNot hcb (p := ⟨#[109, 105, 110, 40]⟩) hmn).mono ?_; rintro e wc ⟨rfl, hrwc, hfwc⟩; have hcc : Cx wc rb s k dp := hcb.fr hfwc hrwc hle; refine Hid.out ?_)
      refine Lib.hid ?_
      go_wp2_with (go_at_call 107; refine (Cx.takeOut hcc (p := ⟨#[109, 97, 120, 40]⟩) hmx).mono ?_; rintro e wd ⟨rfl, hrwd, hfwd⟩; have hcd : Cx wd rb s (k + 4) dp := hcc.fr hfwd hrwd hk4; refine Hid.out ?_)
      refine Lib.hid ?_
      go_wp2_with (go_at_call 226; refine (pair_any hin 77 hcd hd hle).mono ?_; rw [HR.out]; rintro e wz ⟨pz, kz, rfl, htz, hrz, hkz, huz, hfz⟩)
      go_ret
      exact Out.from (((hfa.trans hfwb).trans hfwc).trans hfwd) ⟨pz, kz, rfl, htz, hrz, hkz, huz, hfz⟩
    | bad pl er =>
      have HR := Lib.hid hR
      clear hR
      go_enter Tryz.func217, Tryz.ntmps217
      go_wp2_with (go_at_call 141; refine (takeOf_none h (p := ⟨#[110, 115]⟩) hns).mono ?_; rintro e wa ⟨rfl, hra, hfa⟩; have hcx : Cx wa rb s k dp := h.fr hfa hra hle; refine Hid.out ?_)
      refine Lib.hid ?_
      go_wp2_with (go_at_call 107; refine (Cx.takeNot hcx (p := ⟨#[40]⟩) hb').mono ?_; rintro e wb ⟨rfl, hrwb, hfwb⟩; have hcb : Cx wb rb s k dp := hcx.fr hfwb hrwb hle; refine Hid.out ?_)
      refine Lib.hid ?_
      go_wp2_with (go_at_call 107; refine (Cx.takeNot hcb (p := ⟨#[109, 105, 110, 40]⟩) hmn).mono ?_; rintro e wc ⟨rfl, hrwc, hfwc⟩; have hcc : Cx wc rb s k dp := hcb.fr hfwc hrwc hle; refine Hid.out ?_)
      refine Lib.hid ?_
      go_wp2_with (go_at_call 107; refine (Cx.takeOut hcc (p := ⟨#[109, 97, 120, 40]⟩) hmx).mono ?_; rintro e wd ⟨rfl, hrwd, hfwd⟩; have hcd : Cx wd rb s (k + 4) dp := hcc.fr hfwd hrwd hk4; refine Hid.out ?_)
      refine Lib.hid ?_
      go_wp2_with (go_at_call 226; refine (pair_any hin 77 hcd hd hle).mono ?_; rw [HR.out]; rintro e wz ⟨rfl, hfz⟩)
      exact ⟨rfl, rfl, (((hfa.trans hfwb).trans hfwc).trans hfwd).trans hfz⟩
  rw [if_neg hmx]
  cases hR : numF (s.data.toList.drop k) with
  | ok t u =>
    have HR := Lib.hid hR
    clear hR
    go_enter Tryz.func217, Tryz.ntmps217
    go_wp2_with (go_at_call 141; refine (takeOf_none h (p := ⟨#[110, 115]⟩) hns).mono ?_; rintro e wa ⟨rfl, hra, hfa⟩; have hcx : Cx wa rb s k dp := h.fr hfa hra hle; refine Hid.out ?_)
    refine Lib.hid ?_
    go_wp2_with (go_at_call 107; refine (Cx.takeNot hcx (p := ⟨#[40]⟩) hb').mono ?_; rintro e wb ⟨rfl, hrwb, hfwb⟩; have hcb : Cx wb rb s k dp := hcx.fr hfwb hrwb hle; refine Hid.out ?_)
    refine Lib.hid ?_
    go_wp2_with (go_at_call 107; refine (Cx.takeNot hcb (p := ⟨#[109, 105, 110, 40]⟩) hmn).mono ?_; rintro e wc ⟨rfl, hrwc, hfwc⟩; have hcc : Cx wc rb s k dp := hcb.fr hfwc hrwc hle; refine Hid.out ?_)
    refine Lib.hid ?_
    go_wp2_with (go_at_call 107; refine (Cx.takeNot hcc (p := ⟨#[109, 97, 120, 40]⟩) hmx).mono ?_; rintro e wd ⟨rfl, hrwd, hfwd⟩; have hcd : Cx wd rb s k dp := hcc.fr hfwd hrwd hle; refine Hid.out ?_)
    refine Lib.hid ?_
    go_wp2_with (go_at_call 227; refine (number_any hcd).mono ?_; rw [HR.out]; rintro e wz ⟨pz, kz, rfl, htz, hrz, hkz, huz, hfz⟩)
    go_ret
    exact Out.from (((hfa.trans hfwb).trans hfwc).trans hfwd) ⟨pz, kz, rfl, htz, hrz, hkz, huz, hfz⟩
  | bad pl er =>
    have HR := Lib.hid hR
    clear hR
    go_enter Tryz.func217, Tryz.ntmps217
    go_wp2_with (go_at_call 141; refine (takeOf_none h (p := ⟨#[110, 115]⟩) hns).mono ?_; rintro e wa ⟨rfl, hra, hfa⟩; have hcx : Cx wa rb s k dp := h.fr hfa hra hle; refine Hid.out ?_)
    refine Lib.hid ?_
    go_wp2_with (go_at_call 107; refine (Cx.takeNot hcx (p := ⟨#[40]⟩) hb').mono ?_; rintro e wb ⟨rfl, hrwb, hfwb⟩; have hcb : Cx wb rb s k dp := hcx.fr hfwb hrwb hle; refine Hid.out ?_)
    refine Lib.hid ?_
    go_wp2_with (go_at_call 107; refine (Cx.takeNot hcb (p := ⟨#[109, 105, 110, 40]⟩) hmn).mono ?_; rintro e wc ⟨rfl, hrwc, hfwc⟩; have hcc : Cx wc rb s k dp := hcb.fr hfwc hrwc hle; refine Hid.out ?_)
    refine Lib.hid ?_
    go_wp2_with (go_at_call 107; refine (Cx.takeNot hcc (p := ⟨#[109, 97, 120, 40]⟩) hmx).mono ?_; rintro e wd ⟨rfl, hrwd, hfwd⟩; have hcd : Cx wd rb s k dp := hcc.fr hfwd hrwd hle; refine Hid.out ?_)
    refine Lib.hid ?_
    go_wp2_with (go_at_call 227; refine (number_any hcd).mono ?_; rw [HR.out]; rintro e wz ⟨rfl, hfz⟩)
    exact ⟨rfl, rfl, (((hfa.trans hfwb).trans hfwc).trans hfwd).trans hfz⟩
end Go.Proofs.YthadeccnibnioaaGreatDoor
