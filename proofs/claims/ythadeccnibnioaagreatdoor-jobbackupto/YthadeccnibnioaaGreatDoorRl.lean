/- An expression, and all levels. -/
import Derived.Test.YthadeccnibnioaaGreatDoorRk
namespace Go.Proofs.YthadeccnibnioaaGreatDoor
open Go.RowKit

theorem heapFr {xs : List Nat} {w w' : World} {b : Nat} {o : Obj} (h : w.heap[b]? = some o) (f : Fr xs w w') (hx : b ∉ xs) : w'.heap[b]? = some o := by rw [f.block b (some_lt h) hx]; exact h
theorem heapAl {w : World} {b : Nat} {o : Obj} (h : w.heap[b]? = some o) (o' : Obj) : (w.alloc o').heap[b]? = some o := by rw [Below.heap_alloc _ _ _ (some_lt h)]; exact h

set_option maxHeartbeats 2000000 in
theorem choice_any {d dp : Nat} (hP : PtOK 106 (cpP d) dp) (hin : ∀ e, d = e + 1 → ChOK e) (hd : dp + d = 20) : PtOK 69 (chP d) dp := by
  intro w rb s k h
  have hmf : ∀ (fn : Fn) (first cap : Array Value) (w : World), (Instr.makeFunc fn first cap).run Tryz.prog w = .ok (.func fn first cap) w := fun _ _ _ _ => rfl
  have hlt := h.rd.lt
  have hlo := h.lo
  have hbox : (w.alloc (.cells #[.pointer (some ⟨rb, 0, none⟩)] 121)).heap[w.heap.size]? = some (.cells #[.pointer (some ⟨rb, 0, none⟩)] 121) := alloc_at rfl
  have hw0 : Fr [rb] w (w.alloc (.cells #[.pointer (some ⟨rb, 0, none⟩)] 121)) := Fr.al1 _ _ _
  have hcx0 := h.alloc (.cells #[.pointer (some ⟨rb, 0, none⟩)] 121)
  have hR := chP_eq d (s.data.toList.drop k)
  unfold choF at hR
  generalize chP d (s.data.toList.drop k) = R at hR ⊢
  cases h1 : cpP d (s.data.toList.drop k) with
  | bad pl er =>
    rw [h1] at hR
    simp only at hR
    subst hR
    have H1 := Lib.hid h1
    clear h1
    go_enter Tryz.func69, Tryz.ntmps69
    go_wp2_with (go_at_call 106; refine (hP _ rb s k hcx0).mono ?_; rw [H1.out]; rintro e wa ⟨rfl, hfa⟩)
    exact ⟨rfl, rfl, hw0.trans hfa⟩
  | ok a v =>
    rw [h1] at hR
    simp only at hR
    have HR := Lib.hid hR
    have H1 := Lib.hid h1
    clear h1 hR
    go_enter Tryz.func69, Tryz.ntmps69
    go_wp2_with (go_at_call 106; refine (hP _ rb s k hcx0).mono ?_; rw [H1.out]; rintro e wa ⟨pa, ka, rfl, hta, hra, hka, hua, hfa⟩; have hbxa := heapFr hbox hfa (by simp; omega); have a1 := (cell1 hbxa).1; have a2 := hra.c1)
    have hcx := hcx0.fr hfa hra hka
    have hsa : w.heap.size + 1 ≤ wa.heap.size := by simpa using hfa.size
    have hta' : Tr w.heap.size wa a pa := Tr.mono (by simp) _ _ hta
    clear hta
    subst hua
    by_cases hm : (s.data.toList.drop ka).head? = some 63
    · have hka1 := head_lt hm
      have hR := HR.out
      rw [if_pos hm, drop_len, drop_drop1] at hR
      have HR1 := Lib.hid hR
      clear HR hR
      go_wp2_with (go_at_call 107; refine (Cx.takeOut hcx (p := ⟨#[63]⟩) ((pre_one rfl _).2 hm)).mono ?_; rintro e wb ⟨rfl, hrb, hfb⟩; have hcb : Cx wb rb s (ka + 1) dp := hcx.fr hfb hrb hka1; have hbxb := heapFr hbxa hfb (by simp; omega); have b1 : ∀ o o', ((wb.alloc o).alloc o').cell? ⟨w.heap.size, 0, none⟩ = some (.pointer (some ⟨rb, 0, none⟩)) := (fun o o' => cellAl (heapAl hbxb o) o'); have hsb := hfb.size)
      have hfwb : Fr [rb] w wb := (hw0.trans hfa).trans hfb
      have htb : Tr w.heap.size wb a pa := Tr.fr hfb (by simpa using hlt) _ _ hta'
      have hbxW : ((wb.alloc (.cells #[.pointer none] 74)).alloc (.cells #[.pointer none] 74)).heap[w.heap.size]? = some (.cells #[.pointer (some ⟨rb, 0, none⟩)] 121) := heapAl (heapAl hbxb _) _
      have hc1W : ((wb.alloc (.cells #[.pointer none] 74)).alloc (.cells #[.pointer none] 74)).heap[wb.heap.size]? = some (.cells #[.pointer none] 74) := heapAl (alloc_at rfl) _
      have hc2W : ((wb.alloc (.cells #[.pointer none] 74)).alloc (.cells #[.pointer none] 74)).heap[wb.heap.size + 1]? = some (.cells #[.pointer none] 74) := alloc_at (by simp)
      have hcW := (hcb.alloc (.cells #[.pointer none] 74)).alloc (.cells #[.pointer none] 74)
      have hfW : Fr [rb] w ((wb.alloc (.cells #[.pointer none] 74)).alloc (.cells #[.pointer none] 74)) := (hfwb.alloc _).alloc _
      have htW : Tr w.heap.size ((wb.alloc (.cells #[.pointer none] 74)).alloc (.cells #[.pointer none] 74)) a pa := (htb.alloc _).alloc _
      have hsW : ((wb.alloc (.cells #[.pointer none] 74)).alloc (.cells #[.pointer none] 74)).heap.size = wb.heap.size + 2 := by simp
      have hdeep := deep_choice1 hin (bx := w.heap.size) (cv := wb.heap.size) (v0 := .pointer none) hcW hd hka hbxW hc1W (by omega) (by omega)
      have hR := HR1.out
      clear HR1
      cases h2 : inCh d (s.size - ka) (s.data.toList.drop (ka + 1)) with
      | bad pl er =>
        rw [h2] at hR hdeep
        simp only at hR
        have HR2 := Lib.hid hR
        clear hR h2
        go_wp2_with (go_at_call 108; refine hdeep.mono ?_; rintro e wc ⟨rfl, hfc⟩)
        refine ⟨rfl, ?_⟩
        rw [HR2.out]
        exact ⟨rfl, hfW.over hfc (by simp; omega)⟩
      | ok b v2 =>
        rw [h2] at hR hdeep
        simp only at hR
        have HR2 := Lib.hid hR
        clear hR h2
        go_wp2_with (go_at_call 108; refine hdeep.mono ?_; rintro e wc ⟨pc, kc, rfl, htc, hcc, hrc, hkc, huc, hfc⟩; have hbxc := heapFr hbxW hfc (by simp; omega); have c1 := (cell1 hbxc).1; have c2 := hrc.c1)
        have hfwc : Fr [rb] w wc := hfW.over hfc (by simp; omega)
        have hfbc : Fr [rb] wb wc := (Fr.al2 _ _ _ _).over hfc (by simp)
        have hcxc := h.fr hfwc hrc hkc
        have hc2c := heapFr hc2W hfc (by simp; omega)
        have hsc := hfc.size
        rw [hsW] at hsc htc
        have htac : Tr w.heap.size wc a pa := Tr.fr hfbc (by simpa using hlt) _ _ htb
        clear hdeep hbxW hc1W hc2W hcW hfW htW hsW
        subst huc
        by_cases hm2 : (s.data.toList.drop kc).head? = some 58
        · have hkc1 := head_lt hm2
          have hR := HR2.out
          rw [if_pos hm2, drop_len, drop_drop1] at hR
          have HR3 := Lib.hid hR
          clear HR2 hR
          go_wp2_with (go_at_call 110; refine (Cx.mustOut hcxc (p := ⟨#[58]⟩) ((pre_one rfl _).2 hm2)).mono ?_; rintro e wd ⟨rfl, hrd, hfd⟩; have hcd : Cx wd rb s (kc + 1) dp := hcxc.fr hfd hrd hkc1; have hbxd := heapFr hbxc hfd (by simp; omega); have d1 := (cell1 hbxd).1)
          have hc1d := heapFr hcc hfd (by simp; omega)
          have hc2d := heapFr hc2c hfd (by simp; omega)
          have hsd := hfd.size
          have hdeep := deep_choice2 hin (bx := w.heap.size) (cv := wb.heap.size + 1) (v0 := .pointer none) hcd hd hkc hbxd hc2d (by omega) (by omega)
          have hR := HR3.out
          clear HR3
          cases h3 : inCh d (s.size - kc) (s.data.toList.drop (kc + 1)) with
          | bad pl er =>
            rw [h3] at hR hdeep
            simp only at hR
            have HR4 := Lib.hid hR
            clear hR h3
            go_wp2_with (go_at_call 108; refine hdeep.mono ?_; rintro e we ⟨rfl, hfe⟩)
            refine ⟨rfl, ?_⟩
            rw [HR4.out]
            exact ⟨rfl, (hfwc.trans hfd).over hfe (by simp; omega)⟩
          | ok c v3 =>
            rw [h3] at hR hdeep
            simp only at hR
            have HR4 := Lib.hid hR
            clear hR h3
            go_wp2_with (go_at_call 108; refine hdeep.mono ?_; rintro e we ⟨pe, ke, rfl, hte, hce, hre, hke, hue, hfe⟩; have hc1e := heapFr hc1d hfe (by simp; omega); have e1 := (cell1 hc1e).1; have e2 := (cell1 hce).1)
            go_ret
            have hse := hfe.size
            have hfwe : Fr [rb] w we := (hfwc.trans hfd).over hfe (by simp; omega)
            have hfbe : Fr [rb] wb we := (hfbc.trans hfd).over hfe (by simp)
            have hfce : Fr [rb, wb.heap.size + 1] wc we := hfd.one.trans hfe
            rw [HR4.out]
            refine ⟨we.heap.size + 1, ke, rfl, ?_, (hre.alloc _).alloc _, hke, hue, (hfwe.alloc _).alloc _⟩
            exact Tr.mkCond (Tr.fr hfbe (by simpa using hlt) _ _ htb) (Tr.mono (by omega) _ _ (Tr.fr hfce (by simp; omega) _ _ htc)) (Tr.mono (by omega) _ _ hte) hfwe.size
        · have hR := HR2.out
          rw [if_neg hm2] at hR
          have HR3 := Lib.hid hR
          clear HR2 hR
          go_wp2_with (go_at_call 110; refine (Cx.mustNot hcxc (p := ⟨#[58]⟩) (fun e => hm2 ((pre_one rfl _).1 e))).mono ?_; rintro e wd ⟨rfl, hfd⟩)
          refine ⟨rfl, ?_⟩
          rw [HR3.out]
          exact ⟨by rw [at_of hkc], hfwc.trans hfd⟩
    · have hR := HR.out
      rw [if_neg hm] at hR
      have HR3 := Lib.hid hR
      clear HR hR
      go_wp2_with (go_at_call 107; refine (Cx.takeNot hcx (p := ⟨#[63]⟩) (fun e => hm ((pre_one rfl _).1 e))).mono ?_; rintro e wb ⟨rfl, hrb, hfb⟩)
      go_ret
      rw [HR3.out]
      exact ⟨pa, ka, rfl, Tr.fr hfb (by simpa using hlt) _ _ hta', hrb, hka, rfl, (hw0.trans hfa).trans hfb⟩

theorem levels (d : Nat) : ChOK d ∧ SgOK d := by
  induction d with
  | zero =>
    have hS : SgOK 0 := fun w rb s k dp h hd => sign_any (fun e he => by omega) (fun e he => by omega) h hd
    refine ⟨fun w rb s k dp h hd => ?_, hS⟩
    exact choice_any (compare_any (sum_any (product_any hS hd))) (fun e he => by omega) hd w rb s k h
  | succ d ih =>
    have hin : ∀ e, d + 1 = e + 1 → ChOK e := fun e he => by
      have : e = d := by omega
      subst this; exact ih.1
    have hinS : ∀ e, d + 1 = e + 1 → SgOK e := fun e he => by
      have : e = d := by omega
      subst this; exact ih.2
    have hS : SgOK (d + 1) := fun w rb s k dp h hd => sign_any hin hinS h hd
    refine ⟨fun w rb s k dp h hd => ?_, hS⟩
    exact choice_any (compare_any (sum_any (product_any hS hd))) hin hd w rb s k h
end Go.Proofs.YthadeccnibnioaaGreatDoor
