/- Take, Drop. -/
import Derived.Test.YthlaccicdbbeeaaHd
namespace Go.Proofs.Ythlaccicdbbeeaa
open Go.RowKit
open Go.Maps (string_keyed int_keyed)
open Go.Sort Go.Shelf
open Classical
set_option linter.unusedVariables false

noncomputable def inN (l : List ByteArray) (f : ByteArray) : Nat := if f ∈ l then 1 else 0
theorem inN_le (l : List ByteArray) (f : ByteArray) : inN l f ≤ 1 := by unfold inN; split <;> omega
theorem inN_nil (f : ByteArray) : inN [] f = 0 := by simp [inN]
theorem inN_next {l : List ByteArray} {j : Nat} (hn : l.Nodup) (h : j < l.length) : inN (l.take j) l[j] = 0 ∧ inN (l.take (j + 1)) l[j] = 1 ∧ ∀ f, f ≠ l[j] → inN (l.take (j + 1)) f = inN (l.take j) f := by
  have h1 : l[j] ∉ l.take j := by
    intro hm
    obtain ⟨i, hi, e⟩ := List.getElem_of_mem hm
    rw [List.getElem_take] at e
    simp at hi
    exact absurd ((List.getElem_inj hn).1 e) (by omega)
  refine ⟨by simp [inN, h1], ?_, fun f hf => ?_⟩
  · unfold inN
    rw [List.take_succ_eq_append_getElem h, if_pos (List.mem_append_right _ List.mem_cons_self)]
  · have e : f ∈ l.take (j + 1) ↔ f ∈ l.take j := by
      rw [List.take_succ_eq_append_getElem h, List.mem_append]
      simp only [List.mem_singleton, hf, or_false]
    unfold inN; simp only [e]
theorem CIs.rep {w : World} {C n : Nat} {h : ByteArray → Bool} {g : ByteArray → Nat} (H : CIs w C n h g) (hn : n ≤ 1000000000) (f : ByteArray) (hf : f.size ≤ maxLen) (hh : h f = true) (z : Int) (m : Nat) (hz : z = m) :
    ∃ w', (Instr.mapUpdate 68 (.map (some C)) (.string f) (.int .i64 z)).run Try.prog w = .ok () w' ∧ CIs w' C n h (upB g f m) ∧ Fr [C] w w' := by
  subst hz
  obtain ⟨D, h1, h2⟩ := H
  obtain ⟨w', e1, e2, e3⟩ := h1.store (e := 3) (t := 68) hKs Try.underlying68 (by unfold maxLen; omega) (key_of f hf) (show vR (.int .i64 (m : Int)) = some (.held (.int .i64 (m : Int)), []) from rfl)
  have hD := h1.isMap
  have hsz : Maps.size (D.put (kl f) (.held (.int .i64 (m : Int)))) ≤ n := by
    rw [Maps.size_put (h1.tidy hKs), (h2 f).1, hh, if_pos rfl]; exact h1.size_le
  refine ⟨w', e1, ⟨_, (own_tight e2).mono hsz, fun x => ?_⟩, fr_turned e3⟩
  by_cases e : x = f
  · subst e
    rw [upB_same, hh]
    exact ⟨Maps.has_put_same hD (show WideAt.IsKeyLit (.string _) from trivial) _, Maps.atKey_put_same hD (show WideAt.IsKeyLit (.string _) from trivial) _ _⟩
  · have hne : kl x ≠ kl f := fun h => e (kl_inj h)
    rw [upB_other _ _ e, Maps.has_put_other hne, Maps.atKey_put_other hne]
    exact h2 x
/-- A Share whose counts are those of its pictures. -/
abbrev ShS (w : World) (B P C n : Nat) (L : List Pic) : Prop := ShAt w B P C n L (cntP L)
theorem nm_size {f : ByteArray} (h : isNm f = true) : f.size ≤ maxLen := by have := isNm_size h; unfold maxLen; omega

section
variable {w : World} {B P C n : Nat} {L : List Pic}
set_option maxRecDepth 100000 in
set_option maxHeartbeats 2000000 in
theorem drop_any (h : ShS w B P C n L) (ok : POk L) (hn : n ≤ 1000000000) {k : Int} {own : List ByteArray} (hk : I64 k) (hm : (k, own) ∈ L) :
    Calls Try.prog 33 #[.pointer (some ⟨B, 0, none⟩), .int .i64 k] w fun e w' => (∃ v, e = .returned v) ∧ ShS w' B P C n (dropP L k) ∧ Fr [P, C] w w' := by
  obtain ⟨p, c, hat, hss⟩ := h.pic.at hk hm
  have c0 := h.c0
  have hol := ok.le _ hm
  have hnd := ok.nf _ hm
  have hnm := ok.nm _ hm
  have hcl := cnt_le L
  have hLl := ok.len
  have hdc := fun f => drop_cnt ok.nd hm f
  simp only at hol hnd hnm hdc
  have HC0 := Lib.hid h.cnt
  have HS := Lib.hid h
  have HN := Lib.hid hnd
  have HM := Lib.hid hnm
  have HDc := Lib.hid hdc
  have HCl := Lib.hid hcl
  have HOk := Lib.hid ok
  have nP := h.neP
  have nC := h.neC
  have nPC := h.ne
  have lB := h.lt
  have lP := h.ltP
  have lC := h.ltC
  have HSS := Lib.hid hss
  clear h hnd hnm hdc hcl ok hm hss
  go_enter Try.func33, Try.ntmps33
  go_wp2
  go_loopw [13] (fun i wr => ∃ j : Nat, j ≤ own.length ∧ i = .int .i64 j ∧ Fr [C] w wr ∧ ∃ g : ByteArray → Nat, (∀ f, g f + inN (own.take j) f = cntP L f) ∧ CIs wr C n (fun f => decide (g f ≠ 0)) g) (fun i _ => own.length - (intOf i).toNat)
  case atStart => exact ⟨0, by omega, rfl, Fr.refl _ _, cntP L, fun f => by simp [inN_nil], HC0.out⟩
  case round =>
    obtain ⟨j, hj, rfl, hF, g, hg, hC⟩ := hrel
    have hB : wr.heap[B]? = some (.cells #[.map (some P), .map (some C)] 70) := (hF.block B lB (by simp; exact nC)).trans HS.out.blk
    by_cases hlt : j < own.length
    · obtain ⟨i1, i2, i3⟩ := inN_next HN.out hlt
      have hnx := HM.out _ (List.getElem_mem hlt)
      have hsx := nm_size hnx
      have hss := HSS.out.keepM hF (fun b hb => by simp at hb; subst hb; exact HS.out.cnt.map)
      rcases hss with hss | ⟨b, o, rfl, hss⟩
      · subst hss; simp at hlt
      have d0 := hss j hlt
      have d1 : wr.cell? ⟨B, 1, none⟩ = some (.map (some C)) := by simp [World.cell?, hB]
      have hgx := hg own[j]
      rw [i1] at hgx
      have hpos : 0 < cntP L own[j] := by
        have := HDc.out own[j]
        rw [if_pos (List.getElem_mem hlt)] at this
        omega
      have hgl := HCl.out own[j]
      have hl1 := hC.look own[j] hsx
      by_cases hz : g own[j] - 1 = 0
      · have hzz := hz
        obtain ⟨w2, hrun, hC2, hF2⟩ := hC.rep hn own[j] hsx (by simp; omega) 0 (g own[j] - 1) (by omega)
        have hl2 := hC2.look own[j] hsx
        rw [upB_same] at hl2
        have hB2 : w2.heap[B]? = some (.cells #[.map (some P), .map (some C)] 70) := (hF2.block B (some_lt hB) (by simp; exact nC)).trans hB
        have d2 : w2.cell? ⟨B, 1, none⟩ = some (.map (some C)) := by simp [World.cell?, hB2]
        have hFF := hF.trans hF2
        have HG' : Hid (∀ f, upB g own[j] (g own[j] - 1) f + inN (own.take (j + 1)) f = cntP L f) := fun f => by
          by_cases e : f = own[j]
          · subst e; rw [upB_same, i2]; omega
          · rw [upB_other _ _ e, i3 f e]; exact hg f
        obtain ⟨w3, hdel, hC3, hF3⟩ := hC2.del own[j] hsx 0
        have hz' : ((g own[j] - 1 : Nat) : Int) = 0 := by omega
        rw [hz'] at hl2
        have hgi : (g own[j] : Int) = 1 := by omega
        have HF3 := Lib.hid (hFF.trans hF3)
        have HC3 := Lib.hid hC3
        have HZ := Lib.hid hz
        rw [hgi] at hl1
        clear hg hC hC2 hC3 hF hF2 hF3 hFF hss hz hz' hgx hpos hgl i1 i2 i3 hgi hzz
        obtain ⟨x, hx⟩ : ∃ x, own[j] = x := ⟨_, rfl⟩
        rw [hx] at d0 hl1 hl2 hrun hdel
        have HX := Lib.hid hx
        clear hx
        go_wp2
        go_roundw
        case rel =>
          refine ⟨j + 1, by omega, by go_num, HF3.out, _, HG'.out, ?_⟩
          have := HC3.out
          rw [HZ.out] at this ⊢
          have e1 : upB (upB g own[j] 0) own[j] 0 = upB g own[j] 0 := by
            funext f; by_cases e : f = own[j]
            · subst e; simp [upB_same]
            · simp [upB_other _ _ e]
          have e2 : upB (fun f => decide (g f ≠ 0)) own[j] false = fun f => decide (upB g own[j] 0 f ≠ 0) := by
            funext f; by_cases e : f = own[j]
            · subst e; simp [upB_same]
            · simp [upB_other _ _ e]
          rw [e1, e2] at this
          exact this
        case measure => simp [intOf]; omega
      · have hzz := hz
        obtain ⟨w2, hrun, hC2, hF2⟩ := hC.rep hn own[j] hsx (by simp; omega) ((g own[j] : Int) - 1) (g own[j] - 1) (by omega)
        have hl2 := hC2.look own[j] hsx
        rw [upB_same] at hl2
        have hB2 : w2.heap[B]? = some (.cells #[.map (some P), .map (some C)] 70) := (hF2.block B (some_lt hB) (by simp; exact nC)).trans hB
        have d2 : w2.cell? ⟨B, 1, none⟩ = some (.map (some C)) := by simp [World.cell?, hB2]
        have hFF := hF.trans hF2
        have HG' : Hid (∀ f, upB g own[j] (g own[j] - 1) f + inN (own.take (j + 1)) f = cntP L f) := fun f => by
          by_cases e : f = own[j]
          · subst e; rw [upB_same, i2]; omega
          · rw [upB_other _ _ e, i3 f e]; exact hg f
        have hz' : ((((g own[j] - 1 : Nat) : Int)) == 0) = false := by simp; omega
        have HF2 := Lib.hid hFF
        have HC2 := Lib.hid hC2
        have HZ := Lib.hid hz
        have hgb : (g own[j] : Int) ≤ 400 := by omega
        have hgb0 : 1 ≤ (g own[j] : Int) := by omega
        generalize hu : ((g own[j] - 1 : Nat) : Int) = u at *
        generalize hy : (g own[j] : Int) = y at *
        clear hg hC hC2 hF hF2 hFF hss hz hzz hgx hpos hgl i1 i2 i3 hu
        obtain ⟨x, hx⟩ : ∃ x, own[j] = x := ⟨_, rfl⟩
        rw [hx] at d0 hl1 hl2 hrun
        have HX := Lib.hid hx
        clear hx hy
        go_wp2
        go_roundw
        case rel =>
          refine ⟨j + 1, by omega, by go_num, HF2.out, _, HG'.out, ?_⟩
          have := HC2.out
          have e2 : (fun f => decide (g f ≠ 0)) = fun f => decide (upB g own[j] (g own[j] - 1) f ≠ 0) := by
            funext f; by_cases e : f = own[j]
            · subst e
              have := HZ.out
              rw [upB_same]
              simp
              constructor <;> intro h <;> omega
            · simp [upB_other _ _ e]
          rw [e2] at this
          exact this
        case measure => simp [intOf]; omega
    · obtain rfl : j = own.length := by omega
      rw [List.take_length] at hg
      have hPw : PIs wr P L := HS.out.pic.keep hF (fun b hb => by simp at hb; subst hb; exact HS.out.cnt.map) (by simp; exact nPC)
      obtain ⟨w3, hdel, hP3, hF3⟩ := hPw.del HOk.out.nd hk 0
      have d1 : wr.cell? ⟨B, 0, none⟩ = some (.map (some P)) := by simp [World.cell?, hB]
      have e1 : cntP (dropP L k) = g := by
        funext f
        have h1 := HDc.out f
        have h2 := hg f
        unfold inN at h2
        omega
      have HFin : Hid (ShS w3 B P C n (dropP L k) ∧ Fr [P, C] w w3) := by
        refine ⟨⟨(hF3.block B (some_lt hB) (by simp; exact nP)).trans hB, hP3, ?_, nPC⟩, (hF.more (fun k _ hk => List.mem_cons_of_mem _ hk)).trans (hF3.more (fun k _ hk => by simp at hk; subst hk; exact List.mem_cons_self))⟩
        rw [e1]
        exact hC.block (hF3.block C (Nat.lt_of_lt_of_le lC hF.size) (by simp; exact fun e => nPC e.symm))
      clear hg hC hF hPw hP3 hF3 hB e1
      go_wp2
      go_end0
      exact ⟨⟨_, rfl⟩, HFin.out⟩
end
end Go.Proofs.Ythlaccicdbbeeaa
