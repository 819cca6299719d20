/- Drop, Take. -/
import Derived.Test.YthlaccicdbbeeaaHe
namespace Go.Proofs.Ythlaccicdbbeeaa
open Go.RowKit
open Go.Maps (string_keyed int_keyed)
open Go.Sort Go.Shelf
open Classical
set_option linter.unusedVariables false
theorem has_pic {L : List Pic} {k : Int} (h : hasP L k = true) : ∃ own, (k, own) ∈ L := by
  obtain ⟨⟨a, b⟩, hp, e⟩ := List.mem_map.1 (has_mem.1 h)
  simp only at e
  subst e
  exact ⟨b, hp⟩
section
variable {w : World} {B P C n : Nat} {L : List Pic}
set_option maxHeartbeats 1000000 in
theorem drop_yes (h : ShS w B P C n L) (ok : POk L) (hn : n ≤ 1000000000) {k : Int} (hk : I64 k) (hh : hasP L k = true) :
    Calls Try.prog 18 #[.pointer (some ⟨B, 0, none⟩), .int .i64 k] w fun e w' => e = .returned .nilIface ∧ ShS w' B P C n (dropP L k) ∧ Fr [P, C] w w' := by
  obtain ⟨own, hm⟩ := has_pic hh
  have HD := drop_any h ok hn hk hm
  obtain ⟨p, m, c, hl⟩ := h.pic.has k hk
  rw [hh] at hl
  have c0 := h.c0
  clear h
  go_enter Try.func18, Try.ntmps18
  go_wp2_with (go_at_call 33; refine HD.mono ?_; rintro e w' ⟨⟨v, rfl⟩, h1, h2⟩)
  go_ret
  exact ⟨rfl, h1, h2⟩
set_option maxHeartbeats 1000000 in
theorem drop_no (h : ShS w B P C n L) {k : Int} (hk : I64 k) (hh : hasP L k = false) :
    Calls Try.prog 18 #[.pointer (some ⟨B, 0, none⟩), .int .i64 k] w fun e w' => e = .returned (erV 6) ∧ w = w' := by
  obtain ⟨p, m, c, hl⟩ := h.pic.has k hk
  rw [hh] at hl
  have c0 := h.c0
  rw [erV_6]
  clear h
  go_enter Try.func18, Try.ntmps18
  go_wp2
  go_ret
  exact ⟨rfl, rfl⟩

def TakeEnd (w : World) (B P C n : Nat) (L : List Pic) (k : Int) (l : List ByteArray) (e : Ending) (w' : World) : Prop :=
  e = .returned (erV (takeE L k l)) ∧ Fr [P, C] w w' ∧ (takeE L k l ≠ 0 → ShS w' B P C (n + 400) L) ∧ (takeE L k l = 0 → ∃ own : List ByteArray, own.Nodup ∧ (∀ f, f ∈ own ↔ f ∈ l) ∧ ShS w' B P C (n + 400) ((k, own) :: L))
theorem TakeEnd.no (h : ShS w B P C n L) {k : Int} {l : List ByteArray} {z : Int} (hz : takeE L k l = z) (h0 : z ≠ 0) {w' : World} (hb : Below w.heap.size w w') : TakeEnd w B P C n L k l (.returned (erV z)) w' :=
  ⟨by rw [hz], Fr.below hb, fun _ => (h.keep hb).up (by omega), fun e => absurd (hz.symm.trans e) h0⟩
set_option maxRecDepth 100000 in
set_option maxHeartbeats 2000000 in
theorem take_early (h : ShS w B P C n L) (ok : POk L) {k : Int} (hk : I64 k) (la : Option Addr) (l : List ByteArray) (c : Nat) (hh : k < 0 ∨ hasP L k = true ∨ 400 ≤ L.length) :
    Calls Try.prog 16 #[.pointer (some ⟨B, 0, none⟩), .int .i64 k, .slice la l.length c] w (TakeEnd w B P C n L k l) := by
  have c0 := h.c0
  have HE := Lib.hid (fun z hz h0 => TakeEnd.no h (k := k) (l := l) (z := z) hz h0 (Below.refl _ _))
  obtain ⟨p, m, c', hl⟩ := h.pic.has k hk
  have hln := h.pic.len ok.nd
  have HR : Hid (TakeEnd w B P C n L k l = TakeEnd w B P C n L k l) := rfl
  generalize TakeEnd w B P C n L k l = R at *
  clear HR h
  by_cases h0 : k < 0
  · have h1 := HE.out 1 (by unfold takeE; rw [if_pos h0]) (by decide)
    rw [erV_1] at h1
    go_enter Try.func16, Try.ntmps16
    go_wp2
    exact h1
  · cases h8 : hasP L k with
    | true =>
      rw [h8] at hl
      have h1 := HE.out 8 (by unfold takeE; rw [if_neg h0, if_pos h8]) (by decide)
      rw [erV_8] at h1
      go_enter Try.func16, Try.ntmps16
      go_wp2
      exact h1
    | false =>
      rw [h8] at hl
      have h4 : 400 ≤ L.length := by
        rcases hh with hh | hh | hh
        · exact absurd hh h0
        · rw [h8] at hh; cases hh
        · exact hh
      have h4' : (400 : Int) ≤ (L.length : Int) := by omega
      have h1 := HE.out 4 (by unfold takeE; rw [if_neg h0, if_neg (by rw [h8]; decide), if_pos h4]) (by decide)
      rw [erV_4] at h1
      generalize L.length = q at h4' hln
      clear hh HE
      go_enter Try.func16, Try.ntmps16
      go_wp2
      exact h1
set_option maxRecDepth 100000 in
set_option maxHeartbeats 2000000 in
theorem take_late (h : ShS w B P C n L) (ok : POk L) (hn : n ≤ 100000000) {k : Int} (hk : I64 k) {la : Option Addr} {l : List ByteArray} (c : Nat) (hl : SsAt w la l) (hlen : l.length ≤ 9223372036854775807) (hz : ∀ x ∈ l, x.size ≤ maxLen) (h0 : ¬ k < 0) (h8 : hasP L k = false) (h4 : ¬ 400 ≤ L.length) :
    Calls Try.prog 16 #[.pointer (some ⟨B, 0, none⟩), .int .i64 k, .slice la l.length c] w (TakeEnd w B P C n L k l) := by
  have c0 := h.c0
  have hT : takeE L k l = onceE l := by unfold takeE; rw [if_neg h0, if_neg (by rw [h8]; decide), if_neg h4]
  have HE := Lib.hid (fun z w' hz h0 hb => TakeEnd.no h (w' := w') (k := k) (l := l) (z := z) hz h0 hb)
  obtain ⟨p, m, c', hlk⟩ := h.pic.has k hk
  rw [h8] at hlk
  have hln := h.pic.len ok.nd
  have h4' : ¬ (400 : Int) ≤ (L.length : Int) := by omega
  have HO := Lib.hid (once_any hl c hlen hz)
  have HS := Lib.hid h
  have HOk := Lib.hid ok
  have HT := Lib.hid hT
  have HZ := Lib.hid hz
  have nP := h.neP
  have nC := h.neC
  have nPC := h.ne
  have hR : TakeEnd w B P C n L k l = TakeEnd w B P C n L k l := rfl
  generalize hRR : TakeEnd w B P C n L k l = R at *
  have HR := Lib.hid hRR
  have H8 := Lib.hid h8
  have H4 := Lib.hid h4
  clear hR hRR h ok hT hz hl h8 h4
  generalize hq : (L.length : Int) = q at h4' hln
  have HQ := Lib.hid hq
  clear hq
  go_enter Try.func16, Try.ntmps16
  go_wp2_with (go_at_call 32; refine Hid.out ?_)
  refine Lib.hid ?_
  refine HO.out.mono ?_
  rintro e w1 ⟨hb, hOE⟩
  by_cases hE : onceE l = 0
  · rw [if_pos hE] at hOE
    obtain ⟨A, cap, own, rfl, hA, hnd, hmem⟩ := hOE
    have hPO := HOk.out.take (HT.out.trans hE) hnd hmem
    have hS1 := HS.out.keep hb
    have d0 := hS1.c0
    have d1 := hS1.c1
    obtain ⟨w2, hrun, hP2, hF2⟩ := hS1.pic.put HOk.out.nd (by have := HOk.out.len; omega) hk H8.out (c := cap) hA rfl
    have hmp1 : ∀ b ∈ [P], ∃ es cl, w1.heap[b]? = some (.map es cl) := fun b hb => by simp at hb; subst hb; exact hS1.pic.map
    have hA2 := hA.keepM hF2 hmp1
    have hC2 := hS1.cnt.block (hF2.block C hS1.ltC (by simp; exact fun e => nPC e.symm))
    have hB2 : w2.heap[B]? = some (.cells #[.map (some P), .map (some C)] 70) := (hF2.block B hS1.lt (by simp; exact nP)).trans hS1.blk
    have hF0 : Fr [P, C] w w2 := (Fr.below hb).trans (hF2.more (fun k _ hk => by simp at hk; subst hk; exact List.mem_cons_self))
    have hol : own.length ≤ 400 := hPO.le _ List.mem_cons_self
    have hnm := hPO.nm _ List.mem_cons_self
    simp only at hnm
    have HNm := Lib.hid hnm
    have HNd := Lib.hid hnd
    have HA2 := Lib.hid hA2
    have HP2 := Lib.hid hP2
    have HC2 := Lib.hid hC2
    have HB2 := Lib.hid hB2
    have HF0 := Lib.hid hF0
    have HMem := Lib.hid hmem
    have HPO := Lib.hid hPO
    have lC2 : C < w2.heap.size := Nat.lt_of_lt_of_le hS1.ltC hF2.size
    have lP2 : P < w2.heap.size := Nat.lt_of_lt_of_le hS1.ltP hF2.size
    have hCl := fun f => cnt_le L f
    have HCl := Lib.hid hCl
    clear hS1 hP2 hF2 hA2 hA hC2 hB2 hF0 hnm hnd hmem hPO hmp1 hCl
    go_wp2
    go_loopw [50] (fun i wr => ∃ j : Nat, j ≤ own.length ∧ i = .int .i64 j ∧ Fr [C] w2 wr ∧ ∃ g : ByteArray → Nat, (∀ f, g f = cntP L f + inN (own.take j) f) ∧ CIs wr C (n + j) (fun f => decide (g f ≠ 0)) g) (fun i _ => own.length - (intOf i).toNat)
    case atStart => exact ⟨0, by omega, rfl, Fr.refl _ _, cntP L, fun f => by simp [inN_nil], HC2.out⟩
    case round =>
      obtain ⟨j, hj, rfl, hF, g, hg, hC⟩ := hrel
      have hB : wr.heap[B]? = some (.cells #[.map (some P), .map (some C)] 70) := (hF.block B (some_lt HB2.out) (by simp; exact nC)).trans HB2.out
      have hmC : ∀ b ∈ [C], ∃ es cl, w2.heap[b]? = some (.map es cl) := fun b hb => by simp at hb; subst hb; exact HC2.out.map
      by_cases hlt : j < own.length
      · obtain ⟨i1, i2, i3⟩ := inN_next HNd.out hlt
        have hnx := HNm.out _ (List.getElem_mem hlt)
        have hsx := nm_size hnx
        have hss := HA2.out.keepM hF hmC
        rcases hss with hss | ⟨b, o, rfl, hss⟩
        · subst hss; simp at hlt
        have e0 := hss j hlt
        have e1 : wr.cell? ⟨B, 1, none⟩ = some (.map (some C)) := by simp [World.cell?, hB]
        have hgx := hg own[j]
        rw [i1] at hgx
        have hgl := HCl.out own[j]
        have hLl := HOk.out.len
        have hl1 := hC.look own[j] hsx
        obtain ⟨w3, hrun3, hC3, hF3⟩ := hC.put (by omega) own[j] hsx ((g own[j] : Int) + 1) (g own[j] + 1) (by omega)
        have HFF := Lib.hid (hF.trans hF3)
        have HG' : Hid (∀ f, upB g own[j] (g own[j] + 1) f = cntP L f + inN (own.take (j + 1)) f) := fun f => by
          by_cases e : f = own[j]
          · subst e; rw [upB_same, i2]; omega
          · rw [upB_other _ _ e, i3 f e]; exact hg f
        have HC3 : Hid (CIs w3 C (n + (j + 1)) (fun f => decide (upB g own[j] (g own[j] + 1) f ≠ 0)) (upB g own[j] (g own[j] + 1))) := by
          have e2 : upB (fun f => decide (g f ≠ 0)) own[j] true = fun f => decide (upB g own[j] (g own[j] + 1) f ≠ 0) := by
            funext f; by_cases e : f = own[j]
            · subst e; simp [upB_same]
            · simp [upB_other _ _ e]
          rw [e2] at hC3
          exact hC3
        have hgb : (g own[j] : Int) ≤ 1000 := by omega
        have hgb0 : 0 ≤ (g own[j] : Int) := by omega
        obtain ⟨y, hy⟩ : ∃ y, (g own[j] : Int) = y := ⟨_, rfl⟩
        rw [hy] at hl1 hrun3 hgb hgb0
        obtain ⟨x, hx⟩ : ∃ x, own[j] = x := ⟨_, rfl⟩
        rw [hx] at e0 hl1 hrun3
        clear hy hx hg hC hC3 hF hF3 hss hgx hgl hLl i1 i2 i3 hsx hnx hmC hB
        go_wp2
        go_roundw
        case rel => exact ⟨j + 1, by omega, by go_num, HFF.out, _, HG'.out, HC3.out⟩
        case measure => simp [intOf]; omega
      · obtain rfl : j = own.length := by omega
        rw [List.take_length] at hg
        have e1 : cntP ((k, own) :: L) = g := by
          funext f
          rw [cnt_cons, hg f]; rfl
        have HFin : Hid (R (.returned .nilIface) wr) := by
          unfold Hid
          rw [← HR.out]
          have e0 := HT.out.trans hE
          refine ⟨by rw [e0]; rfl, HF0.out.trans (hF.more (fun k _ hk => List.mem_cons_of_mem _ hk)), fun e => absurd e0 e, fun _ => ⟨own, HNd.out, HMem.out, ?_⟩⟩
          refine ShAt.up (n := n + own.length) ⟨hB, HP2.out.keep hF hmC (by simp; exact nPC), ?_, nPC⟩ (by omega)
          rw [e1]; exact hC
        clear hg hC hF hmC hB e1
        go_wp2
        exact HFin.out
  · rw [if_neg hE] at hOE
    subst hOE
    have hr := HE.out (onceE l) w1 HT.out hE hb
    have hv : ∃ z : Int, erV (onceE l) = .iface 53 (.int .i64 z) := ⟨onceE l, by unfold erV; rw [if_neg hE]⟩
    obtain ⟨z, hv⟩ := hv
    rw [hv] at hr ⊢
    clear hE HT HO hv
    go_wp2
    exact hr
theorem take_any (h : ShS w B P C n L) (ok : POk L) (hn : n ≤ 100000000) {k : Int} (hk : I64 k) {la : Option Addr} {l : List ByteArray} (c : Nat) (hl : SsAt w la l) (hlen : l.length ≤ 9223372036854775807) (hz : ∀ x ∈ l, x.size ≤ maxLen) :
    Calls Try.prog 16 #[.pointer (some ⟨B, 0, none⟩), .int .i64 k, .slice la l.length c] w (TakeEnd w B P C n L k l) := by
  by_cases h0 : k < 0
  · exact take_early h ok hk la l c (.inl h0)
  · cases h8 : hasP L k with
    | true => exact take_early h ok hk la l c (.inr (.inl h8))
    | false =>
      by_cases h4 : 400 ≤ L.length
      · exact take_early h ok hk la l c (.inr (.inr h4))
      · exact take_late h ok hn hk c hl hlen hz h0 h8 h4
end
end Go.Proofs.Ythlaccicdbbeeaa
