/- Put, Del, Compact. -/
import Derived.Test.YtckjcjoheeobgaaGreatDoorLf
namespace Go.Proofs.YtckjcjoheeobgaaGreatDoor
open Go.RowKit
open Go.Maps (string_keyed)
open Go.Shelf Go.Sort
set_option linter.unusedVariables false
section
variable {lo : Nat} {w w' : World} {S Ml Mf : Nat} {v v1 : Value} {s : Sto}
theorem set_any (h : StAt lo w S Ml Mf v s) (ok : SOk s) (hn : s.tabs.length ≤ 100000) (e : En) (hsh : shapeE e = false) :
    Calls Tryz.prog 26 #[.pointer (some ⟨S, 0, none⟩), enV e] w (SetEnd lo S Ml Mf w s e) := by
  cases hb : badEn e with
  | true => exact set_bad h e hb
  | false =>
    cases hh : hasK s.all (kl e) with
    | true => exact set_yes h ok hn e hb hsh (.inl hh)
    | false =>
      by_cases hl : 400 ≤ s.all.length
      · exact set_full h ok e hb hh hl
      · exact set_yes h ok hn e hb hsh (.inr (by omega))
theorem SetEnd.ret {e : En} {r : Ending} (h : SetEnd lo S Ml Mf w s e r w') : ∃ x, r = .returned x := ⟨_, h.1⟩
set_option maxHeartbeats 1000000 in
theorem put_any (h : StAt lo w S Ml Mf v s) (ok : SOk s) (hn : s.tabs.length ≤ 100000) (key val : ByteArray) :
    Calls Tryz.prog 8 #[.pointer (some ⟨S, 0, none⟩), .string key, .string val] w (SetEnd lo S Ml Mf w s ⟨key, val, false⟩) := by
  have H := Lib.hid (set_any h ok hn ⟨key, val, false⟩ rfl)
  generalize hQ : SetEnd lo S Ml Mf w s ⟨key, val, false⟩ = Q at *
  have HR : Hid (∀ r u, Q r u → ∃ x, r = .returned x) := Lib.hid (fun r u hq => by rw [← hQ] at hq; exact hq.ret)
  simp only [enV] at H
  clear h ok hQ
  go_enter Tryz.func8, Tryz.ntmps8
  go_wp2_with (go_at_call 26; refine Hid.out ?_)
  refine Lib.hid ?_
  refine H.out.mono ?_
  intro r u hq
  obtain ⟨x, rfl⟩ := HR.out r u hq
  have HQ := Lib.hid hq
  clear hq
  go_wp2_with fail
  exact HQ.out
set_option maxHeartbeats 1000000 in
theorem dele_any (h : StAt lo w S Ml Mf v s) (ok : SOk s) (hn : s.tabs.length ≤ 100000) (key : ByteArray) :
    Calls Tryz.prog 10 #[.pointer (some ⟨S, 0, none⟩), .string key] w (SetEnd lo S Ml Mf w s ⟨key, ⟨#[]⟩, true⟩) := by
  have H := Lib.hid (set_any h ok hn ⟨key, ⟨#[]⟩, true⟩ rfl)
  generalize hQ : SetEnd lo S Ml Mf w s ⟨key, ⟨#[]⟩, true⟩ = Q at *
  have HR : Hid (∀ r u, Q r u → ∃ x, r = .returned x) := Lib.hid (fun r u hq => by rw [← hQ] at hq; exact hq.ret)
  simp only [enV] at H
  clear h ok hQ
  go_enter Tryz.func10, Tryz.ntmps10
  go_wp2_with (go_at_call 26; refine Hid.out ?_)
  refine Lib.hid ?_
  refine H.out.mono ?_
  intro r u hq
  obtain ⟨x, rfl⟩ := HR.out r u hq
  have HQ := Lib.hid hq
  clear hq
  go_wp2_with fail
  exact HQ.out

theorem grow_of {xs : List Nat} {b : Nat} (f : Fr [b] w w') : w.grownBy w' (some b) := ⟨f.os, f.tape, f.output, f.size, fun k hk hx => f.block k hk (by simp; intro e; exact hx (by rw [e]))⟩
theorem live_st {l : List En} (h : Ris l) : liveE l = stE (livE l) := by
  funext k
  rw [stE_at]
  unfold liveE livE
  rw [atK_filter h, stE_at]
theorem one_row {w : World} {lo : Nat} (hlo : lo ≤ w.heap.size) (t : Tab) : (w.alloc (.cells #[tabV t] 56)).ownsRow lo 56 1 (.slice (some ⟨w.heap.size, 0, none⟩) 1 1) [t].length ([t].map tabV) :=
  ⟨rfl, .inr ⟨w.heap.size, 1, #[tabV t], rfl, hlo, (MapKept.heap_alloc w _).1, by simp, by simp [maxLen], rfl, rfl⟩⟩
set_option maxRecDepth 100000 in
set_option maxHeartbeats 2000000 in
/-- What comes behind the new row. -/
theorem comp_end (h : StAt lo w S Ml Mf v s) (ok : SOk s) :
    ∃ w1, (Builtin.clear_ #[64] 0 #[.map (some Mf)]).run Tryz.prog w = .ok (.tuple #[]) w1 ∧ w1.cell? ⟨S, 1, none⟩ = some (.map (some Ml)) ∧
      Calls Tryz.prog 33 #[.map (some Ml), .func (.func 34) #[] #[]] w1 fun e w' => e = .returned (.tuple #[]) ∧ StAt lo w' S Ml Mf v ⟨s.lim, livE s.all, [], s.tabs⟩ ∧ FrS lo w w' := by
  obtain ⟨w1, hrun, hf, hg⟩ := fr_map h.fresh 0
  obtain ⟨h1, f1⟩ := h.turnedF hg hf
  refine ⟨w1, hrun, h1.cell.2.1, ?_⟩
  obtain ⟨D, hD1, hD2⟩ := h1.last
  refine (del_any w1 Ml _ D s.all hD1 hD2).mono ?_
  rintro e w' ⟨he, ⟨D', hD3, hD4⟩, f⟩
  rw [live_st ok.ris] at hD4
  obtain ⟨h2, f2⟩ := h1.turnedL (grow_of (xs := []) f) (LastIs.mk hD3 hD4 (ris_filter ok.ris _))
  exact ⟨he, h2, f1.trans f2⟩
set_option maxRecDepth 100000 in
set_option maxHeartbeats 2000000 in
theorem compact_any (h : StAt lo w S Ml Mf v s) (ok : SOk s) :
    Calls Tryz.prog 13 #[.pointer (some ⟨S, 0, none⟩)] w fun e w' => e = .returned .nilIface ∧ (∃ v', StAt lo w' S Ml Mf v' (compS s)) ∧ FrS lo w w' := by
  have HSc := scan_any h ok ⟨#[]⟩ ⟨#[]⟩
  have esc : scanS s (⟨#[]⟩ : ByteArray).data.toList (⟨#[]⟩ : ByteArray).data.toList = livE s.all := scan_all s
  rw [esc] at HSc
  have HSC := Lib.hid HSc
  have HS := Lib.hid h
  have hE := liv_ents ok
  have hlo := h.loW
  obtain ⟨A0, cap0, rfl⟩ := h.tabs.len
  clear h HSc esc
  by_cases hl : livE s.all = []
  · have hcs : compS s = ⟨s.lim, livE s.all, [], []⟩ := by unfold compS; rw [if_pos hl]
    rw [hcs]
    have hl0 : ((livE s.all).length : Int) = 0 := by rw [hl]; rfl
    generalize (livE s.all).length = m at *
    have hm : ¬ (0 : Int) < m := by omega
    clear hcs hl0
    go_enter Tryz.func13, Tryz.ntmps13
    go_wp2_with (go_at_call 18; refine Hid.out ?_)
    refine Lib.hid ?_
    refine HSC.out.mono ?_
    rintro e w1 ⟨A1, cap1, rfl, -, b1⟩
    have h1 := HS.out.keep b1
    obtain ⟨hN, hF⟩ := h1.newRow (w' := w1) (T := []) (ts := []) ⟨rfl, rfl, rfl, Nat.le_refl _, fun _ _ _ => rfl⟩ (World.ownsRow_nil _ _ _ _) rfl (by simp)
    obtain ⟨c0, c1, c2, c3⟩ := h1.cell
    have fz := h1.fz 3
    obtain ⟨w2, hrun, d1, hcall⟩ := comp_end hN ⟨ok.lo, ok.hi, ok.ris, ok.len, ok.fine, ok.nd, ok.has, by simp⟩
    have HC := Lib.hid hcall
    have hF0 := (FrS.below b1 hlo).trans hF
    clear hcall hN hF h1 b1
    go_wp2_with (go_at_call 33; refine Hid.out ?_)
    refine Lib.hid ?_
    refine HC.out.mono ?_
    rintro e w3 ⟨rfl, h3, f3⟩
    have HE := Lib.hid h3
    have hFin := hF0.trans f3
    clear h3 f3 hF0
    go_wp2_with fail
    go_ret
    exact ⟨rfl, ⟨_, HE.out⟩, hFin⟩
  · have hcs : compS s = ⟨s.lim, livE s.all, [], [livE s.all]⟩ := by unfold compS; rw [if_neg hl]
    rw [hcs]
    have hpos : 0 < (livE s.all).length := Nat.pos_of_ne_zero (fun e => hl (List.length_eq_zero_iff.1 e))
    have hlen : (livE s.all).length ≤ 400 := (ents_zero hE).1
    have hok := ents_oks hE
    have HCS := Lib.hid (show ∀ (lo : Nat) (u : World) (v : Value) (all : List En), all = livE s.all → StAt lo u S Ml Mf v ⟨s.lim, livE s.all, [], [all]⟩ → StAt lo u S Ml Mf v ⟨s.lim, livE s.all, [], [livE s.all]⟩ from fun lo u v all e h => by rw [← e] at h ⊢; exact h)
    obtain ⟨R, hR⟩ : ∃ R, R = livE s.all := ⟨_, rfl⟩
    rw [← hR] at HSC hE hpos hlen hok
    have hm : (0 : Int) < R.length := by omega
    have HRe := Lib.hid hR
    clear hcs hl hR
    go_enter Tryz.func13, Tryz.ntmps13
    go_wp2_with (go_at_call 18; refine Hid.out ?_)
    refine Lib.hid ?_
    refine HSC.out.mono ?_
    rintro e w1 ⟨A1, cap1, rfl, hc1, b1⟩
    have HBd := Lib.hid (build_yt w1 A1 cap1 R hc1 (by omega) hok hE)
    go_wp2_with (go_at_call 29; refine Hid.out ?_)
    refine Lib.hid ?_
    refine HBd.out.mono ?_
    rintro e w2 ⟨A2, cap2, rfl, hz2, hy2, b2⟩
    have B2 : Below w.heap.size w w2 := b1.trans (b2.mono b1.size)
    have bA : Below w2.heap.size w2 (w2.alloc (.cells #[.slice A2 (buildB R).length cap2] 56)) := (Below.refl _ w2).alloc (Nat.le_refl _) _
    have B3 := B2.trans (bA.mono B2.size)
    have h3 := HS.out.keep B3
    have hlo2 := (HS.out.keep B2).loW
    obtain ⟨hN, hF⟩ := h3.newRow (w' := w2.alloc (.cells #[.slice A2 (buildB R).length cap2] 56)) (T := [(A2, cap2, buildB R)]) (ts := [R]) ⟨rfl, rfl, rfl, Nat.le_refl _, fun _ _ _ => rfl⟩ (one_row hlo2 (A2, cap2, buildB R)) rfl (fun t ht => by simp at ht; subst ht; exact ⟨(tab_ok hz2 hE).keep bA, hy2.below bA⟩)
    obtain ⟨c0, c1, c2, c3⟩ := h3.cell
    have fz := h3.fz 3
    have lS := (HS.out.keep B2).lt.1
    have g0 : w2.cell? ⟨S, 3, none⟩ = some (.slice A0 s.tabs.length cap0) := (HS.out.keep B2).cell.2.2.2
    have g2 : w2.cell? ⟨S, 2, none⟩ = some (.map (some Mf)) := (HS.out.keep B2).cell.2.2.1
    have gz : w2.frozen? ⟨S, 3, none⟩ = false := (HS.out.keep B2).fz 3
    obtain ⟨w4, hrun, d1, hcall⟩ := comp_end hN ⟨ok.lo, ok.hi, ok.ris, ok.len, ok.fine, ok.nd, ok.has, fun t ht => by simp at ht; subst ht; exact hE⟩
    have ecm : (w2.alloc (.cells #[.slice A2 (buildB R).length cap2] 56)).setCell ⟨S, 3, none⟩ (.slice (some ⟨w2.heap.size, 0, none⟩) 1 1) = (w2.setCell ⟨S, 3, none⟩ (.slice (some ⟨w2.heap.size, 0, none⟩) 1 1)).alloc (.cells #[.slice A2 (buildB R).length cap2] 56) := by simp [lS, go_sem]
    rw [ecm] at hrun
    have HC := Lib.hid hcall
    have hF0 := (FrS.below B3 hlo).trans hF
    clear hcall hN hF h3 b1 b2 hc1 hok HBd HSC hz2 hy2 bA B2 B3 ecm
    go_wp2_with (go_at_call 33; refine Hid.out ?_)
    refine Lib.hid ?_
    refine HC.out.mono ?_
    rintro e w5 ⟨rfl, h5, f5⟩
    have HE := Lib.hid h5
    have hFin := hF0.trans f5
    clear h5 f5 hF0
    go_wp2_with fail
    go_ret
    exact ⟨rfl, ⟨_, HCS.out _ _ _ _ HRe.out HE.out⟩, hFin⟩
end
end Go.Proofs.YtckjcjoheeobgaaGreatDoor
