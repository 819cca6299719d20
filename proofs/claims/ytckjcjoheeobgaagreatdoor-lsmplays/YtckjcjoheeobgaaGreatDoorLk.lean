/- add: a table more. -/
import Derived.Test.YtckjcjoheeobgaaGreatDoorLh
import Derived.RangeFuncNested
namespace Go.Proofs.YtckjcjoheeobgaaGreatDoor
open Go.RowKit Go.Shelf
set_option linter.unusedVariables false

theorem read_yt (u : World) (t : Tab) (L : List En) (h : TabOk u t) (hb : t.2.2 = buildB L) (hE : entsE L = 0) :
    Calls Tryz.prog 39 #[tabV t] u fun e u' => ∃ A' c', e = .returned (.tuple #[.slice A' L.length c', .nilIface]) ∧ CsAt u' A' (ecells L) ∧ LyAt u' A' 40 ∧ Below u.heap.size u u' := by
  obtain ⟨p, c, l⟩ := t
  simp only at hb
  subst hb
  refine (read_any u p c _ h.1 h.2.1 h.2.2.1 h.2.2.2).mono ?_
  rintro e u' ⟨h1, hb⟩
  rw [read_build hE] at h1
  obtain ⟨v, rfl, ho⟩ := h1
  obtain ⟨A', c', rfl⟩ := row_slice ho
  exact ⟨A', c', rfl, (own_cs ho (ecells_len L)).1, LyAt.of ho, hb⟩
theorem FrS.cells {lo : Nat} {w w' : World} (h : FrS lo w w') {e : TypeId} (h1 : e ≠ 66) (h2 : e ≠ 56) : ∀ (k : Nat) (cur : Array Value), w.heap[k]? = some (.cells cur e (0, 0)) → w'.heap[k]? = w.heap[k]? := fun k cur hc => by
  rw [hc]
  refine h.kept k _ hc ?_
  rintro (⟨es, cl, e⟩ | ⟨c, e⟩ | ⟨c, e⟩)
  · cases e
  · injection e with _ e; exact h1 e
  · injection e with _ e; exact h2 e
section
variable {lo : Nat} {w w' : World} {S Ml Mf : Nat} {v v1 : Value} {s : Sto}
/-- What is no cells stays, but the two maps. -/
def KpM (Ml Mf : Nat) (w w' : World) : Prop := ∀ (k : Nat) (o : Obj), w.heap[k]? = some o → o.isCells = false → k ≠ Ml → k ≠ Mf → w'.heap[k]? = some o
theorem KpM.refl (Ml Mf : Nat) (w : World) : KpM Ml Mf w w := fun _ _ h _ _ _ => h
theorem KpM.trans {a b c : World} (h : KpM Ml Mf a b) (k : KpM Ml Mf b c) : KpM Ml Mf a c := fun i o hi h1 h2 h3 => k i o (h i o hi h1 h2 h3) h1 h2 h3
theorem KpM.below (h : Below w.heap.size w w') : KpM Ml Mf w w' := fun k o hk _ _ _ => by rw [h.block k (some_lt hk)]; exact hk
theorem KpM.turned (hg : w.grownBy w' (some Ml)) : KpM Ml Mf w w' := fun k o hk _ h1 _ => by rw [hg.block k (some_lt hk) (fun e => h1 (by injection e))]; exact hk
theorem KpM.row (h : StAt lo w S Ml Mf v s) (hg : w.grownBy w' v.ownBlock) : KpM Ml Mf w (w'.setCell ⟨S, 3, none⟩ v1) := fun k o hk hc _ _ => by
  have e1 : k ≠ S := fun e => by subst e; rw [h.blk] at hk; injection hk with hk; subst hk; cases hc
  rw [Below.heap_setCell _ _ _ _ e1, hg.block k (some_lt hk) (fun e => by obtain ⟨-, cur, hcc⟩ := h.row e.symm; rw [hcc] at hk; injection hk with hk; subst hk; cases hc)]
  exact hk
theorem addA_next {a L : List En} {k : Nat} (h : k < L.length) : addA a (L.take (k + 1)) = setE (addA a (L.take k)) L[k] := by
  unfold addA
  rw [List.take_succ_eq_append_getElem h, List.foldl_append]; rfl
theorem addA_len : ∀ (t a : List En), Ris a → (addA a t).length ≤ a.length + t.length
  | [], a, _ => by simp [addA]
  | x :: t, a, h => by
    have h1 := addA_len t (setE a x) (setE_ris h)
    have h2 := setE_len h x
    show (addA (setE a x) t).length ≤ _
    have h3 : (setE a x).length ≤ a.length + 1 := by rw [h2]; split <;> omega
    simp only [List.length_cons]
    omega

set_option maxRecDepth 100000 in
set_option maxHeartbeats 2000000 in
theorem add_any (h : StAt lo w S Ml Mf v s) (hr : Ris s.all) (hl : s.all.length ≤ 500000000) (hn : s.tabs.length ≤ 100000) (la : Option Addr) (c : Nat) (L : List En) (hC : CsAt w la (ecells L)) (hy : LyAt w la 40) (hE : entsE L = 0)
    (t : Tab) (ht : TabOk w t) (hty : LyAt w t.1 5) (htb : t.2.2 = buildB L) :
    Calls Tryz.prog 40 #[.pointer (some ⟨S, 0, none⟩), .slice la L.length c, tabV t] w fun e w' => e = .returned (.tuple #[]) ∧ (∃ v', StAt lo w' S Ml Mf v' ⟨s.lim, addA s.all L, s.fr, s.tabs ++ [L]⟩) ∧ FrS lo w w' ∧ KpM Ml Mf w w' := by
  obtain ⟨hL4, hLf, hLr⟩ := ents_zero hE
  obtain ⟨i0, hi, hz0, hz1, hz2⟩ := info_parts infoBs
  have HK := Lib.hid (fun (u : World) (f : FrS lo w u) => hC.block hy (f.cells (by decide) (by decide)))
  have HT := Lib.hid (fun (u : World) (f : FrS lo w u) => (⟨ht.block hty (f.cells (by decide) (by decide)), hty.block (f.cells (by decide) (by decide))⟩ : TabOk u t ∧ LyAt u t.1 5))
  have HS := Lib.hid h
  have HF := Lib.hid hLf
  have HE := Lib.hid hE
  have htb' := Lib.hid htb
  have HR := Lib.hid hr
  obtain ⟨tp, tc, tl⟩ := t
  simp only [tabV]
  obtain ⟨A0, cap0, hv⟩ := h.tabs.len
  subst hv
  clear hC hy ht hty h hLf hLr hE htb hr
  go_enter Tryz.func40, Tryz.ntmps40
  go_wp2_with fail
  go_loopw [10] (fun i wr => ∃ k : Nat, k ≤ L.length ∧ i = .int .i64 k ∧ StAt lo wr S Ml Mf (.slice A0 s.tabs.length cap0) ⟨s.lim, addA s.all (L.take k), s.fr, s.tabs⟩ ∧ FrS lo w wr ∧ KpM Ml Mf w wr) (fun i _ => L.length - (intOf i).toNat)
  case atStart => exact ⟨0, by omega, rfl, HS.out, FrS.refl _ _, KpM.refl _ _ _⟩
  case round =>
    obtain ⟨k, hk, rfl, hst, fst, kst⟩ := hrel
    by_cases hlt : k < L.length
    · obtain ⟨b, o, rfl, c0, c1, c2⟩ := ens_at (HK.out wr fst) k hlt
      obtain ⟨d0, d1, d2, d3⟩ := hst.cell
      have hkz := (en_len (HF.out _ (List.getElem_mem hlt)).1).2.1
      have hrk : Ris (addA s.all (L.take k)) := addA_ris HR.out
      have hlk := addA_len (L.take k) s.all HR.out
      have hnx := addA_next (a := s.all) hlt
      have hlt1 : (L.take k).length ≤ 400 := by simp; omega
      have lS := hst.lt.1
      generalize hq : L[k] = r at *
      obtain ⟨key, val, dead⟩ := r
      simp only at c0 c1 c2 hkz
      have bA : Below wr.heap.size wr (wr.alloc (.cells #[.string key, .string val, .bool dead] 40)) := (Below.refl _ _).alloc (Nat.le_refl _) _
      have hstA := hst.keep bA
      obtain ⟨w1, hrun, hl1, hg1⟩ := (show LastIs (wr.alloc (.cells #[.string key, .string val, .bool dead] 40)).drew Ml _ from hstA.last).put hrk (by simp only; omega) ⟨key, val, dead⟩ (by unfold maxLen; simp only; omega)
      simp only [enV] at hrun
      obtain ⟨hS1, hF1⟩ := (hstA.drewN 1).turnedL hg1 hl1
      have hFn : FrS lo w w1 := (fst.trans (FrS.below bA hst.loW)).trans (show FrS lo _ w1 from ⟨hF1.os, hF1.tape, hF1.output, hF1.size, hF1.low, hF1.kept⟩)
      have hKn : KpM Ml Mf w w1 := (kst.trans (KpM.below bA)).trans (show KpM Ml Mf _ w1 from fun k o hk h1 h2 h3 => KpM.turned (Mf := Mf) hg1 k o hk h1 h2 h3)
      have HKn := Lib.hid hKn
      have HS1 := Lib.hid hS1
      have HNx := Lib.hid hnx
      clear hst fst hstA hl1 hg1 hS1 hF1 d0 d2 d3 hnx hq bA hKn kst
      go_wp2_with fail
      go_region
      go_wp2_with fail
      go_roundw
      case rel => exact ⟨k + 1, by omega, by go_num, by rw [HNx.out]; exact HS1.out, hFn, HKn.out⟩
      case measure => simp [intOf]; omega
    · have e : L.take k = L := List.take_of_length_le (by omega)
      rw [e] at hst
      obtain ⟨htk, hty⟩ := HT.out wr fst
      obtain ⟨T, hrow, hTm, hTok⟩ := hst.tabs
      have hTl : T.length = s.tabs.length := by have := congrArg List.length hTm; simpa using this
      obtain ⟨d0, d1, d2, d3⟩ := hst.cell
      have hlo3 := hst.loW
      have lS := hst.lt.1
      rw [hTl] at hrow
      have HTl := Lib.hid hTl
      have HS3 := Lib.hid hst
      clear hTl hst d0 d1 d2 e
      go_wp2_with (at_builtin; refine Hid.out ?_)
      refine Lib.hid ?_
      refine wpList_append_own_at _ rfl _ _ 50 rfl lo 56 i0 (.slice none 0 0) 1 24 Tryz.underlying50 hi hz0 hz1 hz2 rfl (by decide) _ s.tabs.length (T.map tabV) rfl (hrow.alloc _) ⟨wr.heap.size, 0, none⟩ 1 1 [.slice tp tl.length tc] rfl rfl (cell_one_new _ _ _) (by intro u hu; simp at hu; subst hu; rfl) (by unfold maxLen; omega) (by omega) (by simp; omega) ?_
      intro v4 w4 own4 gr4 a0 a1
      clear a0 a1
      have bA : Below wr.heap.size wr (wr.alloc (.cells #[.slice tp tl.length tc] 56)) := (Below.refl _ wr).alloc (Nat.le_refl _) _
      have hS3a := HS3.out.keep bA
      obtain ⟨hN, hF⟩ := hS3a.newRow (T := T ++ [(tp, tc, tl)]) (ts := s.tabs ++ [L]) gr4 (by rw [List.map_append, List.length_append, HTl.out]; exact own4) (by rw [List.map_append, List.map_append, hTm]; simp; exact htb'.out) (fun t ht => by
        rcases List.mem_append.1 ht with h1 | h1
        · exact ⟨(hTok t h1).1.keep bA, (hTok t h1).2.below bA⟩
        · simp at h1; subst h1; exact ⟨htk.keep bA, hty.below bA⟩)
      have HKr := Lib.hid ((kst.trans (KpM.below bA)).trans (KpM.row (v1 := v4) hS3a gr4))
      have hFin : FrS lo w _ := (fst.trans (FrS.below bA hlo3)).trans hF
      have c4S : w4.heap[S]? = some (.cells #[.int .i64 s.lim, .map (some Ml), .map (some Mf), .slice A0 s.tabs.length cap0] 66 (0, 0)) := by
        rw [gr4.block S (some_lt hS3a.blk) (fun e => by obtain ⟨-, cur, hc⟩ := hS3a.row e.symm; rw [hS3a.blk] at hc; injection hc with hc; injection hc with _ hc; revert hc; decide)]; exact hS3a.blk
      have f4 : w4.frozen? ⟨S, 3, none⟩ = false := by simp [World.frozen?, c4S]
      have g4 : w4.cell? ⟨S, 3, none⟩ = some (.slice A0 s.tabs.length cap0) := by simp [World.cell?, c4S]
      obtain ⟨A4, cap4, rfl⟩ := row_slice own4
      have HN := Lib.hid hN
      clear own4 gr4 hS3a hN hF c4S hrow hTm hTok d3 htk hty kst
      go_wp2_with fail
      go_end0
      exact ⟨rfl, ⟨_, HN.out⟩, hFin, HKr.out⟩
end
end Go.Proofs.YtckjcjoheeobgaaGreatDoor
