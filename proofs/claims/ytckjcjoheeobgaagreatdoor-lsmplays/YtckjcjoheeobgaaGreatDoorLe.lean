/- What a store turns: its maps, its row of tables; Flush. -/
import Derived.Test.YtckjcjoheeobgaaGreatDoorLd
import Derived.Maps.AppendAt
namespace Go.Proofs.YtckjcjoheeobgaaGreatDoor
open Go.RowKit
open Go.Maps (string_keyed)
open Go.ChangeMaps (setBlock heap_setBlock_same heap_setBlock_other)
open Go.Shelf Go.Sort
set_option linter.unusedVariables false

theorem own_clear {H : Type} {P : Program} {k e t : TypeId} {R : Value → Option (DataW H × List MemPlace)} {w : World} {b n : Nat} {D : DataW H} (h : w.ownsMap P k R b n D) (ht : P.underlying t = some (.map k e)) (ty : TypeId) :
    ∃ w', (Builtin.clear_ #[t] ty #[.map (some b)]).run P w = .ok (.tuple #[]) w' ∧ w'.ownsMap P k R b 0 (.map []) ∧ w.grownBy w' (some b) := by
  obtain ⟨es, clock, hb, F, hs, rfl⟩ := h
  refine ⟨setBlock w b (.map #[] clock), ?_, ⟨#[], clock, heap_setBlock_same hb _, ⟨by simp, MapKept.stamped_empty _, by simp⟩, Nat.le_refl _, rfl⟩, ⟨rfl, rfl, rfl, by simp [setBlock], fun i _ hi => heap_setBlock_other hb _ (fun e => hi (by rw [e]))⟩⟩
  simp [Builtin.clear_, run_underlying ht, MapKept.run_getObj_map hb, MapKept.run_setObj_map _ hb, Result.andThen, setBlock]
theorem wpList_clear {P : Program} (w : World) {ops : Array Oper} {rest : List Oper} {o : Oper} {a : Act} {Q : Exit → Act → World → Prop} (hg : o.guard = none) (m : Operand) (t : TypeId)
    (hop : o.op = Op.call { callee := Callee.builtin Builtin.clear, args := #[m], argTypes := #[t] }) (x : Value) (hm : a.eval m = x) (w' : World) (hrun : (Builtin.clear_ #[t] o.type #[x]).run P w = .ok (.tuple #[]) w')
    (hK : wpList P ops Q rest (a.put o.dst (.tuple #[])) w') : wpList P ops Q (o :: rest) a w := by
  refine wpList_plain hg fun K' hK' => ?_
  unfold Oper.wp
  simp [execOp, hop, resolve, invoke, builtin, hm, hrun, Result.andThen]
  exact hK' _ _ hK
theorem cell_one_new (w : World) (a : Value) (t : TypeId) : ∀ j u, [a][j]? = some u → (w.alloc (.cells #[a] t)).cell? ((⟨w.heap.size, 0, none⟩ : Addr).add j) = some u := by
  intro j u hj
  match j, hj with
  | 0, hj => simp at hj; subst hj; simp [Addr.add]
section
variable {lo : Nat} {w w' : World} {S Ml Mf : Nat} {v v1 : Value} {s : Sto}

/-- The map of the last entries turns. -/
theorem StAt.turnedL (h : StAt lo w S Ml Mf v s) (hg : w.grownBy w' (some Ml)) {all : List En} (hl : LastIs w' Ml all) : StAt lo w' S Ml Mf v ⟨s.lim, all, s.fr, s.tabs⟩ ∧ FrS lo w w' := by
  obtain ⟨l1, l2, l3⟩ := h.lt
  have hb : ∀ k, k < w.heap.size → k ≠ Ml → w'.heap[k]? = w.heap[k]? := fun k hk hn => hg.block k hk (fun e => hn (by injection e))
  obtain ⟨es, cl, hm⟩ := h.last.map
  refine ⟨⟨(hb S l1 h.neL).trans h.blk, hl, h.fresh.block (hb Mf l3 h.ne.symm), h.tabs.block (fun k cur e hc _ => hb k (some_lt hc) (fun e' => by subst e'; rw [hm] at hc; cases hc)), h.loS, h.loL, h.loF, h.ne⟩, ?_⟩
  refine FrS.of_fr (xs := [Ml]) ⟨hg.os, hg.tape, hg.output, hg.size, fun k hk hx => hb k hk (by simpa using hx)⟩ h.loW (fun k hk => ?_)
  simp at hk; subst hk; exact ⟨h.loL, h.turnL⟩
theorem StAt.turnedF (h : StAt lo w S Ml Mf v s) (hg : w.grownBy w' (some Mf)) {fr : List (List UInt8)} (hl : FrIs w' Mf fr) : StAt lo w' S Ml Mf v ⟨s.lim, s.all, fr, s.tabs⟩ ∧ FrS lo w w' := by
  obtain ⟨l1, l2, l3⟩ := h.lt
  have hb : ∀ k, k < w.heap.size → k ≠ Mf → w'.heap[k]? = w.heap[k]? := fun k hk hn => hg.block k hk (fun e => hn (by injection e))
  obtain ⟨es, cl, hm⟩ := h.fresh.map
  refine ⟨⟨(hb S l1 h.neF).trans h.blk, h.last.block (hb Ml l2 h.ne), hl, h.tabs.block (fun k cur e hc _ => hb k (some_lt hc) (fun e' => by subst e'; rw [hm] at hc; cases hc)), h.loS, h.loL, h.loF, h.ne⟩, ?_⟩
  refine FrS.of_fr (xs := [Mf]) ⟨hg.os, hg.tape, hg.output, hg.size, fun k hk hx => hb k hk (by simpa using hx)⟩ h.loW (fun k hk => ?_)
  simp at hk; subst hk; exact ⟨h.loF, h.turnF⟩
/-- Another row of tables. -/
theorem StAt.newRow (h : StAt lo w S Ml Mf v s) (hg : w.grownBy w' v.ownBlock) {T : List Tab} {ts : List (List En)} (ho : w'.ownsRow lo 56 1 v1 T.length (T.map tabV)) (hm : T.map (·.2.2) = ts.map buildB) (hT : ∀ t ∈ T, TabOk w t ∧ LyAt w t.1 5) :
    StAt lo (w'.setCell ⟨S, 3, none⟩ v1) S Ml Mf v1 ⟨s.lim, s.all, s.fr, ts⟩ ∧ FrS lo w (w'.setCell ⟨S, 3, none⟩ v1) := by
  obtain ⟨l1, l2, l3⟩ := h.lt
  have hb : ∀ (k : Nat) (o : Obj), w.heap[k]? = some o → (∀ cur, o ≠ .cells cur 56 (0, 0)) → w'.heap[k]? = some o := fun k o hk hn => by
    rw [hg.block k (some_lt hk) (fun e => by obtain ⟨-, cur, hc⟩ := h.row e.symm; rw [hc] at hk; injection hk with hk; exact hn cur hk.symm)]; exact hk
  obtain ⟨es, cl, hml⟩ := h.last.map
  obtain ⟨es', cl', hmf⟩ := h.fresh.map
  have bS : w'.heap[S]? = some (.cells #[.int .i64 s.lim, .map (some Ml), .map (some Mf), v] 66 (0, 0)) := hb S _ h.blk (fun cur e => by injection e with _ e; revert e; decide)
  have bL : (w'.setCell ⟨S, 3, none⟩ v1).heap[Ml]? = w.heap[Ml]? := (Below.heap_setCell _ _ _ _ h.neL.symm).trans ((hb Ml _ hml (fun cur e => by cases e)).trans hml.symm)
  have bF : (w'.setCell ⟨S, 3, none⟩ v1).heap[Mf]? = w.heap[Mf]? := (Below.heap_setCell _ _ _ _ h.neF.symm).trans ((hb Mf _ hmf (fun cur e => by cases e)).trans hmf.symm)
  have bU : ∀ (k : Nat) (cur : Array Value), w.heap[k]? = some (.cells cur 5 (0, 0)) → (w'.setCell ⟨S, 3, none⟩ v1).heap[k]? = w.heap[k]? := fun k cur hc => by
    have e1 : k ≠ S := fun e => by
      subst e; rw [h.blk] at hc; injection hc with hc; injection hc with _ hc; revert hc; decide
    rw [Below.heap_setCell _ _ _ _ e1, hc]
    exact hb k _ hc (fun c e => by injection e with _ e; revert e; decide)
  have ho2 : (w'.setCell ⟨S, 3, none⟩ v1).ownsRow lo 56 1 v1 T.length (T.map tabV) := own_row ho (fun k cur hc => Below.heap_setCell _ _ _ _ (fun e => by
    subst e; rw [bS] at hc; injection hc with hc; injection hc with _ hc; revert hc; decide))
  refine ⟨⟨by simp [World.setCell, Array.getElem?_modify, bS], h.last.block bL, h.fresh.block bF, ⟨T, ho2, hm, fun t ht => ⟨(hT t ht).1.block (hT t ht).2 bU, (hT t ht).2.block bU⟩⟩, h.loS, h.loL, h.loF, h.ne⟩, ?_⟩
  refine FrS.of_fr (xs := S :: v.ownBlock.toList) ⟨hg.os, hg.tape, hg.output, by simpa using hg.size, fun k hk hx => ?_⟩ h.loW (fun k hk => ?_)
  · simp only [List.mem_cons, not_or, Option.mem_toList] at hx
    rw [Below.heap_setCell _ _ _ _ hx.1]
    exact hg.block k hk (fun e => hx.2 e.symm)
  · simp only [List.mem_cons, Option.mem_toList] at hk
    rcases hk with rfl | hk
    · exact ⟨h.loS, h.turnS⟩
    · exact ⟨(h.row hk).1, h.turnR hk⟩
theorem FrIs.nil {w : World} {M : Nat} (h : w.ownsMap Tryz.prog 9 unitElem M 0 (.map [] : DataW Unit)) : FrIs w M [] := ⟨_, h, fun x => rfl⟩
theorem fr_map {w : World} {M : Nat} {fr : List (List UInt8)} (h : FrIs w M fr) (ty : TypeId) : ∃ w', (Builtin.clear_ #[64] ty #[.map (some M)]).run Tryz.prog w = .ok (.tuple #[]) w' ∧ FrIs w' M [] ∧ w.grownBy w' (some M) := by
  obtain ⟨D, h1, -⟩ := h
  obtain ⟨w', e1, e2, e3⟩ := own_clear h1 Tryz.underlying64 ty
  exact ⟨w', e1, FrIs.nil e2, e3⟩

set_option maxRecDepth 100000 in
set_option maxHeartbeats 2000000 in
theorem flush_any (h : StAt lo w S Ml Mf v s) (ok : SOk s) (hn : s.tabs.length ≤ 100000) :
    Calls Tryz.prog 11 #[.pointer (some ⟨S, 0, none⟩)] w fun e w' => e = .returned .nilIface ∧ (∃ v', StAt lo w' S Ml Mf v' (flushS s)) ∧ FrS lo w w' := by
  obtain ⟨c0, c1, c2, c3⟩ := h.cell
  have hl := h.fresh.len ok.nd w rfl
  by_cases hf : s.fr = []
  · have hfl : ((s.fr.length : Nat) : Int) = 0 := by rw [hf]; rfl
    have hS : flushS s = s := by unfold flushS; rw [if_pos hf]
    rw [hS]
    rw [hfl] at hl
    have HS := Lib.hid h
    clear h hf hS hfl
    go_enter Tryz.func11, Tryz.ntmps11
    go_wp2_with fail
    go_ret
    exact ⟨rfl, ⟨v, HS.out⟩, FrS.refl _ _⟩
  · have hfl : (((s.fr.length : Nat) : Int) == 0) = false := by
      have : s.fr.length ≠ 0 := fun e => hf (List.length_eq_zero_iff.1 e)
      simp; omega
    have hS : flushS s = ⟨s.lim, s.all, [], s.tabs ++ [frE s]⟩ := by unfold flushS; rw [if_neg hf]
    obtain ⟨i0, hi, hz0, hz1, hz2⟩ := info_parts infoBs
    have l1 := h.lt.1
    have hE := fr_ents ok (fun e => decide (kl e ∈ s.fr))
    have hok := ents_oks hE
    have B1 : Below w.heap.size w (w.alloc (.cells #[.map (some Mf)] 64)) := (Below.refl _ w).alloc (Nat.le_refl _) _
    have HSo := sortedF_any h.fresh ok
    have hfe : ∀ e ∈ frE s, atK s.all (kl e) = some e ∧ e.key.size ≤ 120 := fun e he => ok_at ok e (List.mem_filter.1 he).1
    have hfl4 : (frE s).length ≤ 400 := Nat.le_trans (List.length_filter_le _ _) ok.len
    have HE := entries_flush _ (h.keep B1) (frE s) hfe hfl4 _ _ HSo
    rw [List.filter_eq_self.2 (fun _ _ => rfl)] at HE
    have HEn := Lib.hid HE
    have HS := Lib.hid h
    rw [hS]
    change entsE (frE s) = 0 at hE
    change ∀ e ∈ frE s, OkEn e at hok
    have HTL := Lib.hid (h.tabs)
    have HFr := Lib.hid h.fresh
    obtain ⟨A0, cap0, hv⟩ := h.tabs.len
    subst hv
    clear h hf hS HSo HE hfe c0
    generalize frE s = R at *
    go_enter Tryz.func11, Tryz.ntmps11
    go_wp2_with (go_at_call 31; refine (keysF_any _ _).mono ?_; rintro e w1 ⟨rfl, rfl⟩; refine Hid.out ?_)
    refine Lib.hid ?_
    go_wp2_with (go_at_call 30; refine Hid.out ?_)
    refine Lib.hid ?_
    refine HEn.out.mono ?_
    rintro e w2 ⟨A2, cap2, rfl, hc2, b2⟩
    have HBd := Lib.hid (build_yt w2 A2 cap2 R hc2 (by omega) hok hE)
    go_wp2_with (go_at_call 29; refine Hid.out ?_)
    refine Lib.hid ?_
    refine HBd.out.mono ?_
    rintro e w3 ⟨A3, cap3, rfl, hz3, hy3, b3⟩
    have B3 : Below w.heap.size w w3 := (B1.trans (b2.mono (by simp))).trans (b3.mono (by have := b2.size; simp at this; omega))
    have hS3 := HS.out.keep B3
    obtain ⟨d0, d1, d2, d3⟩ := hS3.cell
    have hfz := hS3.fz 3
    obtain ⟨T, hrow, hTm, hTok⟩ := hS3.tabs
    have hTl : T.length = s.tabs.length := by have := congrArg List.length hTm; simpa using this
    have hlo3 := hS3.loW
    rw [hTl] at hrow
    have HTl := Lib.hid hTl
    clear hTl
    have HS3 := Lib.hid hS3
    clear hl hc2 b2 b3 hok HEn HBd hS3 d0 c1 c2 c3
    go_wp2_with (at_builtin; refine Hid.out ?_)
    refine Lib.hid ?_
    refine wpList_append_own_at _ rfl _ _ 50 rfl lo 56 i0 (.slice none 0 0) 1 24 Tryz.underlying50 hi hz0 hz1 hz2 rfl (by decide) _ s.tabs.length (T.map tabV) rfl (hrow.alloc _) ⟨w3.heap.size, 0, none⟩ 1 1 [.slice A3 (buildB R).length cap3] rfl rfl (cell_one_new _ _ _) (by intro u hu; simp at hu; subst hu; rfl) (by unfold maxLen; omega) (by omega) (by simp; omega) ?_
    intro v4 w4 own4 gr4 a0 a1
    clear a0 a1
    have hS3a := HS3.out.keep ((Below.refl _ w3).alloc (Nat.le_refl _) (.cells #[.slice A3 (buildB R).length cap3] 56))
    have bA : Below w3.heap.size w3 (w3.alloc (.cells #[.slice A3 (buildB R).length cap3] 56)) := (Below.refl _ w3).alloc (Nat.le_refl _) _
    have hnew := hS3a.newRow (T := T ++ [(A3, cap3, buildB R)]) (ts := s.tabs ++ [R]) gr4 (by rw [List.map_append, List.length_append, HTl.out]; exact own4) (by rw [List.map_append, List.map_append, hTm]; rfl) (fun t ht => by
      rcases List.mem_append.1 ht with h1 | h1
      · exact ⟨(hTok t h1).1.keep bA, (hTok t h1).2.below bA⟩
      · simp at h1; subst h1; exact ⟨(tab_ok hz3 hE).keep bA, hy3.below bA⟩)
    obtain ⟨hN, hF⟩ := hnew
    have e2 : (w4.setCell ⟨S, 3, none⟩ v4).cell? ⟨S, 2, none⟩ = some (.map (some Mf)) := hN.cell.2.2.1
    obtain ⟨w5, hrun, hf5, hg5⟩ := fr_map hN.fresh 0
    obtain ⟨hN5, hF5⟩ := hN.turnedF hg5 hf5
    have hFin : FrS lo w w5 := ((FrS.below B3 HS.out.loW).trans (FrS.below bA hlo3)).trans (hF.trans hF5)
    have c4S : w4.heap[S]? = some (.cells #[.int .i64 s.lim, .map (some Ml), .map (some Mf), .slice A0 s.tabs.length cap0] 66 (0, 0)) := by
      rw [gr4.block S (some_lt hS3a.blk) (fun e => by obtain ⟨-, cur, hc⟩ := hS3a.row e.symm; rw [hS3a.blk] at hc; injection hc with hc; injection hc with _ hc; revert hc; decide)]; exact hS3a.blk
    have f4 : w4.frozen? ⟨S, 3, none⟩ = false := by simp [World.frozen?, c4S]
    have g4 : w4.cell? ⟨S, 3, none⟩ = some (.slice A0 s.tabs.length cap0) := by simp [World.cell?, c4S]
    have g5 : w4.cell? ⟨S, 2, none⟩ = some (.map (some Mf)) := by simp [World.cell?, c4S]
    obtain ⟨A4, cap4, rfl⟩ := row_slice own4
    have HN5 := Lib.hid hN5
    clear own4 gr4 hS3a hN hF hF5 hg5 hf5 hN5 c4S d1 d2 d3 hrow hTm hTok hfz
    clear e2
    go_wp2_with fail
    go_ret
    exact ⟨rfl, ⟨_, HN5.out⟩, hFin⟩
end
end Go.Proofs.YtckjcjoheeobgaaGreatDoor
