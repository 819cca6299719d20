/- Seal, takeSealed, Commit. -/
import Derived.Test.YtaicaeokljdjdaaDoorXb
namespace Go.Proofs.YtaicaeokljdjdaaDoor
open Go.ChangeShapes Go.WideShapes Go.RowKit
set_option linter.unusedVariables false
section
variable {w : World} {B : Nat} {F : Nat → Prop} {s : Sk Rg}
theorem seal_rng (B : Nat) (id : Int) (hi : id < 1) (w : World) : Calls Tryd.prog 7 #[.pointer (some ⟨B, 0, none⟩), .int .i64 id] w fun e w' => e = .returned (erV 1) ∧ w = w' := by
  go_enter Tryd.func7, Tryd.ntmps7
  go_wp2
  go_ret
  exact ⟨rfl, rfl⟩
theorem seal_ord (h : SkAt w B F s) (id : Int) (h1 : 1 ≤ id) (h2 : id ≤ s.la) : Calls Tryd.prog 7 #[.pointer (some ⟨B, 0, none⟩), .int .i64 id] w fun e w' => e = .returned (erV 5) ∧ w = w' := by
  obtain ⟨vw, vs, vo, tv, h⟩ := h
  have c3 := h.c3
  have q1 : ¬ id < 1 := by omega
  generalize s.la = la at *
  clear h
  go_enter Tryd.func7, Tryd.ntmps7
  go_wp2
  go_ret
  exact ⟨rfl, rfl⟩
/-- The append of one transaction. -/
theorem app_tr {vw vs vo : Value} {tv : List (Int × Value)} (h : SkB w B F vw vs vo tv s) (hl : s.sl.length ≤ 1000000) (id : Int) :
    ∃ A c w1, (Builtin.append_ #[44, 44] 44 #[vs, .slice (some ⟨w.heap.size, 0, none⟩) 1 1]).run Tryd.prog ((w.alloc (.cells #[.int .i64 id, vo] 51)).drew) = .ok (.slice A (tv.length + 1) c) w1 ∧
      w1.heap[B]? = w.heap[B]? ∧ SkEnd F w B (sealS s id) (((w1.setCell ⟨B, 1, none⟩ (.slice A (tv.length + 1) c)).setCell ⟨B, 2, none⟩ (.slice none 0 0)).setCell ⟨B, 3, none⟩ (.int .i64 id)) := by
  obtain ⟨i0, hi, hz0, hz1, hz2⟩ := info_parts infoT
  have b2 : Below w.heap.size w ((w.alloc (.cells #[.int .i64 id, vo] 51)).drew) := ((Below.refl _ _).alloc (Nat.le_refl _) _).drew
  have h2 := h.keep b2
  have htl := fa_len h.tr
  obtain ⟨A0, c0, hvo, -, -⟩ := h.op.slice
  have h1 : ∀ u ∈ ([.int .i64 id, vo] : List Value), u.oneCell' = true := fun u hu => by
    simp at hu; rcases hu with rfl | rfl
    · rfl
    · rw [hvo]; rfl
  have hsrc : Src Tryd.prog 2 44 (.slice (some ⟨w.heap.size, 0, none⟩) 1 1) 1 [.int .i64 id, vo] ((w.alloc (.cells #[.int .i64 id, vo] 51)).drew) :=
    Src.ofSlice _ Tryd.underlying44 _ 1 1 [.int .i64 id, vo] rfl (World.news_of_block (B := w.heap.size) (cs := #[.int .i64 id, vo]) (t := 51) (fr := (0, 0)) (heap_alloc_new w _)) h1
  obtain ⟨A, c, w1, hrun, hown, hgr, hat⟩ := rw_append h2.sl 44 44 44 i0 _ 32 Tryd.underlying44 hi hz0 hz1 hz2 rfl _ 1 _ hsrc (by unfold maxLen; omega) (by omega)
  have hll : (tv ++ [(id, vo)]).length = tv.length + 1 := by simp
  rw [← tcells_snoc tv (id, vo), ← hll] at hown
  obtain ⟨h3, h4⟩ := h2.sealed id hgr hown (fun b hb => hat b (by rw [hll] at hb; exact hb))
  have hne : some B ≠ vs.ownBlock := fun e => h2.farS e.symm rfl
  rw [hll] at h3 h4
  refine ⟨A, c, w1, hrun, (hgr.block B h2.ltB hne).trans (b2.block B h.ltB), _, ⟨_, _, _, _, h3⟩, (Frm.below (F := F) b2).trans h4 (fun i hi => .inl hi), ?_⟩
  rintro k (hk | hk)
  · exact .inl hk
  · exact .inr (Nat.le_trans b2.size hk.1)
set_option maxRecDepth 100000 in
set_option maxHeartbeats 1000000 in
theorem seal_ok (h : SkAt w B F s) (hl : s.sl.length ≤ 1000000) (id : Int) (h1 : 1 ≤ id) (h2 : s.la < id) :
    Calls Tryd.prog 7 #[.pointer (some ⟨B, 0, none⟩), .int .i64 id] w fun e w' => e = .returned .nilIface ∧ SkEnd F w B (sealS s id) w' := by
  obtain ⟨vw, vs, vo, tv, h⟩ := h
  obtain ⟨A1, c1, w1, hrun, hB, hE⟩ := app_tr h hl id
  obtain ⟨A0, c0, rfl, -, -⟩ := h.op.slice
  obtain ⟨A2, c2, rfl, -, -⟩ := h.sl.slice
  obtain ⟨A3, c3, rfl, -, -⟩ := h.wr.slice
  have d1 := h.c1
  have d2 := h.c2
  have d3 := h.c3
  have hw1 := hB.trans h.blk
  have e1 : w1.cell? ⟨B, 1, none⟩ = some (.slice A2 tv.length c2) := by simp [World.cell?, hw1]
  have e2 : w1.cell? ⟨B, 2, none⟩ = some (.slice A0 s.op.length c0) := by simp [World.cell?, hw1]
  have e3 : w1.cell? ⟨B, 3, none⟩ = some (.int .i64 s.la) := by simp [World.cell?, hw1]
  have ef : ∀ o, w1.frozen? ⟨B, o, none⟩ = false := fun o => by simp [World.frozen?, hw1]
  have f1 := ef 1
  have f2 := ef 2
  have f3 := ef 3
  have q1 : ¬ id < 1 := by omega
  have q2 : ¬ id ≤ s.la := by omega
  have hBl := h.ltB
  have HR := Lib.hid hrun
  have HE := Lib.hid hE
  generalize sealS s id = s' at *
  generalize s.la = la at *
  generalize s.op.length = n0 at *
  generalize tv.length = n at *
  clear h hl hrun hE ef hB hw1
  go_enter Tryd.func7, Tryd.ntmps7
  go_wp2_with fail
  go_region_law (refine step_append_run (by rfl) _ _ _ (by rfl) _ _ _ _ (by rfl) (by rfl) (by exact HR.out) ?_)
  all_goals
    go_wp2_with fail
    go_ret
    exact ⟨rfl, HE.out⟩
theorem commit_rng (B : Nat) (id : Int) (hi : id < 1) (w : World) : Calls Tryd.prog 8 #[.pointer (some ⟨B, 0, none⟩), .int .i64 id] w fun e w' => e = .returned (.tuple #[.int .i64 0, erV 1]) ∧ w = w' := by
  go_enter Tryd.func8, Tryd.ntmps8
  go_wp2
  exact bodyPost_ret (v := .tuple #[.int .i64 0, erV 1]) (by simp [results, Tryd.results8, go_sem]) rfl ⟨rfl, rfl⟩
set_option maxRecDepth 100000 in
set_option maxHeartbeats 1000000 in
theorem take_any {vw vs vo : Value} {t0 : Int × Value} {tv : List (Int × Value)} {p0 : Int × List Rg} {sl' : List (Int × List Rg)} (h : SkB w B F vw vs vo (t0 :: tv) s) (hs : s.sl = p0 :: sl') :
    Calls Tryd.prog 16 #[.pointer (some ⟨B, 0, none⟩)] w fun e w' => e = .returned t0.2 ∧ ∃ vs', SkB w' B F vw vs' vo tv { s with sl := sl' } ∧ Frm F w w' ∧ RcAt w' t0.2 p0.2 ∧ (∀ v ∈ vw :: vo :: tv.map Prod.snd, NeB t0.2 v) ∧ (∀ b, t0.2.ownBlock = some b → F b ∧ b ≠ B) := by
  obtain ⟨g, o, c, rfl, hle, hgB, e0, e1, ef, hT⟩ := h.taken hs
  have hT2 := Lib.hid (hT (.int .i64 0) (.slice none 0 0))
  have d1 := h.c1
  have fB := h.fz 1
  have hBl := h.ltB
  have hgl := cell_lt e0
  have f0 := ef o
  have f1 := ef (o + 1)
  obtain ⟨i0, v0⟩ := t0
  obtain ⟨A0, c0, hv, -, -⟩ : ∃ A c, v0 = Value.slice A p0.2.length c ∧ p0.2.length ≤ c ∧ c ≤ maxLen := by
    have htr := h.tr
    rw [hs] at htr
    cases htr with
    | cons h1 _ => exact h1.2.slice
  subst hv
  simp only at e0 e1 hT2 ⊢
  have q1 : (0 : Int) < ((tv.length + 1 : Nat) : Int) := by omega
  have q2 : (1 : Int) ≤ ((tv.length + 1 : Nat) : Int) := by omega
  have q3 : ((tv.length + 1 : Nat) : Int) ≤ (c : Int) := by omega
  have q4 : (1 : Int) ≤ (c : Int) := by omega
  clear h hT ef hs
  generalize p0.2.length = m at *
  generalize hn : tv.length = n at *
  by_cases hc1 : c = 1
  · obtain rfl : n = 0 := by omega
    subst hc1
    rw [if_pos rfl] at hT2
    go_enter Tryd.func16, Tryd.ntmps16
    go_wp2_with fail
    go_ret
    exact ⟨rfl, _, hT2.out⟩
  · rw [if_neg hc1] at hT2
    go_enter Tryd.func16, Tryd.ntmps16
    go_wp2_with fail
    go_ret
    exact ⟨rfl, _, hT2.out⟩
end
theorem wpList_append_run {P : Program} {ops : Array Oper} {rest : List Oper} {o : Oper} {a : Act} {w : World} {Q : Exit → Act → World → Prop} (hg : o.guard = none) (s x : Operand) (t : TypeId)
    (hop : o.op = .call { callee := .builtin .append, args := #[s, x], argTypes := #[t, t] }) (v1 v2 r : Value) (w' : World) (hs : a.eval s = v1) (hx : a.eval x = v2) (hrun : (Builtin.append_ #[t, t] o.type #[v1, v2]).run P w = .ok r w') (h : wpList P ops Q rest (a.put o.dst r) w') :
    wpList P ops Q (o :: rest) a w :=
  wpList_plain hg fun _ hK => by
    unfold Oper.wp execOp
    simp only [hop, resolve, invoke, builtin, Sem.run_bind, Sem.run_pure, Result.andThen_ok, List.map_toArray, List.map_cons, List.map_nil, hs, hx, hrun]
    exact hK _ _ h
section
variable {w : World} {B : Nat} {F : Nat → Prop} {s : Sk Rg}
/-- What was taken is written. -/
theorem app_wr {vw vs vo v0 : Value} {tv : List (Int × Value)} {l0 : List Rg} (h : SkB w B F vw vs vo tv s) (h0 : RcAt w v0 l0) (hl : s.wr.length + l0.length ≤ 1000000) :
    ∃ A c w1, (Builtin.append_ #[25, 25] 25 #[vw, v0]).run Tryd.prog w = .ok (.slice A (s.wr.length + l0.length) c) w1 ∧
      w1.heap[B]? = w.heap[B]? ∧ SkEnd F w B { s with wr := s.wr ++ l0 } (w1.setCell ⟨B, 0, none⟩ (.slice A (s.wr.length + l0.length) c)) := by
  obtain ⟨i0, hi, hz0, hz1, hz2⟩ := info_parts infoR
  obtain ⟨A, c, w1, hrun, hown, hgr, hat⟩ := rw_append h.wr 25 25 25 i0 _ 32 Tryd.underlying25 hi hz0 hz1 hz2 rfl _ l0.length _ (h0.src Tryd.underlying25 (rcells_one l0)) (by unfold maxLen; omega) (by omega)
  have hll : (s.wr ++ l0).length = s.wr.length + l0.length := by simp
  rw [← rcells_append, ← hll] at hown
  obtain ⟨h3, h4⟩ := h.setWr hgr hown (fun b hb => hat b (by rw [hll] at hb; exact hb))
  have hne : some B ≠ vw.ownBlock := fun e => (h.far (v := vw) (by simp) e.symm).1 rfl
  rw [hll] at h3 h4
  refine ⟨A, c, w1, hrun, hgr.block B h.ltB hne, _, ⟨_, _, _, _, h3⟩, h4, ?_⟩
  rintro k (hk | hk)
  · exact .inl hk
  · exact .inr hk.1
def slN (w : World) (B : Nat) : Nat := match w.cell? ⟨B, 1, none⟩ with
  | some (.slice _ n _) => n
  | _ => 0
theorem SkAt.slN (h : SkAt w B F s) : slN w B = s.sl.length := by
  obtain ⟨vw, vs, vo, tv, h⟩ := h
  have d1 := h.c1
  obtain ⟨A, c, rfl, -, -⟩ := h.sl.slice
  unfold Go.Proofs.YtaicaeokljdjdaaDoor.slN
  rw [d1]
  exact fa_len h.tr
theorem SkEnd.trans {F' : Nat → Prop} {u w' : World} {s' : Sk Rg} (h1 : Frm F w u) (hF : ∀ k, F' k → F k ∨ w.heap.size ≤ k) (h2 : SkEnd F' u B s' w') : SkEnd F w B s' w' := by
  obtain ⟨F2, a, b, c⟩ := h2
  refine ⟨F2, a, h1.trans b hF, fun k hk => ?_⟩
  rcases c k hk with h | h
  · exact hF k h
  · exact .inr (Nat.le_trans h1.size h)
set_option maxRecDepth 100000 in
set_option maxHeartbeats 1000000 in
theorem commit_ok (h : SkAt w B F s) (hl : totS s ≤ 1000000) (id : Int) (h1 : 1 ≤ id) :
    Calls Tryd.prog 8 #[.pointer (some ⟨B, 0, none⟩), .int .i64 id] w fun e w' => e = .returned (.tuple #[.int .i64 ((comm id s.sl).1.length : Nat), .nilIface]) ∧ SkEnd F w B (commS s id) w' := by
  have q1 : ¬ id < 1 := by omega
  have hS : totS s = s.wr.length + many s.sl + s.op.length := rfl
  have HS := Lib.hid (show commS s id = { s with wr := s.wr ++ (comm id s.sl).1, sl := (comm id s.sl).2 } from rfl)
  generalize commS s id = sE at *
  obtain ⟨dn, hdn⟩ : ∃ dn, dn = (comm id s.sl).1.length := ⟨_, rfl⟩
  rw [← hdn]
  have HD := Lib.hid hdn
  have H0 := Lib.hid h
  clear hdn h
  go_enter Tryd.func8, Tryd.ntmps8
  go_wp2_with fail
  go_loopw [6] (fun m wr => ∃ (done : List Rg) (rest : List (Int × List Rg)), m = .int .i64 (done.length : Nat) ∧ comm id s.sl = (done ++ (comm id rest).1, (comm id rest).2) ∧ done.length + many rest = many s.sl ∧ SkEnd F w B { s with wr := s.wr ++ done, sl := rest } wr) (fun _ wr => slN wr B)
  case atStart => exact ⟨[], s.sl, rfl, rfl, by simp, F, by simpa using H0.out, Frm.refl _ _, fun k hk => .inl hk⟩
  case round =>
    obtain ⟨done, rest, rfl, hcm, hmn, F', hAt, hFr, hFF⟩ := hrel
    have hsln := hAt.slN
    match rest, hcm, hmn, hAt, hsln with
    | [], hcm, hmn, hAt, hsln =>
      have hX := Lib.hid (show SkEnd F w B sE wr from by
        rw [HS.out, hcm]; exact ⟨F', by simpa [comm] using hAt, hFr, hFF⟩)
      have hY : dn = done.length := by rw [HD.out, hcm]; simp [comm]
      obtain ⟨vw, vs, vo, tv, h⟩ := hAt
      have d1 := h.c1
      have htl := fa_len h.tr
      obtain ⟨A, c, rfl, -, -⟩ := h.sl.slice
      simp only [List.length_nil] at htl
      rw [htl] at d1
      clear h HS HD H0 hFr hFF hcm hmn hS hl
      go_wp2_with fail
      exact bodyPost_ret (v := .tuple #[.int .i64 (done.length : Nat), .nilIface]) (by simp [results, Tryd.results8, go_sem]) rfl ⟨by first | rfl | rw [hY], hX.out⟩
    | p0 :: rest, hcm, hmn, hAt, hsln =>
      obtain ⟨vw, vs, vo, tv, h⟩ := hAt
      have htr := h.tr
      match tv, htr, h with
      | t0 :: tv, htr, h =>
      have hid : t0.1 = p0.1 := by cases htr with | cons h1 _ => exact h1.1
      obtain ⟨g, o, c, hvs, hle, hgB, e0, e1, ef, -⟩ := h.taken (s := { s with wr := s.wr ++ done, sl := p0 :: rest }) rfl
      have d1 := h.c1
      rw [hvs] at d1
      rw [hid] at e0
      have r1 : (0 : Int) < ((tv.length + 1 : Nat) : Int) := by omega
      by_cases hlt : p0.1 ≤ id
      · have HT := take_any h (s := { s with wr := s.wr ++ done, sl := p0 :: rest }) rfl
        have hcc : comm id (p0 :: rest) = (p0.2 ++ (comm id rest).1, (comm id rest).2) := by rw [comm, if_pos hlt]
        rw [hcc] at hcm
        rw [many] at hmn
        have hb : (s.wr ++ done).length + p0.2.length ≤ 1000000 := by rw [List.length_append]; omega
        obtain ⟨A0, c0, hv0, -, -⟩ : ∃ A c, t0.2 = Value.slice A p0.2.length c ∧ p0.2.length ≤ c ∧ c ≤ maxLen := by
          cases htr with | cons h1 _ => exact h1.2.slice
        rw [hv0] at HT
        have HW := Lib.hid (fun (u : World) (vs' : Value) (hu : SkB u B F' vw vs' vo tv { s with wr := s.wr ++ done, sl := rest }) (h0 : RcAt u (.slice A0 p0.2.length c0) p0.2) => app_wr hu h0 hb)
        obtain ⟨A3, c3, hvw, -, -⟩ := h.wr.slice
        have HN := Lib.hid (show comm id s.sl = ((done ++ p0.2) ++ (comm id rest).1, (comm id rest).2) ∧ (done ++ p0.2).length + many rest = many s.sl from ⟨by rw [hcm, List.append_assoc], by rw [List.length_append]; omega⟩)
        have HF := Lib.hid (And.intro hFr hFF)
        have hdl : (done ++ p0.2).length = done.length + p0.2.length := List.length_append
        have hbd : done.length + p0.2.length ≤ 1000000 := by rw [List.length_append] at hb; omega
        rw [List.length_append] at hvw
        clear h hcm hmn hcc hS hl HS HD H0 hFr hFF htr hsln e1 ef hb
        go_wp2_with (go_at_call 16; refine HT.mono ?_; rintro e u ⟨rfl, vs', hu, huF, hu0, -, -⟩; refine Hid.out ?_)
        refine Lib.hid ?_
        obtain ⟨A4, c4, w4, hrun, hw4, hE⟩ := HW.out u vs' hu hu0
        have x0 := hu.c0
        have hub := hu.blk
        have hBu := hu.ltB
        have y0 : w4.cell? ⟨B, 0, none⟩ = some vw := by rw [← x0]; simp only [World.cell?, hw4]
        have yf : w4.frozen? ⟨B, 0, none⟩ = false := by rw [← hu.fz 0]; simp only [World.frozen?, hw4]
        simp only [List.length_append] at hrun hE
        have HR := Lib.hid hrun
        have HE := Lib.hid (show SkEnd F w B { s with wr := s.wr ++ (done ++ p0.2), sl := rest } (w4.setCell ⟨B, 0, none⟩ (.slice A4 (s.wr.length + done.length + p0.2.length) c4)) from by
          have := SkEnd.trans (HF.out.1.trans huF HF.out.2) HF.out.2 hE
          rw [← List.append_assoc]; exact this)
        have HM := Lib.hid (show slN (w4.setCell ⟨B, 0, none⟩ (.slice A4 (s.wr.length + done.length + p0.2.length) c4)) B < slN wr B from by
          obtain ⟨F2, a, -, -⟩ := HE.out
          rw [a.slN]
          have : slN wr B = rest.length + 1 := by
            unfold slN; rw [d1]
            have h9 : tv.length = rest.length := fa_len hu.tr
            show tv.length + 1 = rest.length + 1
            omega
          rw [this]; simp)
        clear HW HT hrun hE hw4 hu huF hu0 HF hub d1 e0
        subst hvw
        generalize p0.2.length = n0 at *
        generalize s.wr.length = n1 at *
        generalize done.length = n2 at *
        go_wp2_with (at_builtin; refine wpList_append_run (by rfl) _ _ _ (by rfl) _ _ _ _ (by rfl) (by rfl) (by exact HR.out) ?_)
        exact ⟨⟨done ++ p0.2, rest, by rw [hdl, Int.natCast_add], HN.out.1, HN.out.2, HE.out⟩, HM.out⟩
      · have hcc : comm id (p0 :: rest) = ([], p0 :: rest) := by rw [comm, if_neg hlt]
        have hX := Lib.hid (show SkEnd F w B sE wr from by
          rw [HS.out, hcm, hcc]; exact ⟨F', by rw [List.append_nil]; exact ⟨_, _, _, _, h⟩, hFr, hFF⟩)
        have hY : dn = done.length := by rw [HD.out, hcm, hcc]; simp
        clear h HS HD H0 hFr hFF hcm hmn hS hl hcc htr e1 ef
        go_wp2_with fail
        exact bodyPost_ret (v := .tuple #[.int .i64 (done.length : Nat), .nilIface]) (by simp [results, Tryd.results8, go_sem]) rfl ⟨by first | rfl | rw [hY], hX.out⟩
end
end Go.Proofs.YtaicaeokljdjdaaDoor
