/- Abort, Written, Sealed; lists that are the same. -/
import Derived.Test.YtaicaeokljdjdaaDoorXc
namespace Go.Proofs.YtaicaeokljdjdaaDoor
open Go.ChangeShapes Go.WideShapes Go.RowKit
set_option linter.unusedVariables false
section
variable {w : World} {B : Nat} {F : Nat → Prop} {s : Sk Rg}
theorem many_take {α : Type} : ∀ (l : List (Int × List α)) (i : Nat) (h : i < l.length), many (l.take (i + 1)) = many (l.take i) + l[i].2.length
  | [], i, h => by simp at h
  | t :: l, 0, _ => by simp [many]
  | t :: l, i + 1, h => by
    have := many_take l i (by simpa using h)
    simp only [List.take_succ_cons, many, List.getElem_cons_succ]; omega
theorem many_take_le {α : Type} : ∀ (l : List (Int × List α)) (i : Nat), many (l.take i) ≤ many l
  | [], i => by simp
  | t :: l, 0 => by simp [many]
  | t :: l, i + 1 => by
    have := many_take_le l i
    simp only [List.take_succ_cons, many]; omega
theorem fa_get {α β : Type} {R : α → β → Prop} : ∀ {a : List α} {b : List β}, Fa2 R a b → ∀ (i : Nat) (h : i < a.length) (h' : i < b.length), R a[i] b[i]
  | _, _, .nil, i, h, _ => by simp at h
  | _, _, .cons h1 _, 0, _, _ => h1
  | _, _, .cons _ t, i + 1, h, h' => fa_get t i (by simpa using h) (by simpa using h')
/-- A transaction, where it lies. -/
theorem SkB.tr_at {vw vs vo : Value} {tv : List (Int × Value)} (h : SkB w B F vw vs vo tv s) : ∃ A c, vs = .slice A s.sl.length c ∧ ∀ i (hi : i < s.sl.length), ∃ g o A' c', A = some ⟨g, o, none⟩ ∧ w.cell? ⟨g, o + i * 2, none⟩ = some (.int .i64 s.sl[i].1) ∧ w.cell? ⟨g, o + i * 2 + 1, none⟩ = some (.slice A' s.sl[i].2.length c') ∧ g < w.heap.size := by
  have htl := fa_len h.tr
  obtain ⟨A, c, rfl, -, -⟩ := h.sl.slice
  refine ⟨A, c, by rw [htl], fun i hi => ?_⟩
  have hi' : i < tv.length := by omega
  obtain ⟨a1, a2⟩ := tcells_at tv i hi'
  obtain ⟨b1, b2⟩ := fa_get h.tr i hi' hi
  obtain ⟨A', c', hv, -, -⟩ := b2.slice
  rcases h.sl.cells with h0 | ⟨g, o, rfl, hc⟩
  · have := tcells_len tv; rw [h0] at this; simp at this; omega
  · have c1 := hc _ _ a1
    have c2 := hc _ _ a2
    rw [b1] at c1
    rw [hv, ← Nat.add_assoc] at c2
    exact ⟨g, o, A', c', rfl, c1, c2, cell_lt c1⟩
set_option maxRecDepth 100000 in
set_option maxHeartbeats 1000000 in
theorem abort_any (h : SkAt w B F s) (hl : totS s ≤ 1000000) :
    Calls Tryd.prog 9 #[.pointer (some ⟨B, 0, none⟩)] w fun e w' => e = .returned (.int .i64 ((s.op.length + many s.sl : Nat) : Nat)) ∧ SkEnd F w B (abortS s) w' := by
  obtain ⟨vw, vs, vo, tv, h⟩ := h
  have d1 := h.c1
  have d2 := h.c2
  obtain ⟨A, c, rfl, hT⟩ := h.tr_at
  have hsm : s.sl.length ≤ 9223372036854775807 := by
    obtain ⟨A', c', e1, e2, e3⟩ := h.sl.slice
    have := fa_len h.tr
    unfold maxLen at e3; omega
  obtain ⟨A0, c0, rfl, -, -⟩ := h.op.slice
  have hS : totS s = s.wr.length + many s.sl + s.op.length := rfl
  have HT := Lib.hid hT
  have HM := Lib.hid (And.intro (many_take s.sl) (many_take_le s.sl))
  have HH := Lib.hid (fun (u : World) (hb : Below w.heap.size w u) => (show SkB u B F vw (.slice A s.sl.length c) (.slice A0 s.op.length c0) tv s from h.keep hb))
  have hBl := h.ltB
  generalize hsl : s.sl = sl at *
  generalize hna : s.op.length = na at *
  have HX := Lib.hid (And.intro hsl hna)
  obtain ⟨ma, hma⟩ : ∃ ma, ma = many sl := ⟨_, rfl⟩
  rw [← hma] at hS
  rw [← hma]
  have HMA := Lib.hid hma
  clear h hT hma hsl hna
  go_enter Tryd.func9, Tryd.ntmps9
  go_wp2_with fail
  go_loopw [3, 16] (fun m i wr => ∃ k : Nat, k ≤ sl.length ∧ i = .int .i64 k ∧ m = .int .i64 ((na + many (sl.take k) : Nat) : Nat) ∧ Below w.heap.size w wr) (fun _ i _ => sl.length - (intOf i).toNat)
  case atStart => exact ⟨0, by omega, rfl, by simp [many], Below.refl _ _⟩
  case round =>
    obtain ⟨k, hk, rfl, rfl, hb⟩ := hrel
    by_cases hlt : k < sl.length
    · obtain ⟨g, o, A', c', rfl, e0, e1, hg⟩ := HT.out k hlt
      have e0' : wr.cell? ⟨g, o + k * 2, none⟩ = some (.int .i64 sl[k].1) := by rw [hb.cell (p := ⟨g, o + k * 2, none⟩) hg]; exact e0
      have e1' : wr.cell? ⟨g, o + k * 2 + 1, none⟩ = some (.slice A' sl[k].2.length c') := by rw [hb.cell (p := ⟨g, o + k * 2 + 1, none⟩) hg]; exact e1
      have hm := HM.out.1 k hlt
      have hm2 := HM.out.2 (k + 1)
      have hbs := hb.size
      have hm3 : many sl = ma := HMA.out.symm
      have hb1 : Below w.heap.size w (wr.alloc (.cells #[.int .i64 sl[k].1, .slice A' sl[k].2.length c'] 51)) := hb.alloc hbs _
      have hki : (k : Int) < (sl.length : Int) := by omega
      generalize hm1 : many (sl.take (k + 1)) = m1 at *
      have HM1 := Lib.hid hm1
      clear hm1
      generalize many (sl.take k) = m0 at *
      generalize sl[k].2.length = n0 at *
      generalize sl[k].1 = i0 at *
      rw [hm3] at hm2
      clear hm3 e0 e1 HMA HX HH HM HT d1 d2
      go_wp2_with fail
      exact ⟨⟨k + 1, by omega, by go_num, by rw [HM1.out, hm, ← Nat.add_assoc, Int.natCast_add, Int.natCast_add], hb1⟩, by simp [intOf]; omega⟩
    · have hk' : k = sl.length := by omega
      have hki : ¬ (k : Int) < (sl.length : Int) := by omega
      have hm : many (sl.take k) = ma := by rw [hk', List.take_length, HMA.out]
      rw [hm]
      have h9 := HH.out wr hb
      have x1 := h9.c1
      have x2 := h9.c2
      have f1 := h9.fz 1
      have f2 := h9.fz 2
      have hBw := h9.ltB
      have HE := Lib.hid (show SkEnd F w B (abortS s) ((wr.setCell ⟨B, 2, none⟩ (.slice none 0 0)).setCell ⟨B, 1, none⟩ (.slice none 0 0)) from ⟨F, ⟨_, _, _, _, h9.aborted.1⟩, (Frm.below (F := F) hb).trans h9.aborted.2 (fun i hi => .inl hi), fun k hk => .inl hk⟩)
      clear h9 HMA HX HH HM HT hk' hm
      go_wp2_with fail
      go_ret
      exact ⟨rfl, HE.out⟩
set_option maxRecDepth 100000 in
set_option maxHeartbeats 1000000 in
theorem cloneR_any {v : Value} {l : List Rg} (h : RcAt w v l) (hl : l.length ≤ 1000000) : Calls Tryd.prog 17 #[v] w fun e w' => ∃ A c, e = .returned (.slice A l.length c) ∧ RcAt w' (.slice A l.length c) l ∧ (∀ b, Value.ownBlock (.slice A l.length c) = some b → w.heap.size ≤ b) ∧ Below w.heap.size w w' := by
  obtain ⟨A0, c0, rfl, -, -⟩ := h.slice
  have q22 : ∀ (w : World) (a : Option Addr) (n c n' c' : Nat), (binOp .eql 25 (.slice a n c) (.slice none n' c')).run Tryd.prog w = .ok (.bool a.isNone) w := fun w a n c n' c' => Lib.run_eql_slice_nil w _ _ a n c n' c' Tryd.underlying25
  cases A0 with
  | none =>
    have h0 : l = [] := by
      rcases h.2 with ⟨-, h0⟩ | ⟨g, o, cap, cur, hv, _⟩
      · exact List.eq_nil_of_length_eq_zero h0
      · cases hv
    subst h0
    clear h
    go_enter Tryd.func17, Tryd.ntmps17
    go_wp2_with fail
    go_ret
    exact ⟨none, 0, rfl, RwAt.nil _ _ _, fun b hb => by simp [Value.ownBlock] at hb, Below.refl _ _⟩
  | some a =>
    obtain ⟨i0, hi, hz0, hz1, hz2⟩ := info_parts infoR
    have hb1 : Below w.heap.size w (w.alloc (.cells #[] 30)) := (Below.refl _ _).alloc (Nat.le_refl _) _
    have hnew : RwAt (w.alloc (.cells #[] 30)) 30 3 (.slice (some ⟨w.heap.size, 0, none⟩) 0 0) 0 [] := ⟨by simp, .inr ⟨w.heap.size, 0, 0, #[], rfl, heap_alloc_new w _, by omega, by unfold maxLen; omega, by simp, by simp⟩⟩
    obtain ⟨A, c, w1, hrun, hown, hgr, hat⟩ := rw_append hnew 25 25 25 i0 _ 32 Tryd.underlying25 hi hz0 hz1 hz2 rfl _ l.length _ ((h.keep hb1).src Tryd.underlying25 (rcells_one l)) (by unfold maxLen; omega) (by omega)
    rw [Nat.zero_add] at hrun hown hat
    rw [List.nil_append] at hown
    have HE := Lib.hid (show ∃ A' c', Ending.returned (.slice A l.length c) = .returned (.slice A' l.length c') ∧ RcAt w1 (.slice A' l.length c') l ∧ (∀ b, Value.ownBlock (.slice A' l.length c') = some b → w.heap.size ≤ b) ∧ Below w.heap.size w w1 from ⟨A, c, rfl, hown, fun b hb => by
        rcases hat b hb with e | e
        · simp [Value.ownBlock] at e; omega
        · have := hb1.size; omega, ⟨hgr.os, hgr.tape, hgr.output, Nat.le_trans hb1.size hgr.size, fun k hk => (hgr.block k (Nat.lt_of_lt_of_le hk hb1.size) (fun e => by simp [Value.ownBlock] at e; omega)).trans (hb1.block k hk)⟩⟩)
    have HR := Lib.hid hrun
    clear h hi hz0 hz1 hz2 hnew hrun hown hgr hat hb1
    go_enter Tryd.func17, Tryd.ntmps17
    go_wp2_with (at_builtin; refine wpList_append_run (by rfl) _ _ _ (by rfl) _ _ _ _ (by rfl) (by rfl) (by exact HR.out) ?_)
    go_ret
    exact HE.out
set_option maxRecDepth 100000 in
set_option maxHeartbeats 1000000 in
theorem written_any (h : SkAt w B F s) (hl : totS s ≤ 1000000) :
    Calls Tryd.prog 11 #[.pointer (some ⟨B, 0, none⟩)] w fun e w' => ∃ A c, e = .returned (.slice A s.wr.length c) ∧ RcAt w' (.slice A s.wr.length c) s.wr ∧ (∀ b, Value.ownBlock (.slice A s.wr.length c) = some b → w.heap.size ≤ b) ∧ Below w.heap.size w w' := by
  obtain ⟨vw, vs, vo, tv, h⟩ := h
  have d0 := h.c0
  have hS : totS s = s.wr.length + many s.sl + s.op.length := rfl
  have HC := cloneR_any h.wr (by omega)
  obtain ⟨A0, c0, rfl, -, -⟩ := h.wr.slice
  clear h hS hl
  generalize s.wr = l at *
  go_enter Tryd.func11, Tryd.ntmps11
  go_wp2_with (go_at_call 17; refine HC.mono ?_; rintro e u ⟨A, c, rfl, h1, h2, h3⟩)
  go_ret
  exact ⟨A, c, rfl, h1, h2, h3⟩
/-- Cells behind a slice. -/
def CsAt (w : World) (la : Option Addr) (cs : List Value) : Prop :=
  cs = [] ∨ ∃ b o, la = some ⟨b, o, none⟩ ∧ ∀ j u, cs[j]? = some u → w.cell? ⟨b, o + j, none⟩ = some u
theorem CsAt.keep {w w' : World} {la : Option Addr} {cs : List Value} (h : CsAt w la cs) (hb : Below w.heap.size w w') : CsAt w' la cs := by
  rcases h with h | ⟨b, o, rfl, hc⟩
  · exact .inl h
  · refine .inr ⟨b, o, rfl, fun j u hu => ?_⟩
    have := hc j u hu
    rw [hb.cell (p := ⟨b, o + j, none⟩) (cell_lt this)]; exact this
theorem CsAt.at {w : World} {la : Option Addr} {cs : List Value} (h : CsAt w la cs) (hne : cs ≠ []) : ∃ b o, la = some ⟨b, o, none⟩ ∧ ∀ j u, cs[j]? = some u → w.cell? ⟨b, o + j, none⟩ = some u := by
  rcases h with h | h
  · exact absurd h hne
  · exact h
theorem rcs_at {w : World} {la : Option Addr} {L : List Rg} (h : CsAt w la (rcells L)) (k : Nat) (hk : k < L.length) : ∃ b o, la = some ⟨b, o, none⟩ ∧ w.cell? ⟨b, o + k * 3, none⟩ = some (.string L[k].key) ∧ w.cell? ⟨b, o + k * 3 + 1, none⟩ = some (.int .i64 L[k].num) ∧ w.cell? ⟨b, o + k * 3 + 2, none⟩ = some (.int .i64 L[k].tm) := by
  obtain ⟨b, o, rfl, hc⟩ := h.at (by intro e; have := rcells_len L; rw [e] at this; simp at this; omega)
  obtain ⟨h0, h1, h2⟩ := rcells_at L k hk
  exact ⟨b, o, rfl, hc _ _ h0, by rw [Nat.add_assoc]; exact hc _ _ h1, by rw [Nat.add_assoc]; exact hc _ _ h2⟩
set_option maxRecDepth 100000 in
set_option maxHeartbeats 1000000 in
theorem sameRecs_any (w : World) (la lb : Option Addr) (c d : Nat) (L : List Rg) (ha : CsAt w la (rcells L)) (hb : CsAt w lb (rcells L)) (hlen : L.length ≤ 9223372036854775807) :
    Calls Tryd.prog 10 #[.slice la L.length c, .slice lb L.length d] w fun e w' => e = .returned (.bool true) ∧ Below w.heap.size w w' := by
  go_enter Tryd.func10, Tryd.ntmps10
  go_wp2_with fail
  go_loopw [5] (fun i wr => ∃ k : Nat, k ≤ L.length ∧ i = .int .i64 k ∧ Below w.heap.size w wr) (fun i _ => L.length - (intOf i).toNat)
  case atStart => exact ⟨0, by omega, rfl, Below.refl _ _⟩
  case round =>
    obtain ⟨k, hk, rfl, hbl⟩ := hrel
    by_cases hlt : k < L.length
    · obtain ⟨b, o, rfl, c0, c1, c2⟩ := rcs_at (ha.keep hbl) k hlt
      obtain ⟨b', o', rfl, d0, d1, d2⟩ := rcs_at (hb.keep hbl) k hlt
      generalize L[k] = r at *
      obtain ⟨key, num, time⟩ := r
      simp only at c0 c1 c2 d0 d1 d2
      go_wp2_with fail
      go_quiet (fail)
      go_wp2_with fail
      go_roundw
      case rel => exact ⟨k + 1, by omega, by go_num, by exact ⟨hbl.os, hbl.tape, hbl.output, hbl.size, hbl.block⟩⟩
      case measure => simp [intOf]; omega
    · go_wp2_with fail
      go_ret
      exact ⟨rfl, hbl⟩
def icells (l : List Int) : List Value := l.map fun i => .int .i64 i
theorem icells_at (l : List Int) (i : Nat) (h : i < l.length) : (icells l)[i]? = some (.int .i64 l[i]) := by simp [icells, h]
set_option maxRecDepth 100000 in
set_option maxHeartbeats 1000000 in
theorem sameInts_any (w : World) (la lb : Option Addr) (c d : Nat) (L : List Int) (ha : CsAt w la (icells L)) (hb : CsAt w lb (icells L)) (hlen : L.length ≤ 9223372036854775807) :
    Calls Tryd.prog 12 #[.slice la L.length c, .slice lb L.length d] w fun e w' => e = .returned (.bool true) ∧ Below w.heap.size w w' := by
  go_enter Tryd.func12, Tryd.ntmps12
  go_wp2_with fail
  go_loopw [5] (fun i wr => ∃ k : Nat, k ≤ L.length ∧ i = .int .i64 k ∧ Below w.heap.size w wr) (fun i _ => L.length - (intOf i).toNat)
  case atStart => exact ⟨0, by omega, rfl, Below.refl _ _⟩
  case round =>
    obtain ⟨k, hk, rfl, hbl⟩ := hrel
    by_cases hlt : k < L.length
    · have hne : icells L ≠ [] := by intro e; have : (icells L).length = L.length := by simp [icells]
                                     rw [e] at this; simp at this; omega
      obtain ⟨b, o, rfl, hc⟩ := (ha.keep hbl).at hne
      obtain ⟨b', o', rfl, hd⟩ := (hb.keep hbl).at hne
      have c0 := hc _ _ (icells_at L k hlt)
      have d0 := hd _ _ (icells_at L k hlt)
      clear hc hd hne
      generalize L[k] = r at *
      go_wp2_with fail
      go_quiet (fail)
      go_wp2_with fail
      go_roundw
      case rel => exact ⟨k + 1, by omega, by go_num, by exact ⟨hbl.os, hbl.tape, hbl.output, hbl.size, hbl.block⟩⟩
      case measure => simp [intOf]; omega
    · go_wp2_with fail
      go_ret
      exact ⟨rfl, hbl⟩
theorem infoN : (Tryd.prog.info? 3).map (fun i => (i.zero, i.size, i.bytes)) = some (some (.int .i64 0), 1, 8) := by kernel_rfl
abbrev NsAt (w : World) (v : Value) (l : List Int) : Prop := RwAt w 3 1 v l.length (icells l)
theorem icells_snoc (l : List Int) (i : Int) : icells (l ++ [i]) = icells l ++ [.int .i64 i] := by simp [icells]
theorem icells_len (l : List Int) : (icells l).length = l.length * 1 := by simp [icells]
theorem icells_one (l : List Int) : ∀ u ∈ icells l, u.oneCell' = true := by
  intro u hu
  obtain ⟨i, -, rfl⟩ := List.mem_map.1 hu
  rfl
/-- append of one number. -/
theorem app_int {u : World} {v : Value} {l : List Int} (h : NsAt u v l) (i : Int) (hl : l.length ≤ 1000000) {g : Nat} (hg : u.heap[g]? = some (.cells #[.int .i64 i] 3 (0, 0))) :
    ∃ A c w1, (Builtin.append_ #[27, 27] 27 #[v, .slice (some ⟨g, 0, none⟩) 1 1]).run Tryd.prog u = .ok (.slice A (l.length + 1) c) w1 ∧ NsAt w1 (.slice A (l.length + 1) c) (l ++ [i]) ∧ u.grownBy w1 v.ownBlock ∧ (∀ b, Value.ownBlock (.slice A (l.length + 1) c) = some b → v.ownBlock = some b ∨ u.heap.size ≤ b) := by
  obtain ⟨i0, hi, hz0, hz1, hz2⟩ := info_parts infoN
  obtain ⟨A, c, w1, hrun, hown, hgr, hat⟩ := rw_append h 27 27 27 i0 _ 8 Tryd.underlying27 hi hz0 hz1 hz2 rfl (.slice (some ⟨g, 0, none⟩) 1 1) 1 [.int .i64 i]
    (Src.ofSlice _ Tryd.underlying27 _ 1 1 [.int .i64 i] rfl (World.news_of_block (cs := #[.int .i64 i]) hg) (fun u hu => by simp at hu; subst hu; rfl)) (by unfold maxLen; omega) (by omega)
  refine ⟨A, c, w1, hrun, ?_, hgr, hat⟩
  rw [← icells_snoc] at hown
  have : (l ++ [i]).length = l.length + 1 := by simp
  rw [← this] at hown ⊢
  exact hown
set_option maxRecDepth 100000 in
set_option maxHeartbeats 1000000 in
theorem sealed_any (h : SkAt w B F s) (hl : s.sl.length ≤ 1000000) :
    Calls Tryd.prog 13 #[.pointer (some ⟨B, 0, none⟩)] w fun e w' => ∃ A c, e = .returned (.slice A s.sl.length c) ∧ NsAt w' (.slice A s.sl.length c) (s.sl.map Prod.fst) ∧ Below w.heap.size w w' := by
  obtain ⟨vw, vs, vo, tv, h⟩ := h
  have d1 := h.c1
  obtain ⟨A, c, rfl, hT⟩ := h.tr_at
  have HT := Lib.hid hT
  generalize s.sl = sl at *
  clear h hT
  go_enter Tryd.func13, Tryd.ntmps13
  go_wp2_with fail
  go_loopw [3, 11] (fun v i wr => ∃ (k : Nat) (A : Option Addr) (c : Nat), k ≤ sl.length ∧ i = .int .i64 k ∧ v = .slice A k c ∧ Hid (NsAt wr (.slice A k c) ((sl.take k).map Prod.fst)) ∧ (∀ b, Value.ownBlock (.slice A k c) = some b → w.heap.size ≤ b) ∧ Below w.heap.size w wr) (fun _ i _ => sl.length - (intOf i).toNat)
  case atStart => exact ⟨0, none, 0, by omega, rfl, rfl, Lib.hid (RwAt.nil _ _ _), fun b hb => by simp [Value.ownBlock] at hb, Below.refl _ _⟩
  case round =>
    obtain ⟨k, A1, c1, hk, rfl, rfl, hv, hvo, hb⟩ := hrel
    by_cases hlt : k < sl.length
    · obtain ⟨g, o, A', c', rfl, e0, e1, hg⟩ := HT.out k hlt
      have e0' : wr.cell? ⟨g, o + k * 2, none⟩ = some (.int .i64 sl[k].1) := by rw [hb.cell (p := ⟨g, o + k * 2, none⟩) hg]; exact e0
      have e1' : wr.cell? ⟨g, o + k * 2 + 1, none⟩ = some (.slice A' sl[k].2.length c') := by rw [hb.cell (p := ⟨g, o + k * 2 + 1, none⟩) hg]; exact e1
      have hbs := hb.size
      have hki : (k : Int) < (sl.length : Int) := by omega
      have htk : (sl.take (k + 1)).map Prod.fst = (sl.take k).map Prod.fst ++ [sl[k].1] := by rw [List.take_succ_eq_append_getElem hlt, List.map_append]; rfl
      have htl : ((sl.take k).map Prod.fst).length = k := by simp; omega
      have hb2 : Below wr.heap.size wr ((wr.alloc (.cells #[.int .i64 sl[k].1, .slice A' sl[k].2.length c'] 51)).alloc (.cells #[.int .i64 sl[k].1] 3)) := ((Below.refl _ _).alloc (Nat.le_refl _) _).alloc (by simp) _
      obtain ⟨A2, c2, w1, hrun, hown, hgr, hat⟩ := app_int (hv.out.keep hb2) sl[k].1 (by omega) (g := wr.heap.size + 1) (heap_alloc2_new wr _ _)
      rw [htl] at hrun hown hat
      rw [← htk] at hown
      have HE := Lib.hid (show NsAt w1 (.slice A2 (k + 1) c2) ((sl.take (k + 1)).map Prod.fst) ∧ (∀ b, Value.ownBlock (.slice A2 (k + 1) c2) = some b → w.heap.size ≤ b) ∧ Below w.heap.size w w1 from ⟨hown, fun b hb' => by
          rcases hat b hb' with e | e
          · exact hvo b e
          · have := hb2.size; omega, (hb.trans (hb2.mono hbs)).trans ⟨hgr.os, hgr.tape, hgr.output, hgr.size, fun j hj => hgr.block j (by have := hb2.size; omega) (fun e => by have := hvo j e.symm; omega)⟩⟩)
      have HR := Lib.hid hrun
      clear hrun hown hgr hat hb2 htk htl hv hvo hb HT e0 e1
      generalize sl[k].2.length = n0 at *
      generalize sl[k].1 = i0 at *
      go_wp2_with (at_builtin; refine wpList_append_run (by rfl) _ _ _ (by rfl) _ _ _ _ (by rfl) (by rfl) (by exact HR.out) ?_)
      exact ⟨⟨k + 1, A2, c2, by omega, by go_num, rfl, Lib.hid HE.out.1, HE.out.2⟩, by simp [intOf]; omega⟩
    · have hk' : k = sl.length := by omega
      have hki : ¬ (k : Int) < (sl.length : Int) := by omega
      rw [hk', List.take_length] at hv
      rw [hk'] at hki ⊢
      clear HT hvo hk'
      go_wp2_with fail
      go_ret
      exact ⟨A1, c1, rfl, hv.out, hb⟩
end
end Go.Proofs.YtaicaeokljdjdaaDoor
