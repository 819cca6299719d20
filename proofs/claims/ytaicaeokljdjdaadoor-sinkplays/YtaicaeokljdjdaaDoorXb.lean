/- New, Add, Seal. -/
import Derived.Test.YtaicaeokljdjdaaDoorXa
namespace Go.Proofs.YtaicaeokljdjdaaDoor
open Go.ChangeShapes Go.WideShapes Go.RowKit
set_option linter.unusedVariables false
abbrev erV (k : Int) : Value := .iface 47 (.int .i64 k)
theorem step_append_run {P : Program} {ops : Array Oper} {o : Oper} {a : Act} {w : World} {K : Act → World → Prop} {Q : Exit → Act → World → Prop} {E : Prop} (hg : o.guard = none) (s x : Operand) (t : TypeId)
    (hop : o.op = .call { callee := .builtin .append, args := #[s, x], argTypes := #[t, t] }) (v1 v2 r : Value) (w' : World) (hs : a.eval s = v1) (hx : a.eval x = v2) (hrun : (Builtin.append_ #[t, t] o.type #[v1, v2]).run P w = .ok r w') (h : K (a.put o.dst r) w') :
    if Region.wanted o (yielded ops a.tmps) = true then Oper.wp P o a w K Q else E := by
  have hw : Region.wanted o (yielded ops a.tmps) = true := by simp [Region.wanted, hg]
  rw [if_pos hw]
  unfold Oper.wp execOp
  simp only [hop, resolve, invoke, builtin, Sem.run_bind, Sem.run_pure, Result.andThen_ok, List.map_toArray, List.map_cons, List.map_nil, hs, hx, hrun]
  exact h
theorem clone_any (x : ByteArray) (w : World) (hx : x.size ≤ 281474976710656) : Calls Tryd.prog 14 #[.string x] w fun e w' => e = .returned (.string x) ∧ Below w.heap.size w w' := by
  go_enter Tryd.func14, Tryd.ntmps14
  go_wp2_with (go_at_call 18; refine (Tryd.stringslite_Clone x _ hx).mono ?_; rintro e w' ⟨rfl, hb⟩)
  go_ret
  exact ⟨rfl, hb⟩
/-- What a call leaves: the sink as it is then. -/
def SkEnd (F : Nat → Prop) (w : World) (B : Nat) (s' : Sk Rg) (w' : World) : Prop := ∃ F', SkAt w' B F' s' ∧ Frm F w w' ∧ ∀ k, F' k → F k ∨ w.heap.size ≤ k
theorem new_any (w : World) : Calls Tryd.prog 4 #[] w fun e w' => ∃ B, e = .returned (.pointer (some ⟨B, 0, none⟩)) ∧ SkEnd (fun _ => False) w B newS w' := by
  have hb : (w.alloc (.cells #[.slice none 0 0, .slice none 0 0, .slice none 0 0, .int .i64 0] 46)).heap[w.heap.size]? = some (.cells #[.slice none 0 0, .slice none 0 0, .slice none 0 0, .int .i64 0] 46 (0, 0)) := heap_alloc_new w _
  have hE := Lib.hid (show SkEnd (fun _ => False) w w.heap.size newS (w.alloc (.cells #[.slice none 0 0, .slice none 0 0, .slice none 0 0, .int .i64 0] 46)) from
    ⟨fun k => k = w.heap.size, ⟨.slice none 0 0, .slice none 0 0, .slice none 0 0, [], hb, RwAt.nil _ _ _, RwAt.nil _ _ _, RwAt.nil _ _ _, .nil, by
      refine List.pairwise_cons.2 ⟨fun v hv => nil_neb v, by simp⟩, rfl, fun v hv b hb => by
      simp at hv; subst hv; simp [Value.ownBlock] at hb, fun k hk => by subst hk; simp⟩, Frm.below ((Below.refl _ _).alloc (Nat.le_refl _) _), fun k hk => .inr (by omega)⟩)
  clear hb
  go_enter Tryd.func4, Tryd.ntmps4
  go_wp2_with fail
  go_ret
  exact ⟨_, rfl, hE.out⟩
section
variable {w : World} {B : Nat} {F : Nat → Prop} {s : Sk Rg}
theorem rcells_snoc (l : List Rg) (x : Rg) : rcells (l ++ [x]) = rcells l ++ rcell x := by rw [rcells_append]; simp [rcells]
theorem tcells_snoc (l : List (Int × Value)) (x : Int × Value) : tcells (l ++ [x]) = tcells l ++ [.int .i64 x.1, x.2] := by rw [tcells_append]; simp [tcells]
/-- The append of one record. -/
theorem app_rec {vw vs vo : Value} {tv : List (Int × Value)} (h : SkB w B F vw vs vo tv s) (hl : s.op.length < 400) (r : Rg) :
    ∃ A c w1, (Builtin.append_ #[25, 25] 25 #[vo, .slice (some ⟨w.heap.size, 0, none⟩) 1 1]).run Tryd.prog ((w.alloc (.cells #[.string r.key, .int .i64 r.num, .int .i64 r.tm] 30)).drew) = .ok (.slice A (s.op.length + 1) c) w1 ∧
      w1.cell? ⟨B, 2, none⟩ = some vo ∧ w1.frozen? ⟨B, 2, none⟩ = false ∧ SkEnd F w B (addS s r) (w1.setCell ⟨B, 2, none⟩ (.slice A (s.op.length + 1) c)) := by
  obtain ⟨i0, hi, hz0, hz1, hz2⟩ := info_parts infoR
  have b2 : Below w.heap.size w ((w.alloc (.cells #[.string r.key, .int .i64 r.num, .int .i64 r.tm] 30)).drew) := ((Below.refl _ _).alloc (Nat.le_refl _) _).drew
  have h2 := h.keep b2
  have hsrc : Src Tryd.prog 3 25 (.slice (some ⟨w.heap.size, 0, none⟩) 1 1) 1 (rcell r) ((w.alloc (.cells #[.string r.key, .int .i64 r.num, .int .i64 r.tm] 30)).drew) :=
    Src.ofSlice _ Tryd.underlying25 _ 1 1 (rcell r) rfl (World.news_of_block (B := w.heap.size) (cs := #[.string r.key, .int .i64 r.num, .int .i64 r.tm]) (t := 30) (fr := (0, 0)) (heap_alloc_new w _)) (rcell_one r)
  obtain ⟨A, c, w1, hrun, hown, hgr, hat⟩ := rw_append h2.op 25 25 25 i0 _ 32 Tryd.underlying25 hi hz0 hz1 hz2 rfl _ 1 _ hsrc (by unfold maxLen; omega) (by omega)
  have hll : (s.op ++ [r]).length = s.op.length + 1 := by simp
  rw [← rcells_snoc, ← hll] at hown
  obtain ⟨h3, h4⟩ := h2.setOp hgr hown (fun b hb => hat b (by rw [hll] at hb; exact hb))
  have hne : some B ≠ vo.ownBlock := fun e => (h2.far (v := vo) (by simp) e.symm).1 rfl
  rw [hll] at h3 h4
  refine ⟨A, c, w1, hrun, hgr.cell h2.c2 hne, (hgr.frozen_far ⟨B, 2, none⟩ h2.ltB hne).trans (h2.fz 2), _, ⟨_, _, _, _, h3⟩, (Frm.below (F := F) b2).trans h4 (fun i hi => .inl hi), ?_⟩
  rintro k (hk | hk)
  · exact .inl hk
  · exact .inr (Nat.le_trans b2.size hk.1)
set_option maxRecDepth 100000 in
set_option maxHeartbeats 1000000 in
theorem add_any (h : SkAt w B F s) (hl : s.op.length < 400) (r : Rg) (hk : r.key.size ≤ 281474976710656) :
    Calls Tryd.prog 5 #[.pointer (some ⟨B, 0, none⟩), rV r] w fun e w' => e = .returned .nilIface ∧ SkEnd F w B (addS s r) w' := by
  obtain ⟨vw, vs, vo, tv, h⟩ := h
  obtain ⟨A0, c0, rfl, -, -⟩ := h.op.slice
  have HC := clone_any r.key
  have d2 := (h.keep ((Below.refl _ _).alloc (Nat.le_refl _) (.cells #[.string r.key, .int .i64 r.num, .int .i64 r.tm] 30))).c2
  have HA := Lib.hid (fun (u : World) (hb : Below w.heap.size w u) => (show SkB u B F vw vs (.slice A0 s.op.length c0) tv s from h.keep hb))
  have HP := Lib.hid (fun (u : World) (hu : SkB u B F vw vs (.slice A0 s.op.length c0) tv s) => app_rec hu hl r)
  have HF := Lib.hid (show ∀ (u w' : World) (s' : Sk Rg), Below w.heap.size w u → SkEnd F u B s' w' → SkEnd F w B s' w' from fun u w' s' hb ⟨F', h1, h2, h3⟩ => ⟨F', h1, (Frm.below (F := F) hb).trans h2 (fun i hi => .inl hi), fun k hk => (h3 k hk).imp id (fun e => Nat.le_trans hb.size e)⟩)
  have hBl := h.ltB
  have q1 : ¬ (400 : Int) ≤ (s.op.length : Int) := by omega
  generalize addS s r = s' at *
  generalize hnn : s.op.length = n at *
  obtain ⟨k0, n0, t0⟩ := r
  simp only [rV] at *
  clear h hl hnn
  have hl0 : w.heap.size < (w.alloc (.cells #[.string k0, .int .i64 n0, .int .i64 t0] 30)).heap.size := by simp
  go_enter Tryd.func5, Tryd.ntmps5
  go_wp2_with (go_at_call 14; refine (HC _ hk).mono ?_; rintro e u ⟨rfl, b1⟩; refine Hid.out ?_)
  refine Lib.hid ?_
  have z0 : u.cell? ⟨w.heap.size, 0, none⟩ = some (.string k0) := by rw [b1.cell (p := ⟨w.heap.size, 0, none⟩) hl0]; simp
  have z1 : u.cell? ⟨w.heap.size, 1, none⟩ = some (.int .i64 n0) := by rw [b1.cell (p := ⟨w.heap.size, 1, none⟩) hl0]; simp
  have z2 : u.cell? ⟨w.heap.size, 2, none⟩ = some (.int .i64 t0) := by rw [b1.cell (p := ⟨w.heap.size, 2, none⟩) hl0]; simp
  have z3 : u.frozen? ⟨w.heap.size, 0, none⟩ = false := by rw [b1.frozen (p := ⟨w.heap.size, 0, none⟩) hl0]; simp
  have b2 : Below w.heap.size w u := ((Below.refl w.heap.size w).alloc (Nat.le_refl _) (.cells #[.string k0, .int .i64 n0, .int .i64 t0] 30)).trans (b1.mono (by simp))
  have b3 : Below w.heap.size w (u.setCell ⟨w.heap.size, 0, none⟩ (.string k0)) := b2.setCell (Nat.le_refl _) _
  have hbx : u.heap[w.heap.size]? = some (.cells #[.string k0, .int .i64 n0, .int .i64 t0] 30 (0, 0)) := (b1.block _ hl0).trans (heap_alloc_new w _)
  have hby : (u.setCell ⟨w.heap.size, 0, none⟩ (.string k0)).heap[w.heap.size]? = some (.cells #[.string k0, .int .i64 n0, .int .i64 t0] 30 (0, 0)) := heap_setCell_same u _ 0 _ _ _ hbx
  have y0 : (u.setCell ⟨w.heap.size, 0, none⟩ (.string k0)).cell? ⟨w.heap.size, 0, none⟩ = some (.string k0) := by simp only [World.cell?, hby]; rfl
  have y1 : (u.setCell ⟨w.heap.size, 0, none⟩ (.string k0)).cell? ⟨w.heap.size, 1, none⟩ = some (.int .i64 n0) := by simp only [World.cell?, hby]; rfl
  have y2 : (u.setCell ⟨w.heap.size, 0, none⟩ (.string k0)).cell? ⟨w.heap.size, 2, none⟩ = some (.int .i64 t0) := by simp only [World.cell?, hby]; rfl
  have hsz : w.heap.size < (u.setCell ⟨w.heap.size, 0, none⟩ (.string k0)).heap.size := by have := cell_lt z0; simpa using this
  have hu := HA.out _ b3
  have x2 := hu.c2
  have HFu := Lib.hid (fun w' s' => HF.out _ w' s' b3)
  obtain ⟨A1, c1, w1, hrun, e1, e2, hE⟩ := HP.out _ hu
  have HE := Lib.hid (HFu.out _ _ hE)
  have HR := Lib.hid hrun
  clear hrun hE HFu HF HA HP HC b1 b2 b3 hu d2
  have hBs : B < (u.setCell ⟨w.heap.size, 0, none⟩ (.string k0)).heap.size := by omega
  clear hbx hby
  go_wp2_with fail
  clear z0 z1 z2 z3
  generalize u.setCell ⟨w.heap.size, 0, none⟩ (.string k0) = u2 at *
  go_region_law (refine step_append_run (by rfl) _ _ _ (by rfl) _ _ _ _ (by rfl) (by rfl) (by exact HR.out) ?_)
  all_goals
    go_wp2_with fail
    go_ret
    exact ⟨rfl, HE.out⟩
end
end Go.Proofs.YtaicaeokljdjdaaDoor
