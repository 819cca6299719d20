/- Session walked. -/
import Derived.Test.YtfpfaekbakilpaaDoorWt
namespace Go.Proofs.YtfpfaekbakilpaaDoor
open Go.RowKit
set_option linter.unusedVariables false

theorem str_ne {a b : ByteArray} (h : a ≠ b) : (a.toList == b.toList) = false := by
  simp only [beq_eq_false_iff_ne, ne_eq]
  intro c
  rw [ByteArray.toList_eq, ByteArray.toList_eq] at c
  exact h (WideShapes.bytes_inj c)
set_option maxRecDepth 100000 in
set_option maxHeartbeats 2000000 in
theorem session_recs (w : World) (la : Option Addr) (c : Nat) (l : List Rg) (gap : Int) (h : CsAt w la (rcells l)) (hn : l.length ≤ 9223372036854775807) (hks : ∀ r ∈ l, r.key.size ≤ 9223372036854775807) (hE : recsE l ≠ 0) :
    Calls Tryd.prog 12 #[.slice la l.length c, .int .i64 gap] w fun e w' => e = .returned (.tuple #[.slice none 0 0, errV (recsE l)]) ∧ Below w.heap.size w w' := by
  have HC := check1 w la c l h hn hks
  rw [errV_ne hE] at HC ⊢
  generalize recsE l = E at *
  clear h hks
  go_enter Tryd.func12, Tryd.ntmps12
  go_wp2_with (go_at_call 17; refine HC.mono ?_; rintro e w' ⟨rfl, hb⟩)
  go_ret2
  exact ⟨rfl, hb⟩
set_option maxRecDepth 100000 in
set_option maxHeartbeats 2000000 in
theorem session_args (w : World) (la : Option Addr) (c : Nat) (l : List Rg) (gap : Int) (h : CsAt w la (rcells l)) (hn : l.length ≤ 9223372036854775807) (hks : ∀ r ∈ l, r.key.size ≤ 9223372036854775807) (hE : recsE l = 0) (hs : spanB gap = false) :
    Calls Tryd.prog 12 #[.slice la l.length c, .int .i64 gap] w fun e w' => e = .returned (.tuple #[.slice none 0 0, errV 1]) ∧ Below w.heap.size w w' := by
  have HC := check1 w la c l h hn hks
  rw [hE, errV_0] at HC
  have H1 := fun u => span_any gap u
  rw [hs] at H1
  clear h hks hE hs
  go_enter Tryd.func12, Tryd.ntmps12
  go_wp2_with (first | (go_at_call 17; refine HC.mono ?_; rintro e w' ⟨rfl, hb⟩) | (go_at_call 18; refine (H1 _).mono ?_; rintro e w'' ⟨rfl, rfl⟩))
  go_ret2
  exact ⟨rfl, hb⟩
set_option maxRecDepth 100000 in
set_option maxHeartbeats 8000000 in
theorem session_yes (w : World) (la : Option Addr) (c : Nat) (l : List Rg) (gap : Int) (h : CsAt w la (rcells l)) (hE : recsE l = 0) (hs : spanB gap = true) :
    Calls Tryd.prog 12 #[.slice la l.length c, .int .i64 gap] w fun e w' => ∃ A cap ys, e = .returned (.tuple #[.slice A (sesP gap ys).length cap, .nilIface]) ∧ CsAt w' A (pcells (sesP gap ys)) ∧ ys.Perm l ∧ SrtR ys ∧ Below w.heap.size w w' := by
  obtain ⟨hn, hr⟩ := recs_ok hE
  obtain ⟨i0, hi, hz0, hz1, hz2⟩ := info_parts infoP
  have HC := check1 w la c l h (by omega) (fun r hr' => by have := (hr r hr').1; omega)
  rw [hE, errV_0] at HC
  have H1 := fun u => span_any gap u
  rw [hs] at H1
  have a1 : 1 ≤ gap ∧ gap ≤ 1000000 := by unfold spanB at hs; simpa using hs
  obtain ⟨g0, g1⟩ := a1
  have HR := Lib.hid hr
  have HB := fun (u : World) (hu : Below w.heap.size w u) => byKT_any la c l u (h.keep hu) (by omega)
  clear hr hE hs h
  go_enter Tryd.func12, Tryd.ntmps12
  go_wp2_with (first | (go_at_call 17; refine HC.mono ?_; rintro e u1 ⟨rfl, hb⟩) | (go_at_call 18; refine (H1 _).mono ?_; rintro e w'' ⟨rfl, rfl⟩; refine Hid.out ?_))
  refine Lib.hid ?_
  have HB1 := HB u1 hb
  clear HC HB H1
  go_wp2_with (go_at_call 24; refine HB1.mono ?_; rintro e u2 ⟨A2, c2, ys, rfl, hcs, hperm, hsrt, b2'⟩; refine Hid.out ?_)
  refine Lib.hid ?_
  have b2 := below_after b2' hb
  have hyl : ys.length = l.length := hperm.length_eq
  have hry : ∀ r ∈ ys, r.key.size ≤ 40 ∧ 0 ≤ r.tm ∧ r.tm ≤ 1000000 := fun r hr' => HR.out r (hperm.mem_iff.1 hr')
  have HRY := Lib.hid hry
  have HCS := Lib.hid hcs
  have HPM := Lib.hid hperm
  have HSR := Lib.hid hsrt
  have hst := sesR_take gap ys
  have hsl := fun k => sesR_len gap (ys.take k)
  have HST := Lib.hid hst
  have HSL := Lib.hid hsl
  have HYL := Lib.hid hyl
  have hBz := b2.size
  clear hb HB1 b2' hcs hperm hsrt hry hst hsl HR
  clear hyl
  have HFN : Hid (sesR gap (ys.take 0) = []) := Lib.hid rfl
  have HFE : Hid (sesP gap ys = (sesR gap (ys.take ys.length)).reverse) := by rw [List.take_length]; exact Lib.hid rfl
  obtain ⟨PP, hPPy⟩ : ∃ PP, sesP gap ys = PP := ⟨_, rfl⟩
  rw [hPPy] at HFE
  have HPPy := Lib.hid hPPy
  clear hPPy
  generalize sesR gap = SR at *
  go_wp2_with fail
  go_loopw [7, 24] (fun v i wr => ∃ k : Nat, k ≤ l.length ∧ i = .int .i64 k ∧ wr.ownsRow u2.heap.size 49 6 v (SR (ys.take k)).length (pcells (SR (ys.take k)).reverse) ∧ Below u2.heap.size u2 wr) (fun _ i _ => l.length - (intOf i).toNat)
  case atStart => exact ⟨0, by omega, rfl, by rw [HFN.out]; exact World.ownsRow_nil _ _ _ _, Below.refl _ _⟩
  case round =>
    obtain ⟨k, hk, rfl, hown, hb⟩ := hrel
    have hsz := hb.size
    by_cases hlt : k < l.length
    · have hlt' : k < ys.length := by rw [HYL.out]; exact hlt
      obtain ⟨b, o, rfl, c0, c1, c2⟩ := rcs_at (HCS.out.keep hb) k hlt'
      obtain ⟨-, t0, t1⟩ := HRY.out _ (List.getElem_mem hlt')
      have hst := HST.out k hlt'
      have hsl := HSL.out k
      rw [List.length_take, HYL.out] at hsl
      generalize ys[k] = r at *
      clear hlt'
      have HE2 := Lib.hid hst
      clear hst
      generalize SR (ys.take k) = LR at *
      obtain ⟨key, num, tm⟩ := r
      simp only at c0 c1 c2 t0 t1
      have lt0 := cell_lt c0
      cases LR with
      | nil =>
        obtain ⟨A0, cap0, rfl⟩ := row_slice hown
        simp only [List.length_nil, List.reverse_nil] at hown hsl ⊢
        have heq : SR (ys.take (k + 1)) = [seNew gap ⟨key, num, tm⟩] := by rw [HE2.out]; rfl
        have HEQ := Lib.hid heq
        clear heq HE2
        have hX : ([] : List Pn).length = 0 := rfl
        go_wp2_with fail
        go_quiet (fail)
        generalize hW0 : (wr.alloc (Obj.cells #[Value.string key, Value.int IntKind.i64 num, Value.int IntKind.i64 tm] 47)).drewN nq = W0
        have hW0s : W0.heap.size = wr.heap.size + 1 := by rw [← hW0]; exact World.size_alloc _ _
        have hW0z : wr.heap.size < W0.heap.size := by omega
        have hb0 : Below u2.heap.size u2 W0 := by rw [← hW0]; exact (hb.alloc hsz _).trans ⟨rfl, rfl, rfl, Nat.le_refl _, fun _ _ => rfl⟩
        have y0 : W0.cell? ⟨wr.heap.size, 0, none⟩ = some (.string key) := by rw [← hW0]; show (wr.alloc _).cell? _ = _; simp
        have y1 : W0.cell? ⟨wr.heap.size, 1, none⟩ = some (.int .i64 num) := by rw [← hW0]; show (wr.alloc _).cell? _ = _; simp
        have y2 : W0.cell? ⟨wr.heap.size, 2, none⟩ = some (.int .i64 tm) := by rw [← hW0]; show (wr.alloc _).cell? _ = _; simp
        have yb : W0.heap[wr.heap.size]? = some (.cells #[.string key, .int .i64 num, .int .i64 tm] 47 (0, 0)) := by rw [← hW0]; exact alloc_new wr _
        have hownW : W0.ownsRow u2.heap.size 49 6 (.slice A0 0 cap0) 0 (pcells ([] : List Pn)) := by rw [← hW0]; exact hown.alloc _
        have hownlt := hown.lt
        have HLT := Lib.hid hownlt
        have hb0z := hb0.size
        clear hW0 hW0s hown hownlt c0 c1 c2
        go_wp2_with (at_builtin; refine wpList_append_own _ rfl _ _ 23 rfl u2.heap.size 49 i0 (.agg #[.string ⟨#[]⟩, .int .i64 0, .int .i64 0, .int .i64 0, .int .i64 0, .int .i64 0]) 6 56 Tryd.underlying23 hi hz0 hz1 hz2 rfl (by decide) _ _ _ rfl (hownW.alloc _) ⟨W0.heap.size, 0, none⟩ 1 1 [.string key, .int .i64 tm, .int .i64 0, .int .i64 0, .int .i64 0, .int .i64 0] rfl rfl (cell_six_new _ _ _ _ _ _ _ _) (by intro u hu; simp at hu; rcases hu with rfl | rfl | rfl | rfl | rfl | rfl <;> rfl) (by unfold maxLen; omega) (by omega) (by simp; omega) ?_)
        intro v' w3 hown' hgrow _
        have hb3 : Below u2.heap.size u2 w3 := (hb0.alloc hb0z _).grown hgrow (by simp; omega) (fun k hk => by have := (HLT.out k hk).1; omega)
        have own3 : w3.ownsRow u2.heap.size 49 6 v' (0 + 1) (pcells (([] : List Pn) ++ [⟨key, tm, 0, 0, 0, 0⟩])) := by rw [pc_snoc]; exact hown'
        have hkey : ∀ (i : Nat) (u : Value), W0.cell? ⟨wr.heap.size, i, none⟩ = some u → w3.cell? ⟨wr.heap.size, i, none⟩ = some u := fun i u hu => by
          rw [World.cell?_of_block (w := W0.alloc (.cells #[.string key, .int .i64 tm, .int .i64 0, .int .i64 0, .int .i64 0, .int .i64 0] 49)) (hgrow.block _ (by simp; omega) (fun e => by have := (HLT.out _ e.symm).2; simp at this))]
          rw [World.cell?_of_block (w := W0) (Below.heap_alloc _ _ _ (by simpa using hW0z))]; exact hu
        have xb : w3.heap[wr.heap.size]? = some (.cells #[.string key, .int .i64 num, .int .i64 tm] 47 (0, 0)) := by
          rw [hgrow.block _ (by simp; omega) (fun e => by have := (HLT.out _ e.symm).2; simp at this), Below.heap_alloc _ _ _ (by simpa using hW0z)]; exact yb
        have XB := Lib.hid xb
        have x0 := hkey 0 _ y0
        have x1 := hkey 1 _ y1
        have x2 := hkey 2 _ y2
        have hsz3 : wr.heap.size < w3.heap.size := by have := hgrow.size; simp at this; omega
        clear hown' hgrow hkey hownW y0 y1 y2 hb0 yb xb
        have hdd : ([] : List Pn).length = 0 := rfl
        obtain ⟨g3, cap3, cur3, hv3, hBg3, hcg3, hcur3, z0, z1, z2, z3, z4, z5⟩ := se_last own3 hdd
        subst hv3
        have lg3 := some_lt hcur3
        have hne1 : ¬ wr.heap.size = g3 := fun e => by have := XB.out; rw [e, hcur3] at this; simp at this
        have hne2 : ¬ g3 = wr.heap.size := fun e => hne1 e.symm
        have fz2 : w3.frozen? ⟨g3, 2, none⟩ = false := by simp [World.frozen?, hcur3]
        have hBW : Below u2.heap.size u2 (w3.setCell ⟨g3, 2, none⟩ (.int .i64 (tm + gap))) := hb3.setCell (by simpa using hBg3) _
        have hset := heap_set_same w3 g3 (2) cur3 _ _ hcur3 (.int .i64 (tm + gap))
        have HC : ∀ u : World, u.heap = (w3.setCell ⟨g3, 2, none⟩ (.int .i64 (tm + gap))).heap → Below u2.heap.size u2 u → Calls Tryd.prog 25 #[.pointer (some ⟨g3, 0, none⟩), .agg #[.string key, .int .i64 num, .int .i64 tm]] u fun e u3 => e = .returned (.tuple #[]) ∧ Hid (u3.ownsRow u2.heap.size 49 6 (.slice (some ⟨g3, 0, none⟩) (0 + 1) cap3) (0 + 1) (pcells (([] : List Pn) ++ [⟨key, tm, tm + gap, w64 (0 + 1), w64 (0 + num), 0⟩]))) ∧ Below u2.heap.size u2 u3 := fun u hu hbu => by
          have hug : u.heap[g3]? = some (.cells (cur3.setIfInBounds (0 * 6 + 2) (.int .i64 (tm + gap))) 49 (0, 0)) := by rw [hu]; exact hset
          have hcell : ∀ i, i ≠ 0 * 6 + 2 → u.cell? ⟨g3, i, none⟩ = w3.cell? ⟨g3, i, none⟩ := fun i hi' => by
            simp only [World.cell?, hug, hcur3]
            simp [Ne.symm hi']
          refine (count_any u g3 (0 * 6) _ 49 0 0 ⟨key, num, tm⟩ hug (by rw [hcell _ (by omega)]; exact z3) (by rw [hcell _ (by omega)]; exact z4)).mono ?_
          rintro e u3 ⟨rfl, hq3, f3⟩
          exact ⟨rfl, Lib.hid (se_end own3 hdd hcur3 hq3), hbu.trans (f3.toBelow (by rw [hu]; have := hb3.size; simpa using this) (by simpa using hBg3))⟩
        have HOwn := Lib.hid own3
        clear own3 hset hcur3
        go_wp2_with fail
        go_region_with (go_at_call 25; refine (HC _ (by rfl) (by repeat (first | with_reducible exact hBW | with_reducible refine Below.drew ?_))).mono ?_; rintro e u3 ⟨rfl, HO3, hbu3⟩)
        all_goals
          go_wp2_with fail
          go_roundw
          case rel => exact ⟨k + 1, by omega, by go_num, by rw [HEQ.out]; exact HO3.out, hbu3⟩
          case measure => simp [intOf]; omega
      | cons q D =>
        rw [List.reverse_cons] at hown
        simp only [List.length_cons] at hown hsl ⊢
        obtain ⟨g, cap, cur, rfl, hBg, hcg, hcur, p0, p1, p2, p3, p4, p5⟩ := se_last hown (by simp)
        have hyes := seStep_yes gap q D ⟨key, num, tm⟩
        have hno := seStep_no gap q D ⟨key, num, tm⟩
        have HYE := Lib.hid hyes
        have HNO := Lib.hid hno
        clear hyes hno
        have hX : D.reverse.length = D.length := by simp
        generalize hXR : D.reverse = X at *
        have HXR := Lib.hid hXR
        clear hXR
        generalize hDL : D.length = d at *
        have HDL := Lib.hid hDL
        clear hDL
        obtain ⟨qk, qf, qt, qm, qs, ql⟩ := q
        simp only at p0 p1 p2 p3 p4 p5
        have hdi : (0 : Int) ≤ (d : Int) := by omega
        have hdn : decide ((d : Int) < 0) = false := by simp
        have l1 := cell_lt p0
        by_cases hk1 : qk = key
        · subst hk1
          by_cases ht1 : tm < qt
          · have heq : SR (ys.take (k + 1)) = seAdd gap ⟨qk, qf, qt, qm, qs, ql⟩ ⟨qk, num, tm⟩ :: D := by rw [HE2.out, HYE.out ⟨rfl, ht1⟩]
            have HEQ := Lib.hid heq
            clear heq HE2 HYE HNO
            go_wp2_with fail
            go_quiet (fail)
            generalize hW0 : (wr.alloc (Obj.cells #[Value.string qk, Value.int IntKind.i64 num, Value.int IntKind.i64 tm] 47)).drewN nq = W0
            have hW0z : wr.heap.size < W0.heap.size := by rw [← hW0]; show _ < (wr.alloc _).heap.size; simp
            have hb3 : Below u2.heap.size u2 W0 := by rw [← hW0]; exact (hb.alloc hsz _).trans ⟨rfl, rfl, rfl, Nat.le_refl _, fun _ _ => rfl⟩
            have y0 : W0.cell? ⟨wr.heap.size, 0, none⟩ = some (.string qk) := by rw [← hW0]; show (wr.alloc _).cell? _ = _; simp
            have y1 : W0.cell? ⟨wr.heap.size, 1, none⟩ = some (.int .i64 num) := by rw [← hW0]; show (wr.alloc _).cell? _ = _; simp
            have y2 : W0.cell? ⟨wr.heap.size, 2, none⟩ = some (.int .i64 tm) := by rw [← hW0]; show (wr.alloc _).cell? _ = _; simp
            have hownW : W0.ownsRow u2.heap.size 49 6 (.slice (some ⟨g, 0, none⟩) (d + 1) cap) (d + 1) (pcells (X ++ [⟨qk, qf, qt, qm, qs, ql⟩])) := by rw [← hW0]; exact hown.alloc _
            clear hW0 hown c0 c1 c2 p0 p1 p2 p3 p4 p5 hcur
            have hdd : X.length = d := hX
            obtain ⟨g3, cap3, cur3, hv3, hBg3, hcg3, hcur3, z0, z1, z2, z3, z4, z5⟩ := se_last hownW hdd
            simp only [Value.slice.injEq, Option.some.injEq, Addr.mk.injEq, and_true, true_and] at hv3
            obtain ⟨ea, eb⟩ := hv3
            subst ea eb
            have lg := some_lt hcur3
            have fz2 : W0.frozen? ⟨g, d * 6 + 2, none⟩ = false := by simp [World.frozen?, hcur3]
            have hBW : Below u2.heap.size u2 (W0.setCell ⟨g, d * 6 + 2, none⟩ (.int .i64 (tm + gap))) := hb3.setCell (by simpa using hBg) _
            have hset := heap_set_same W0 g (d * 6 + 2) cur3 _ _ hcur3 (.int .i64 (tm + gap))
            have HC : ∀ u : World, u.heap = (W0.setCell ⟨g, d * 6 + 2, none⟩ (.int .i64 (tm + gap))).heap → Below u2.heap.size u2 u → Calls Tryd.prog 25 #[.pointer (some ⟨g, d * 6, none⟩), .agg #[.string qk, .int .i64 num, .int .i64 tm]] u fun e u3 => e = .returned (.tuple #[]) ∧ Hid (u3.ownsRow u2.heap.size 49 6 (.slice (some ⟨g, 0, none⟩) (d + 1) cap) (d + 1) (pcells (X ++ [⟨qk, qf, tm + gap, w64 (qm + 1), w64 (qs + num), ql⟩]))) ∧ Below u2.heap.size u2 u3 := fun u hu hbu => by
              have hug : u.heap[g]? = some (.cells (cur3.setIfInBounds (d * 6 + 2) (.int .i64 (tm + gap))) 49 (0, 0)) := by rw [hu]; exact hset
              have hcell : ∀ i, i ≠ d * 6 + 2 → u.cell? ⟨g, i, none⟩ = W0.cell? ⟨g, i, none⟩ := fun i hi' => by
                simp only [World.cell?, hug, hcur3]
                simp [Ne.symm hi']
              refine (count_any u g (d * 6) _ 49 qm qs ⟨qk, num, tm⟩ hug (by rw [hcell _ (by omega)]; exact z3) (by rw [hcell _ (by omega)]; exact z4)).mono ?_
              rintro e u3 ⟨rfl, hq3, f3⟩
              exact ⟨rfl, Lib.hid (se_end hownW hdd hcur3 hq3), hbu.trans (f3.toBelow (by rw [hu]; have := hb3.size; simpa using this) (by simpa using hBg))⟩
            have HOwn := Lib.hid hownW
            clear hownW hset hcur3
            go_wp2_with fail
            go_region_with (go_at_call 25; refine (HC _ (by rfl) (by repeat (first | with_reducible exact hBW | with_reducible refine Below.drew ?_))).mono ?_; rintro e u3 ⟨rfl, HO3, hbu3⟩)
            all_goals
              go_wp2_with fail
              go_roundw
              case rel => exact ⟨k + 1, by omega, by go_num, by rw [HEQ.out, List.reverse_cons, HXR.out]; simp only [List.length_cons, HDL.out]; exact HO3.out, hbu3⟩
              case measure => simp [intOf]; omega
          · have heq : SR (ys.take (k + 1)) = seNew gap ⟨qk, num, tm⟩ :: ⟨qk, qf, qt, qm, qs, ql⟩ :: D := by rw [HE2.out, HNO.out (fun e => ht1 e.2)]
            have HEQ := Lib.hid heq
            clear heq HE2 HYE HNO
            go_wp2_with fail
            go_quiet (fail)
            generalize hW0 : (wr.alloc (Obj.cells #[Value.string qk, Value.int IntKind.i64 num, Value.int IntKind.i64 tm] 47)).drewN nq = W0
            have hW0s : W0.heap.size = wr.heap.size + 1 := by rw [← hW0]; exact World.size_alloc _ _
            have hW0z : wr.heap.size < W0.heap.size := by omega
            have hb0 : Below u2.heap.size u2 W0 := by rw [← hW0]; exact (hb.alloc hsz _).trans ⟨rfl, rfl, rfl, Nat.le_refl _, fun _ _ => rfl⟩
            have y0 : W0.cell? ⟨wr.heap.size, 0, none⟩ = some (.string qk) := by rw [← hW0]; show (wr.alloc _).cell? _ = _; simp
            have y1 : W0.cell? ⟨wr.heap.size, 1, none⟩ = some (.int .i64 num) := by rw [← hW0]; show (wr.alloc _).cell? _ = _; simp
            have y2 : W0.cell? ⟨wr.heap.size, 2, none⟩ = some (.int .i64 tm) := by rw [← hW0]; show (wr.alloc _).cell? _ = _; simp
            have yb : W0.heap[wr.heap.size]? = some (.cells #[.string qk, .int .i64 num, .int .i64 tm] 47 (0, 0)) := by rw [← hW0]; exact alloc_new wr _
            have hownW : W0.ownsRow u2.heap.size 49 6 (.slice (some ⟨g, 0, none⟩) (d + 1) cap) (d + 1) (pcells (X ++ [(⟨qk, qf, qt, qm, qs, ql⟩ : Pn)])) := by rw [← hW0]; exact hown.alloc _
            have hownlt := hown.lt
            have HLT := Lib.hid hownlt
            have hb0z := hb0.size
            clear hW0 hW0s hown hownlt c0 c1 c2
            go_wp2_with (at_builtin; refine wpList_append_own _ rfl _ _ 23 rfl u2.heap.size 49 i0 (.agg #[.string ⟨#[]⟩, .int .i64 0, .int .i64 0, .int .i64 0, .int .i64 0, .int .i64 0]) 6 56 Tryd.underlying23 hi hz0 hz1 hz2 rfl (by decide) _ _ _ rfl (hownW.alloc _) ⟨W0.heap.size, 0, none⟩ 1 1 [.string qk, .int .i64 tm, .int .i64 0, .int .i64 0, .int .i64 0, .int .i64 0] rfl rfl (cell_six_new _ _ _ _ _ _ _ _) (by intro u hu; simp at hu; rcases hu with rfl | rfl | rfl | rfl | rfl | rfl <;> rfl) (by unfold maxLen; omega) (by omega) (by simp; omega) ?_)
            intro v' w3 hown' hgrow _
            have hb3 : Below u2.heap.size u2 w3 := (hb0.alloc hb0z _).grown hgrow (by simp; omega) (fun k hk => by have := (HLT.out k hk).1; omega)
            have own3 : w3.ownsRow u2.heap.size 49 6 v' ((d + 1) + 1) (pcells ((X ++ [(⟨qk, qf, qt, qm, qs, ql⟩ : Pn)]) ++ [⟨qk, tm, 0, 0, 0, 0⟩])) := by rw [pc_snoc]; exact hown'
            have hkey : ∀ (i : Nat) (u : Value), W0.cell? ⟨wr.heap.size, i, none⟩ = some u → w3.cell? ⟨wr.heap.size, i, none⟩ = some u := fun i u hu => by
              rw [World.cell?_of_block (w := W0.alloc (.cells #[.string qk, .int .i64 tm, .int .i64 0, .int .i64 0, .int .i64 0, .int .i64 0] 49)) (hgrow.block _ (by simp; omega) (fun e => by have := (HLT.out _ e.symm).2; simp at this))]
              rw [World.cell?_of_block (w := W0) (Below.heap_alloc _ _ _ (by simpa using hW0z))]; exact hu
            have xb : w3.heap[wr.heap.size]? = some (.cells #[.string qk, .int .i64 num, .int .i64 tm] 47 (0, 0)) := by
              rw [hgrow.block _ (by simp; omega) (fun e => by have := (HLT.out _ e.symm).2; simp at this), Below.heap_alloc _ _ _ (by simpa using hW0z)]; exact yb
            have XB := Lib.hid xb
            have x0 := hkey 0 _ y0
            have x1 := hkey 1 _ y1
            have x2 := hkey 2 _ y2
            have hsz3 : wr.heap.size < w3.heap.size := by have := hgrow.size; simp at this; omega
            clear hown' hgrow hkey hownW y0 y1 y2 hb0 yb xb
            have hdd : (X ++ [(⟨qk, qf, qt, qm, qs, ql⟩ : Pn)]).length = (d + 1) := (by simp [hX])
            obtain ⟨g3, cap3, cur3, hv3, hBg3, hcg3, hcur3, z0, z1, z2, z3, z4, z5⟩ := se_last own3 hdd
            subst hv3
            have lg3 := some_lt hcur3
            have fz2 : w3.frozen? ⟨g3, (d + 1) * 6 + 2, none⟩ = false := by simp [World.frozen?, hcur3]
            have hBW : Below u2.heap.size u2 (w3.setCell ⟨g3, (d + 1) * 6 + 2, none⟩ (.int .i64 (tm + gap))) := hb3.setCell (by simpa using hBg3) _
            have hset := heap_set_same w3 g3 ((d + 1) * 6 + 2) cur3 _ _ hcur3 (.int .i64 (tm + gap))
            have HC : ∀ u : World, u.heap = (w3.setCell ⟨g3, (d + 1) * 6 + 2, none⟩ (.int .i64 (tm + gap))).heap → Below u2.heap.size u2 u → Calls Tryd.prog 25 #[.pointer (some ⟨g3, (d + 1) * 6, none⟩), .agg #[.string qk, .int .i64 num, .int .i64 tm]] u fun e u3 => e = .returned (.tuple #[]) ∧ Hid (u3.ownsRow u2.heap.size 49 6 (.slice (some ⟨g3, 0, none⟩) ((d + 1) + 1) cap3) ((d + 1) + 1) (pcells ((X ++ [(⟨qk, qf, qt, qm, qs, ql⟩ : Pn)]) ++ [⟨qk, tm, tm + gap, w64 (0 + 1), w64 (0 + num), 0⟩]))) ∧ Below u2.heap.size u2 u3 := fun u hu hbu => by
              have hug : u.heap[g3]? = some (.cells (cur3.setIfInBounds ((d + 1) * 6 + 2) (.int .i64 (tm + gap))) 49 (0, 0)) := by rw [hu]; exact hset
              have hcell : ∀ i, i ≠ (d + 1) * 6 + 2 → u.cell? ⟨g3, i, none⟩ = w3.cell? ⟨g3, i, none⟩ := fun i hi' => by
                simp only [World.cell?, hug, hcur3]
                simp [Ne.symm hi']
              refine (count_any u g3 ((d + 1) * 6) _ 49 0 0 ⟨qk, num, tm⟩ hug (by rw [hcell _ (by omega)]; exact z3) (by rw [hcell _ (by omega)]; exact z4)).mono ?_
              rintro e u3 ⟨rfl, hq3, f3⟩
              exact ⟨rfl, Lib.hid (se_end own3 hdd hcur3 hq3), hbu.trans (f3.toBelow (by rw [hu]; have := hb3.size; simpa using this) (by simpa using hBg3))⟩
            have HOwn := Lib.hid own3
            clear own3 hset hcur3
            go_wp2_with fail
            go_region_with (go_at_call 25; refine (HC _ (by rfl) (by repeat (first | with_reducible exact hBW | with_reducible refine Below.drew ?_))).mono ?_; rintro e u3 ⟨rfl, HO3, hbu3⟩)
            all_goals
              go_wp2_with fail
              go_roundw
              case rel => exact ⟨k + 1, by omega, by go_num, by rw [HEQ.out, List.reverse_cons, List.reverse_cons, HXR.out]; simp only [List.length_cons, HDL.out]; exact HO3.out, hbu3⟩
              case measure => simp [intOf]; omega
        · have hkn : (qk.toList == key.toList) = false := str_ne hk1
          have heq : SR (ys.take (k + 1)) = seNew gap ⟨key, num, tm⟩ :: ⟨qk, qf, qt, qm, qs, ql⟩ :: D := by rw [HE2.out, HNO.out (fun e => hk1 e.1)]
          have HEQ := Lib.hid heq
          clear heq HE2 HYE HNO
          go_wp2_with fail
          go_quiet (fail)
          generalize hW0 : (wr.alloc (Obj.cells #[Value.string key, Value.int IntKind.i64 num, Value.int IntKind.i64 tm] 47)).drewN nq = W0
          have hW0s : W0.heap.size = wr.heap.size + 1 := by rw [← hW0]; exact World.size_alloc _ _
          have hW0z : wr.heap.size < W0.heap.size := by omega
          have hb0 : Below u2.heap.size u2 W0 := by rw [← hW0]; exact (hb.alloc hsz _).trans ⟨rfl, rfl, rfl, Nat.le_refl _, fun _ _ => rfl⟩
          have y0 : W0.cell? ⟨wr.heap.size, 0, none⟩ = some (.string key) := by rw [← hW0]; show (wr.alloc _).cell? _ = _; simp
          have y1 : W0.cell? ⟨wr.heap.size, 1, none⟩ = some (.int .i64 num) := by rw [← hW0]; show (wr.alloc _).cell? _ = _; simp
          have y2 : W0.cell? ⟨wr.heap.size, 2, none⟩ = some (.int .i64 tm) := by rw [← hW0]; show (wr.alloc _).cell? _ = _; simp
          have yb : W0.heap[wr.heap.size]? = some (.cells #[.string key, .int .i64 num, .int .i64 tm] 47 (0, 0)) := by rw [← hW0]; exact alloc_new wr _
          have hownW : W0.ownsRow u2.heap.size 49 6 (.slice (some ⟨g, 0, none⟩) (d + 1) cap) (d + 1) (pcells (X ++ [(⟨qk, qf, qt, qm, qs, ql⟩ : Pn)])) := by rw [← hW0]; exact hown.alloc _
          have hownlt := hown.lt
          have HLT := Lib.hid hownlt
          have hb0z := hb0.size
          clear hW0 hW0s hown hownlt c0 c1 c2
          go_wp2_with (at_builtin; refine wpList_append_own _ rfl _ _ 23 rfl u2.heap.size 49 i0 (.agg #[.string ⟨#[]⟩, .int .i64 0, .int .i64 0, .int .i64 0, .int .i64 0, .int .i64 0]) 6 56 Tryd.underlying23 hi hz0 hz1 hz2 rfl (by decide) _ _ _ rfl (hownW.alloc _) ⟨W0.heap.size, 0, none⟩ 1 1 [.string key, .int .i64 tm, .int .i64 0, .int .i64 0, .int .i64 0, .int .i64 0] rfl rfl (cell_six_new _ _ _ _ _ _ _ _) (by intro u hu; simp at hu; rcases hu with rfl | rfl | rfl | rfl | rfl | rfl <;> rfl) (by unfold maxLen; omega) (by omega) (by simp; omega) ?_)
          intro v' w3 hown' hgrow _
          have hb3 : Below u2.heap.size u2 w3 := (hb0.alloc hb0z _).grown hgrow (by simp; omega) (fun k hk => by have := (HLT.out k hk).1; omega)
          have own3 : w3.ownsRow u2.heap.size 49 6 v' ((d + 1) + 1) (pcells ((X ++ [(⟨qk, qf, qt, qm, qs, ql⟩ : Pn)]) ++ [⟨key, tm, 0, 0, 0, 0⟩])) := by rw [pc_snoc]; exact hown'
          have hkey : ∀ (i : Nat) (u : Value), W0.cell? ⟨wr.heap.size, i, none⟩ = some u → w3.cell? ⟨wr.heap.size, i, none⟩ = some u := fun i u hu => by
            rw [World.cell?_of_block (w := W0.alloc (.cells #[.string key, .int .i64 tm, .int .i64 0, .int .i64 0, .int .i64 0, .int .i64 0] 49)) (hgrow.block _ (by simp; omega) (fun e => by have := (HLT.out _ e.symm).2; simp at this))]
            rw [World.cell?_of_block (w := W0) (Below.heap_alloc _ _ _ (by simpa using hW0z))]; exact hu
          have xb : w3.heap[wr.heap.size]? = some (.cells #[.string key, .int .i64 num, .int .i64 tm] 47 (0, 0)) := by
            rw [hgrow.block _ (by simp; omega) (fun e => by have := (HLT.out _ e.symm).2; simp at this), Below.heap_alloc _ _ _ (by simpa using hW0z)]; exact yb
          have XB := Lib.hid xb
          have x0 := hkey 0 _ y0
          have x1 := hkey 1 _ y1
          have x2 := hkey 2 _ y2
          have hsz3 : wr.heap.size < w3.heap.size := by have := hgrow.size; simp at this; omega
          clear hown' hgrow hkey hownW y0 y1 y2 hb0 yb xb
          have hdd : (X ++ [(⟨qk, qf, qt, qm, qs, ql⟩ : Pn)]).length = (d + 1) := (by simp [hX])
          obtain ⟨g3, cap3, cur3, hv3, hBg3, hcg3, hcur3, z0, z1, z2, z3, z4, z5⟩ := se_last own3 hdd
          subst hv3
          have lg3 := some_lt hcur3
          have fz2 : w3.frozen? ⟨g3, (d + 1) * 6 + 2, none⟩ = false := by simp [World.frozen?, hcur3]
          have hBW : Below u2.heap.size u2 (w3.setCell ⟨g3, (d + 1) * 6 + 2, none⟩ (.int .i64 (tm + gap))) := hb3.setCell (by simpa using hBg3) _
          have hset := heap_set_same w3 g3 ((d + 1) * 6 + 2) cur3 _ _ hcur3 (.int .i64 (tm + gap))
          have HC : ∀ u : World, u.heap = (w3.setCell ⟨g3, (d + 1) * 6 + 2, none⟩ (.int .i64 (tm + gap))).heap → Below u2.heap.size u2 u → Calls Tryd.prog 25 #[.pointer (some ⟨g3, (d + 1) * 6, none⟩), .agg #[.string key, .int .i64 num, .int .i64 tm]] u fun e u3 => e = .returned (.tuple #[]) ∧ Hid (u3.ownsRow u2.heap.size 49 6 (.slice (some ⟨g3, 0, none⟩) ((d + 1) + 1) cap3) ((d + 1) + 1) (pcells ((X ++ [(⟨qk, qf, qt, qm, qs, ql⟩ : Pn)]) ++ [⟨key, tm, tm + gap, w64 (0 + 1), w64 (0 + num), 0⟩]))) ∧ Below u2.heap.size u2 u3 := fun u hu hbu => by
            have hug : u.heap[g3]? = some (.cells (cur3.setIfInBounds ((d + 1) * 6 + 2) (.int .i64 (tm + gap))) 49 (0, 0)) := by rw [hu]; exact hset
            have hcell : ∀ i, i ≠ (d + 1) * 6 + 2 → u.cell? ⟨g3, i, none⟩ = w3.cell? ⟨g3, i, none⟩ := fun i hi' => by
              simp only [World.cell?, hug, hcur3]
              simp [Ne.symm hi']
            refine (count_any u g3 ((d + 1) * 6) _ 49 0 0 ⟨key, num, tm⟩ hug (by rw [hcell _ (by omega)]; exact z3) (by rw [hcell _ (by omega)]; exact z4)).mono ?_
            rintro e u3 ⟨rfl, hq3, f3⟩
            exact ⟨rfl, Lib.hid (se_end own3 hdd hcur3 hq3), hbu.trans (f3.toBelow (by rw [hu]; have := hb3.size; simpa using this) (by simpa using hBg3))⟩
          have HOwn := Lib.hid own3
          clear own3 hset hcur3
          go_wp2_with fail
          go_region_with (go_at_call 25; refine (HC _ (by rfl) (by repeat (first | with_reducible exact hBW | with_reducible refine Below.drew ?_))).mono ?_; rintro e u3 ⟨rfl, HO3, hbu3⟩)
          all_goals
            go_wp2_with fail
            go_roundw
            case rel => exact ⟨k + 1, by omega, by go_num, by rw [HEQ.out, List.reverse_cons, List.reverse_cons, HXR.out]; simp only [List.length_cons, HDL.out]; exact HO3.out, hbu3⟩
            case measure => simp [intOf]; omega
    · have ek : k = l.length := by omega
      subst ek
      have hfe := HFE.out
      rw [HYL.out] at hfe
      obtain ⟨A5, c5, rfl⟩ := row_slice hown
      have hcs5 := (own_cs hown (by rw [pcells_len, List.length_reverse])).1
      rw [← hfe] at hcs5
      have hpl : (SR (ys.take l.length)).length = PP.length := by rw [hfe, List.length_reverse]
      have HPL := Lib.hid hpl
      have HCS5 := Lib.hid hcs5
      have b5 := b2.trans (hb.mono hBz)
      clear hown hcs5 hfe hpl
      go_wp2_with fail
      go_ret2
      exact ⟨A5, c5, ys, by rw [HPPy.out, ← HPL.out]; rfl, by rw [HPPy.out]; exact HCS5.out, HPM.out, HSR.out, b5⟩
end Go.Proofs.YtfpfaekbakilpaaDoor
