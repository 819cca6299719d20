/- The document's gate: Push that is let by. -/
import Derived.Test.YtneglanmigifhaaDoorWb
namespace Go.Proofs.YtneglanmigifhaaDoor
open Go.ChangeShapes Go.WideShapes Go.RowKit
set_option linter.unusedVariables false
theorem rw_of_own {w : World} {base : Nat} {v : Value} {l : List Itm} (h : w.ownsRow base 40 4 v l.length (icells l)) : RwAt w v l := by
  rcases h.2 with ⟨rfl, h0⟩ | ⟨b, cap, cur, rfl, h1, h2, h3, h4, h5, h6⟩
  · exact ⟨none, 0, by rw [h0], by omega, by simp, fun _ => rfl, .inl (List.length_eq_zero_iff.1 h0)⟩
  · refine ⟨_, cap, rfl, h3, h4, (fun e => by cases e), .inr ⟨b, 0, cur, rfl, h2, fun j u hu => ?_⟩⟩
    rw [← h6, List.getElem?_take] at hu
    split at hu
    · rw [Nat.zero_add]; simpa using hu
    · cases hu
/-- append of a row that is read to what is owned. -/
theorem append_it {w : World} {ops : Array Oper} {rest : List Oper} {o : Oper} {a : Act} {Q : Exit → Act → World → Prop} (hgd : o.guard = none) (s x : Operand)
    (ho : o.op = .call { callee := .builtin .append, args := #[s, x], argTypes := #[46, 46] })
    (r : List Itm) (p : Option Addr) (m c : Nat) (hs : a.eval s = .slice none 0 0) (hx : a.eval x = .slice p m c) (hr : RwAt w (.slice p m c) r) (hlim : r.length ≤ 1000000)
    (hK : ∀ v' w', w'.ownsRow w.heap.size 40 4 v' r.length (icells r) → Below w.heap.size w w' → wpList Tryd.prog ops Q rest (a.put o.dst v') w') : wpList Tryd.prog ops Q (o :: rest) a w := by
  obtain ⟨i0, hi, hz0, hz1, hz2⟩ := info_parts infoD
  obtain ⟨p', c', e, h2, h3, h4, h5⟩ := hr
  injection e with e1 e2 e3
  subst e1 e2 e3
  have hnil := World.ownsRow_nil w w.heap.size 40 4
  cases p with
  | none =>
    have hc0 := h4 rfl
    subst hc0
    have hr0 : r = [] := List.length_eq_zero_iff.1 (by omega)
    subst hr0
    refine wpList_plain hgd fun K hK' => ?_
    have hrun := run_append_owned_none (P := Tryd.prog) w w.heap.size 46 o.type 40 i0 4 Tryd.underlying46 hi _ _ _ hnil
    have hx' : a.eval x = .slice none 0 0 := hx
    unfold Oper.wp
    simp [execOp, ho, resolve, invoke, builtin, hs, hx', hrun, Result.andThen]
    exact hK' _ _ (hK _ w (by simpa [icells] using hnil) (Below.refl _ _))
  | some ad =>
    refine wpList_append_own w hgd s x 46 ho w.heap.size 40 i0 (.agg #[.string ⟨#[]⟩, .int .i64 0, .int .i64 0, .int .i64 0]) 4 40 Tryd.underlying46 hi hz0 hz1 hz2 rfl (by decide) (.slice none 0 0) 0 [] hs hnil ad r.length c (icells r) hx (icells_len r) ?_ (icells_one r) (by unfold maxLen; omega) (by omega) (Nat.le_refl _) ?_
    · intro j u hj
      rcases h5 with h | ⟨b, o, cur, h, hb, hcell⟩
      · rw [h] at hj; simp [icells] at hj
      · simp only [Option.some.injEq] at h
        subst h
        rw [show (⟨b, o, none⟩ : Addr).add j = ⟨b, o + j, none⟩ from by unfold Addr.add; split <;> simp_all]
        simp only [World.cell?, hb]; exact hcell j u hj
    · intro v' w' own' grow _
      refine hK v' w' (by simpa using own') ((Below.refl _ _).grown grow (Nat.le_refl _) (fun k hk => by simp [Value.ownBlock] at hk))
/-- What stands behind the second append. -/
theorem push_run {u : World} {base : Nat} {v : Value} {l : List Itm} (x : Itm) (hb : base ≤ u.heap.size) (hv : u.ownsRow base 40 4 v l.length (icells l)) (hl : l.length < 400) :
    ∃ g' cap' u', (Builtin.append_ #[46, 46] 46 #[v, .slice (some ⟨u.heap.size, 0, none⟩) 1 1]).run Tryd.prog ((u.alloc (.cells #[.string (recOf x).key, .int .i64 (recOf x).num, .int .i64 (recOf x).tm, .int .i64 (idOf x)] 40)).drew) = .ok (.slice (some ⟨g', 0, none⟩) (l.length + 1) cap') u' ∧ RwAt u' (.slice (some ⟨g', 0, none⟩) (l.length + 1) cap') (l ++ [x]) ∧ Below base u u' := by
  obtain ⟨i0, hi, hz0, hz1, hz2⟩ := info_parts infoD
  have b2 : Below u.heap.size u ((u.alloc (.cells #[.string (recOf x).key, .int .i64 (recOf x).num, .int .i64 (recOf x).tm, .int .i64 (idOf x)] 40)).drew) := ((Below.refl _ _).alloc (Nat.le_refl _) _).drew
  have hv2 : ((u.alloc (.cells #[.string (recOf x).key, .int .i64 (recOf x).num, .int .i64 (recOf x).tm, .int .i64 (idOf x)] 40)).drew).ownsRow base 40 4 v l.length (icells l) := (hv.alloc _)
  have hx1 := icell_one x
  have hxl := icell_len x
  have hsn := icells_snoc l x
  rw [icell_is] at hx1 hxl hsn
  obtain ⟨g', cap', w1, hrun, hown, hgrow, hat, hlt⟩ := run_append_lies (P := Tryd.prog) ((u.alloc (.cells #[.string (recOf x).key, .int .i64 (recOf x).num, .int .i64 (recOf x).tm, .int .i64 (idOf x)] 40)).drew) 46 46 base 40 i0 (.agg #[.string ⟨#[]⟩, .int .i64 0, .int .i64 0, .int .i64 0]) 4 40 Tryd.underlying46 hi hz0 hz1 hz2 rfl (by decide) v l.length (icells l)
    hv2 ⟨u.heap.size, 0, none⟩ 1 1 [.string (recOf x).key, .int .i64 (recOf x).num, .int .i64 (recOf x).tm, .int .i64 (idOf x)] hxl (World.news_of_block (B := u.heap.size) (cs := #[.string (recOf x).key, .int .i64 (recOf x).num, .int .i64 (recOf x).tm, .int .i64 (idOf x)]) (t := 40) (fr := (0, 0)) (heap_alloc_new u _)) hx1 (by decide) (by unfold maxLen; omega) (by omega) (by simp; omega) _ rfl
  refine ⟨g', cap', w1, hrun, ?_, ?_⟩
  · have hll : (l ++ [x]).length = l.length + 1 := by simp
    rw [← hsn, ← hll] at hown
    have := rw_of_own hown
    rwa [hll] at this
  · exact (b2.mono hb).trans ((Below.refl _ _).grown hgrow (by simp; omega) (fun k hk => (hv.lt k hk).1))
section
variable {lo : Nat} {w : World} {M WB LB : Nat} {us : Nat → Value} {g : Gt Rg}
/-- What the end of Push needs of a gate. -/
theorem push_tail {u : World} {g1 : Gt Rg} (hU : MgB lo u M WB LB us g1) {i n : Nat} {l : List Itm} (hn : g1.ws.length = n) (hgl : g1.ws.getD i [] = l) (hi : i < n) (x : Itm) (hx : ∀ id, x = .bar id → 0 < id) (hl : l.length < 400) :
    ∃ p c, u.cell? ⟨M, 0, none⟩ = some (.slice (some ⟨WB, 0, none⟩) n n) ∧ u.cell? ⟨WB, i, none⟩ = some (.slice p l.length c) ∧ RwAt u (.slice p l.length c) l ∧ u.frozen? ⟨WB, i, none⟩ = false ∧ M < u.heap.size ∧ WB < u.heap.size ∧
      ∀ u4 v', Below u.heap.size u u4 → RwAt u4 v' (l ++ [x]) → (∃ us', MgB lo (u4.setCell ⟨WB, i, none⟩ v') M WB LB us' (putG g1 i x)) ∧ FrD lo u (u4.setCell ⟨WB, i, none⟩ v') := by
  subst hn hgl
  have e0 := hU.w0 (i := i) hi
  have hr := hU.own i hi
  obtain ⟨p, c, ev, -⟩ := id hr
  rw [ev] at e0 hr
  refine ⟨p, c, hU.c0, e0, hr, hU.fW i, hU.ltM, hU.ltW, fun u4 v' b5 hrw => ?_⟩
  obtain ⟨a, b⟩ := hU.setRow hi b5 hrw (by rw [List.length_append, List.length_singleton]; omega) (fun id hid => by
    rcases List.mem_append.1 hid with h' | h'
    · exact hU.ids _ (mem_getD hi) id h'
    · simp at h'; exact hx id h'.symm)
  exact ⟨⟨_, a⟩, b⟩
set_option maxRecDepth 100000 in
set_option maxHeartbeats 2000000 in
theorem mpush_ok (h : MgB lo w M WB LB us g) (i n : Nat) (l : List Itm) (hgn : g.ws.length = n) (hgl : g.ws.getD i [] = l) (hi : i < n) (x : Itm) (hx : ∀ id, x = .bar id → 0 < id) (hl : l.length < 400) :
    Calls Tryd.prog 7 #[.pointer (some ⟨M, 0, none⟩), .int .i64 i, itV x, .bool false] w fun e w' => e = .returned (.int .i64 0) ∧ (∃ us', MgB lo w' M WB LB us' (putG g i x)) ∧ FrD lo w w' := by
  have hl4 : ¬ (400 : Int) ≤ (l.length : Int) := by omega
  have hiI : (i : Int) < (n : Int) := by omega
  have q0 : ¬ (i : Int) < 0 := by omega
  have q1 : ¬ (n : Int) ≤ (i : Int) := by omega
  have bb : Below w.heap.size w (w.alloc (.cells #[.string (recOf x).key, .int .i64 (recOf x).num, .int .i64 (recOf x).tm, .int .i64 (idOf x)] 40)) := (Below.refl _ _).alloc (Nat.le_refl _) _
  have hbx : (w.alloc (.cells #[.string (recOf x).key, .int .i64 (recOf x).num, .int .i64 (recOf x).tm, .int .i64 (idOf x)] 40)).heap[w.heap.size]? = some (.cells #[.string (recOf x).key, .int .i64 (recOf x).num, .int .i64 (recOf x).tm, .int .i64 (idOf x)] 40 (0, 0)) := heap_alloc_new w _
  have hlo := h.lo'
  obtain ⟨p, c, c0, e0, hr, hfw, hMl, hWl, hE⟩ := push_tail (h.keep bb) hgn hgl hi x hx hl
  have HE := Lib.hid (fun u4 v' b5 hrw => (⟨(hE u4 v' b5 hrw).1, (FrD.below bb hlo).trans (hE u4 v' b5 hrw).2⟩ : (∃ us', MgB lo (u4.setCell ⟨WB, i, none⟩ v') M WB LB us' (putG g i x)) ∧ FrD lo w (u4.setCell ⟨WB, i, none⟩ v')))
  clear h bb hE hgn hgl
  generalize putG g i x = g9 at *
  unfold itV
  go_enter Tryd.func7, Tryd.ntmps7
  generalize hu : w.alloc (.cells #[.string (recOf x).key, .int .i64 (recOf x).num, .int .i64 (recOf x).tm, .int .i64 (idOf x)] 40) = u at *
  have hbxl := some_lt hbx
  have HR := Lib.hid hr
  clear hr
  go_wp2_with (at_builtin; refine append_it (by rfl) _ _ (by rfl) l p l.length c (by rfl) (by rfl) HR.out (by omega) ?_; intro v1 u3 own1 b3; refine Hid.out ?_)
  refine Lib.hid ?_
  obtain ⟨g', cap', u4, hrun, hrw, b4⟩ := push_run x b3.size own1 hl
  have b5 : Below u.heap.size u u4 := b3.trans b4
  have HX := Lib.hid (HE.out _ _ b5 hrw)
  have f0 := (b3.cell (p := ⟨M, 0, none⟩) hMl).trans c0
  have f1 := (b5.cell (p := ⟨WB, i, none⟩) hWl).trans e0
  have f5 := (b5.cell (p := ⟨M, 0, none⟩) hMl).trans c0
  have f2 := (b5.frozen (p := ⟨WB, i, none⟩) hWl).trans hfw
  have kb : u3.heap[w.heap.size]? = some (.cells #[.string (recOf x).key, .int .i64 (recOf x).num, .int .i64 (recOf x).tm, .int .i64 (idOf x)] 40 (0, 0)) := (b3.block _ hbxl).trans hbx
  have g0 : u3.cell? ⟨w.heap.size, 0, none⟩ = some (.string (recOf x).key) := by simp [World.cell?, kb]
  have g1 : u3.cell? ⟨w.heap.size, 1, none⟩ = some (.int .i64 (recOf x).num) := by simp [World.cell?, kb]
  have g2 : u3.cell? ⟨w.heap.size, 2, none⟩ = some (.int .i64 (recOf x).tm) := by simp [World.cell?, kb]
  have g3 : u3.cell? ⟨w.heap.size, 3, none⟩ = some (.int .i64 (idOf x)) := by simp [World.cell?, kb]
  have hkl := some_lt kb
  have hM3 := cell_lt f0
  have HRn := Lib.hid hrun
  clear HE HR hrun hrw own1 b3 b4 b5 kb hbx c0 e0 hfw hx
  generalize (recOf x).key = k0 at *
  generalize (recOf x).num = n0 at *
  generalize (recOf x).tm = t0 at *
  generalize idOf x = id0 at *
  generalize l.length = ll at *
  go_wp2_with fail
  go_region_law (refine step_append_run (by rfl) _ _ _ (by rfl) _ _ _ _ (by rfl) (by rfl) (by exact HRn.out) ?_)
  all_goals
    go_wp2_with fail
    go_ret
    exact ⟨rfl, HX.out⟩
set_option maxRecDepth 100000 in
set_option maxHeartbeats 2000000 in
theorem mbar_ord (h : MgB lo w M WB LB us g) (i n : Nat) (l : List Itm) (hgn : g.ws.length = n) (hgl : g.ws.getD i [] = l) (hi : i < n) (id : Int) (hid : 1 ≤ id) (hl : l.length < 400) (ho : id ≤ g.last.getD i 0) :
    Calls Tryd.prog 7 #[.pointer (some ⟨M, 0, none⟩), .int .i64 i, itV (.bar id), .bool true] w fun e w' => e = .returned (.int .i64 5) ∧ Below w.heap.size w w' := by
  have hiI : (i : Int) < (n : Int) := by omega
  have q0 : ¬ (i : Int) < 0 := by omega
  have q1 : ¬ (n : Int) ≤ (i : Int) := by omega
  have q2 : ¬ id < 1 := by omega
  have hl4 : ¬ (400 : Int) ≤ (l.length : Int) := by omega
  have bb : Below w.heap.size w (w.alloc (.cells #[.string ⟨#[]⟩, .int .i64 0, .int .i64 0, .int .i64 id] 40)) := (Below.refl _ _).alloc (Nat.le_refl _) _
  have hbx : (w.alloc (.cells #[.string ⟨#[]⟩, .int .i64 0, .int .i64 0, .int .i64 id] 40)).heap[w.heap.size]? = some (.cells #[.string ⟨#[]⟩, .int .i64 0, .int .i64 0, .int .i64 id] 40 (0, 0)) := heap_alloc_new w _
  have hlo := h.lo'
  have hU := h.keep bb
  have k0 := hU.c0
  have k1 := hU.c1
  have k2 := hU.l0 (i := i) (by omega)
  have k3 := hU.w0 (i := i) (by omega)
  obtain ⟨kp, kc, kv, -⟩ := hU.own i (by omega)
  rw [kv, hgl] at k3
  rw [hgn] at k0 k1
  have kb : (w.alloc (.cells #[.string ⟨#[]⟩, .int .i64 0, .int .i64 0, .int .i64 id] 40)).cell? ⟨w.heap.size, 3, none⟩ = some (.int .i64 id) := by simp
  generalize g.last.getD i 0 = la at *
  clear h hU hgn hgl hbx kv
  show Calls Tryd.prog 7 #[.pointer (some ⟨M, 0, none⟩), .int .i64 i, .agg #[.string ⟨#[]⟩, .int .i64 0, .int .i64 0, .int .i64 id], .bool true] w _
  generalize l.length = ll at *
  go_enter Tryd.func7, Tryd.ntmps7
  generalize hu : w.alloc (.cells #[.string ⟨#[]⟩, .int .i64 0, .int .i64 0, .int .i64 id] 40) = u at *
  go_wp2_with fail
  go_quiet (fail)
  go_wp2_with fail
  go_ret
  exact ⟨rfl, ⟨bb.os, bb.tape, bb.output, bb.size, bb.block⟩⟩
set_option maxRecDepth 100000 in
set_option maxHeartbeats 2000000 in
theorem mbar_ok (h : MgB lo w M WB LB us g) (i n : Nat) (l : List Itm) (hgn : g.ws.length = n) (hgl : g.ws.getD i [] = l) (hi : i < n) (id : Int) (hid : 1 ≤ id) (hl : l.length < 400) (ho : g.last.getD i 0 < id) :
    Calls Tryd.prog 7 #[.pointer (some ⟨M, 0, none⟩), .int .i64 i, itV (.bar id), .bool true] w fun e w' => e = .returned (.int .i64 0) ∧ (∃ us', MgB lo w' M WB LB us' (putG (lastG g i id) i (.bar id))) ∧ FrD lo w w' := by
  have hiI : (i : Int) < (n : Int) := by omega
  have q0 : ¬ (i : Int) < 0 := by omega
  have q1 : ¬ (n : Int) ≤ (i : Int) := by omega
  have q2 : ¬ id < 1 := by omega
  have hl4 : ¬ (400 : Int) ≤ (l.length : Int) := by omega
  have bb : Below w.heap.size w (w.alloc (.cells #[.string ⟨#[]⟩, .int .i64 0, .int .i64 0, .int .i64 id] 40)) := (Below.refl _ _).alloc (Nat.le_refl _) _
  have hbx : (w.alloc (.cells #[.string ⟨#[]⟩, .int .i64 0, .int .i64 0, .int .i64 id] 40)).heap[w.heap.size]? = some (.cells #[.string ⟨#[]⟩, .int .i64 0, .int .i64 0, .int .i64 id] 40 (0, 0)) := heap_alloc_new w _
  have hlo := h.lo'
  have hU := h.keep bb
  have k0 := hU.c0
  have k1 := hU.c1
  have k2 := hU.l0 (i := i) (by omega)
  have k3 := hU.w0 (i := i) (by omega)
  obtain ⟨kp, kc, kv, -⟩ := hU.own i (by omega)
  rw [kv, hgl] at k3
  rw [hgn] at k0 k1
  have kb : (w.alloc (.cells #[.string ⟨#[]⟩, .int .i64 0, .int .i64 0, .int .i64 id] 40)).cell? ⟨w.heap.size, 3, none⟩ = some (.int .i64 id) := by simp
  have ho' : ¬ id ≤ g.last.getD i 0 := by omega
  have HU := Lib.hid hU
  have HG := Lib.hid (show g.ws.length = n ∧ g.ws.getD i [] = l from ⟨hgn, hgl⟩)
  generalize g.last.getD i 0 = la at *
  clear h hU hgn hgl kv
  show Calls Tryd.prog 7 #[.pointer (some ⟨M, 0, none⟩), .int .i64 i, .agg #[.string ⟨#[]⟩, .int .i64 0, .int .i64 0, .int .i64 id], .bool true] w _
  go_enter Tryd.func7, Tryd.ntmps7
  generalize hu : w.alloc (.cells #[.string ⟨#[]⟩, .int .i64 0, .int .i64 0, .int .i64 id] 40) = u at *
  have HBX := Lib.hid hbx
  clear hbx
  go_wp2_with fail
  go_quiet (fail)
  clear hu
  have bq : Below u.heap.size u (u.drewN nq).drew := ⟨rfl, rfl, rfl, Nat.le_refl _, fun _ _ => rfl⟩
  have hUq := HU.out.keep bq
  have bbq : Below w.heap.size w (u.drewN nq).drew := bb.trans (bq.mono bb.size)
  have hbxq : (u.drewN nq).drew.heap[w.heap.size]? = some (.cells #[.string ⟨#[]⟩, .int .i64 0, .int .i64 0, .int .i64 id] 40 (0, 0)) := HBX.out
  obtain ⟨hS, hSF⟩ := hUq.setLast (i := i) (by have := HG.out.1; omega) id
  have hbx : ((u.drewN nq).drew.setCell ⟨LB, i, none⟩ (.int .i64 id)).heap[w.heap.size]? = some (.cells #[.string ⟨#[]⟩, .int .i64 0, .int .i64 0, .int .i64 id] 40 (0, 0)) := by
    rw [Below.heap_setCell _ _ _ _ (I_other hUq.tL hbxq)]; exact hbxq
  obtain ⟨p, c, c0, e0, hr, hfw, hMl, hWl, hE⟩ := push_tail hS (i := i) (n := n) (l := l) HG.out.1 HG.out.2 hi (.bar id) (fun id' e => by injection e with e; omega) hl
  have HE := Lib.hid (fun u4 v' b5 hrw => (⟨(hE u4 v' b5 hrw).1, ((FrD.below bbq hlo).trans hSF).trans (hE u4 v' b5 hrw).2⟩ : (∃ us', MgB lo (u4.setCell ⟨WB, i, none⟩ v') M WB LB us' (putG (lastG g i id) i (.bar id))) ∧ FrD lo w (u4.setCell ⟨WB, i, none⟩ v')))
  have hLf := hUq.fL i
  have HBX2 := Lib.hid hbx
  have HR0 := Lib.hid hr
  have HC := Lib.hid (And.intro c0 (And.intro e0 hfw))
  have HM := Lib.hid (And.intro hMl hWl)
  clear hE hS hSF bq bb bbq hUq HU HBX hbxq hbx hr c0 e0 hfw hMl hWl HG
  have k1q : (u.drewN nq).cell? ⟨M, 1, none⟩ = some (.slice (some ⟨LB, 0, none⟩) n n) := k1
  have k2q : (u.drewN nq).cell? ⟨LB, i, none⟩ = some (.int .i64 la) := k2
  have k4q : (u.drewN nq).frozen? ⟨LB, i, none⟩ = false := hLf
  have kbq : (u.drewN nq).cell? ⟨w.heap.size, 3, none⟩ = some (.int .i64 id) := kb
  generalize u.drewN nq = uq at *
  clear k0 k1 k2 k3 kb
  go_wp2_with fail
  go_region
  all_goals
    rw [show (uq.setCell ⟨LB, i, none⟩ (.int .i64 id)).drew = uq.drew.setCell ⟨LB, i, none⟩ (.int .i64 id) from rfl]
    generalize uq.drew.setCell ⟨LB, i, none⟩ (.int .i64 id) = u at *
    clear k1q k2q k4q kbq hLf
    have hbx := HBX2.out
    have hr := HR0.out
    obtain ⟨c0, e0, hfw⟩ := HC.out
    obtain ⟨hMl, hWl⟩ := HM.out
    clear HBX2 HR0 HC HM
    have hbxl := some_lt hbx
    have HR := Lib.hid hr
    clear hr
    go_wp2_with (at_builtin; refine append_it (by rfl) _ _ (by rfl) l p l.length c (by rfl) (by rfl) HR.out (by omega) ?_; intro v1 u3 own1 b3; refine Hid.out ?_)
    refine Lib.hid ?_
    obtain ⟨g', cap', u4, hrun, hrw, b4⟩ := push_run (.bar id) b3.size own1 hl
    simp only [recOf, idOf] at hrun
    have b5 : Below u.heap.size u u4 := b3.trans b4
    have HX := Lib.hid (HE.out _ _ b5 hrw)
    have f0 := (b3.cell (p := ⟨M, 0, none⟩) hMl).trans c0
    have f1 := (b5.cell (p := ⟨WB, i, none⟩) hWl).trans e0
    have f5 := (b5.cell (p := ⟨M, 0, none⟩) hMl).trans c0
    have f2 := (b5.frozen (p := ⟨WB, i, none⟩) hWl).trans hfw
    have kb : u3.heap[w.heap.size]? = some (.cells #[.string ⟨#[]⟩, .int .i64 0, .int .i64 0, .int .i64 id] 40 (0, 0)) := (b3.block _ hbxl).trans hbx
    have g0 : u3.cell? ⟨w.heap.size, 0, none⟩ = some (.string ⟨#[]⟩) := by simp [World.cell?, kb]
    have g1 : u3.cell? ⟨w.heap.size, 1, none⟩ = some (.int .i64 0) := by simp [World.cell?, kb]
    have g2 : u3.cell? ⟨w.heap.size, 2, none⟩ = some (.int .i64 0) := by simp [World.cell?, kb]
    have g3 : u3.cell? ⟨w.heap.size, 3, none⟩ = some (.int .i64 id) := by simp [World.cell?, kb]
    have hkl := some_lt kb
    have hM3 := cell_lt f0
    have HRn := Lib.hid hrun
    clear HE HR hrun hrw own1 b3 b4 b5 kb hbx c0 e0 hfw
    generalize l.length = ll at *
    go_wp2_with fail
    go_region_law (refine step_append_run (by rfl) _ _ _ (by rfl) _ _ _ _ (by rfl) (by rfl) (by exact HRn.out) ?_)
    all_goals
      go_wp2_with fail
      go_ret
      exact ⟨rfl, HX.out⟩
end
end Go.Proofs.YtneglanmigifhaaDoor
