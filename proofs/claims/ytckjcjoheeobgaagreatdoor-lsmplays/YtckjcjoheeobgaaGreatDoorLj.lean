/- Tables. -/
import Derived.Test.YtckjcjoheeobgaaGreatDoorLi
import Derived.Stop.RegionWithIn
namespace Go.Proofs.YtckjcjoheeobgaaGreatDoor
open Go.RowKit Go.Shelf
set_option linter.unusedVariables false

attribute [local go_sem] Oper.semAt_some

section
variable {lo : Nat} {w w' : World} {S Ml Mf : Nat} {v v1 : Value} {s : Sto}

/-- append, as one step of a region within a round. -/
theorem stepIn_append {F : Fence} {n : Nat} {P : Program} {ops : Array Oper} {o : Oper} {a : Act} {w : World} {K : Act → World → Prop} {Q : Exit → Act → World → Prop} {E : Prop} (hg : o.guard = none) (s x : Operand) (t : TypeId)
    (hop : o.op = .call { callee := .builtin .append, args := #[s, x], argTypes := #[t, t] }) (v1 v2 r : Value) (w' : World) (hs : a.eval s = v1) (hx : a.eval x = v2) (hrun : (Builtin.append_ #[t, t] o.type #[v1, v2]).run P w = .ok r w') (h : K (a.put o.dst r) w') :
    if Region.wanted o (yielded ops a.tmps) = true then Oper.wpIn F n P o a w K Q else E := by
  have hw : Region.wanted o (yielded ops a.tmps) = true := by simp [Region.wanted, hg]
  rw [if_pos hw]
  unfold Oper.wpIn
  refine ⟨?_, ?_⟩
  · simp [Oper.about, hop, resolve, Target.leads, Sem.run_pure]
  · rw [Oper.semAt_plain F _ _ (by rw [hop]; intro c hc'; cases hc')]
    simp [execOp, hop, resolve, invoke, builtin, hs, hx, hrun, Result.andThen]
    exact h

/-- What was gathered so far. -/
def Gath {Ok : Tab → Prop} (w : World) (pre : List (Bt Ok)) (W : World) : Prop := ∃ (A : Option Addr) (cap : Nat) (T : List Tab), W.heap[w.heap.size]? = some (.cells #[.slice A pre.length cap] 50 (0, 0)) ∧ W.ownsRow (w.heap.size + 2) 56 1 (.slice A pre.length cap) pre.length (T.map tabV) ∧ T.map (·.2.2) = pre.map (·.t.2.2) ∧ (∀ t ∈ T, TabOk W t ∧ LyAt W t.1 5) ∧ Below w.heap.size w W ∧ w.heap.size + 2 ≤ W.heap.size

theorem Gath.cell {Ok : Tab → Prop} {pre : List (Bt Ok)} {W : World} {A : Option Addr} {cap : Nat} (h : W.heap[w.heap.size]? = some (.cells #[.slice A pre.length cap] 50 (0, 0))) : W.cell? ⟨w.heap.size, 0, none⟩ = some (.slice A pre.length cap) ∧ W.frozen? ⟨w.heap.size, 0, none⟩ = false :=
  ⟨by simp [World.cell?, h], by simp [World.frozen?, h]⟩
/-- One more. -/
theorem gath_step {Ok : Tab → Prop} {pre : List (Bt Ok)} {x : Bt Ok} {W u1 : World} {A : Option Addr} {cap g : Nat} {T : List Tab} {u : Tab} (hg : g < w.heap.size ∨ g = w.heap.size + 1 ∨ g ≤ w.heap.size + 1)
    (g1 : W.heap[w.heap.size]? = some (.cells #[.slice A pre.length cap] 50 (0, 0))) (g2 : W.ownsRow (w.heap.size + 2) 56 1 (.slice A pre.length cap) pre.length (T.map tabV)) (g3 : T.map (·.2.2) = pre.map (·.t.2.2)) (g4 : ∀ t ∈ T, TabOk W t ∧ LyAt W t.1 5) (g5 : Below w.heap.size w W) (g6 : w.heap.size + 2 ≤ W.heap.size)
    (hlen : pre.length ≤ 100000) (hul : u.2.2 = x.t.2.2) (huk : TabOk u1 u) (huy : LyAt u1 u.1 5) (hub : Below W.heap.size W u1) :
    ∃ A' cap' w3, (Builtin.append_ #[50, 50] 50 #[.slice A pre.length cap, .slice (some ⟨u1.heap.size, 0, none⟩) 1 1]).run Tryz.prog (u1.alloc (.cells #[tabV u] 56)) = .ok (.slice A' (pre.length + 1) cap') w3 ∧
      w3.cell? ⟨w.heap.size, 0, none⟩ = some (.slice A pre.length cap) ∧ w3.frozen? ⟨w.heap.size, 0, none⟩ = false ∧ Gath w (pre ++ [x]) (w3.setCell ⟨w.heap.size, 0, none⟩ (.slice A' (pre.length + 1) cap')) ∧ KeepsFrom (w.heap.size + 2) W (w3.setCell ⟨w.heap.size, 0, none⟩ (.slice A' (pre.length + 1) cap')) ∧
      (∀ k, k < w.heap.size + 2 → k ≠ w.heap.size → (w3.setCell ⟨w.heap.size, 0, none⟩ (.slice A' (pre.length + 1) cap')).heap[k]? = W.heap[k]?) := by
  obtain ⟨i0, hi, hz0, hz1, hz2⟩ := info_parts infoBs
  have bA : Below W.heap.size W (u1.alloc (.cells #[tabV u] 56)) := hub.alloc hub.size _
  have o1 : (u1.alloc (.cells #[tabV u] 56)).ownsRow (w.heap.size + 2) 56 1 (.slice A pre.length cap) pre.length (T.map tabV) := own_row g2 (fun k cur hc => bA.block k (some_lt hc))
  have zu := hub.size
  obtain ⟨v', w3, hrun, own3, gr3, -, at3⟩ := run_append_own_at (P := Tryz.prog) (w := u1.alloc (.cells #[tabV u] 56)) (w.heap.size + 2) 50 50 56 i0 (.slice none 0 0) 1 24 Tryz.underlying50 hi hz0 hz1 hz2 rfl (by decide) (.slice A pre.length cap) pre.length (T.map tabV) o1 ⟨u1.heap.size, 0, none⟩ 1 1 [tabV u] rfl (cell_one_new _ _ _) (by intro u' hu; simp at hu; subst hu; rfl) (by unfold maxLen; omega) (by omega) (by simp; omega)
  obtain ⟨A', cap', rfl⟩ := row_slice own3
  have hrb : ∀ b, (Value.slice A pre.length cap).ownBlock = some b → w.heap.size + 2 ≤ b ∧ ∃ cur, W.heap[b]? = some (.cells cur 56 (0, 0)) := fun b hb => by
    rcases g2.2 with ⟨h0, -⟩ | ⟨g', cap', cur, h0, hb', hc, -⟩
    · rw [h0] at hb; simp [Value.ownBlock] at hb
    · rw [h0] at hb; simp [Value.ownBlock] at hb; subst hb; exact ⟨hb', cur, hc⟩
  have hbk : ∀ k, k < W.heap.size → (Value.slice A pre.length cap).ownBlock ≠ some k → w3.heap[k]? = W.heap[k]? := fun k hk hn => (gr3.block k (by have := bA.size; omega) (fun e => hn e.symm)).trans (bA.block k hk)
  have hlow : ∀ k, k < w.heap.size + 2 → w3.heap[k]? = W.heap[k]? := fun k hk => hbk k (by omega) (fun e => by have := (hrb k e).1; omega)
  have b3 : w3.heap[w.heap.size]? = some (.cells #[.slice A pre.length cap] 50 (0, 0)) := (hlow _ (by omega)).trans g1
  have hset : ∀ k, k ≠ w.heap.size → (w3.setCell ⟨w.heap.size, 0, none⟩ (.slice A' (pre.length + 1) cap')).heap[k]? = w3.heap[k]? := fun k hk => Below.heap_setCell _ _ _ _ hk
  have hne : ∀ (k : Nat) (cur : Array Value) (e : TypeId), w3.heap[k]? = some (.cells cur e (0, 0)) → e = 5 ∨ e = 56 → k ≠ w.heap.size := fun k cur e hc he e' => by
    subst e'; rw [b3] at hc; injection hc with hc; injection hc with _ hc; subst hc
    rcases he with he | he <;> revert he <;> decide
  have hu8 : ∀ (k : Nat) (cur : Array Value), (u1.alloc (.cells #[tabV u] 56)).heap[k]? = some (.cells cur 5 (0, 0)) → (w3.setCell ⟨w.heap.size, 0, none⟩ (.slice A' (pre.length + 1) cap')).heap[k]? = (u1.alloc (.cells #[tabV u] 56)).heap[k]? := fun k cur hc => by
    have e1 : w3.heap[k]? = (u1.alloc (.cells #[tabV u] 56)).heap[k]? := gr3.block k (some_lt hc) (fun e => by
      obtain ⟨h1, cur', h2⟩ := hrb k e.symm
      rw [bA.block k (some_lt h2), h2] at hc
      injection hc with hc; injection hc with _ hc; revert hc; decide)
    rw [hset k (hne k cur _ (e1.trans hc) (.inl rfl)), e1]
  have bU : Below u1.heap.size u1 (u1.alloc (.cells #[tabV u] 56)) := (Below.refl _ _).alloc (Nat.le_refl _) _
  refine ⟨A', cap', w3, hrun, by simp [World.cell?, b3], by simp [World.frozen?, b3], ⟨A', cap', T ++ [u], ?_, ?_, ?_, ?_, ?_, ?_⟩, ⟨?_, ?_⟩, ?_⟩
  · rw [List.length_append]
    simp [World.setCell, Array.getElem?_modify, b3]
  · rw [List.length_append, List.map_append]
    exact own_row own3 (fun k cur hc => hset k (hne k cur _ hc (.inr rfl)))
  · rw [List.map_append, List.map_append, g3]
    simp [hul]
  · intro t ht
    rcases List.mem_append.1 ht with h1 | h1
    · have k1 := (g4 t h1).1.keep bA
      have k2 := (g4 t h1).2.below bA
      exact ⟨k1.block k2 hu8, k2.block hu8⟩
    · simp at h1; subst h1
      have k1 := huk.keep bU
      have k2 := huy.below bU
      exact ⟨k1.block k2 hu8, k2.block hu8⟩
  · refine ⟨gr3.os.trans (bA.os.trans g5.os), gr3.tape.trans (bA.tape.trans g5.tape), gr3.output.trans (bA.output.trans g5.output), ?_, fun k hk => ?_⟩
    · have h1 := gr3.size; have h2 := bA.size; have h3 := g5.size; simp at h1 h2 ⊢; omega
    · rw [hset k (by omega), hlow k (by omega)]; exact g5.block k hk
  · have h1 := gr3.size; have h2 := bA.size; simp at h1 h2 ⊢; omega
  · have h1 := gr3.size; have h2 := bA.size; simp at h1 h2 ⊢; omega
  · intro k o hk1 hk2 hk3
    rw [hset k (by omega), hbk k (some_lt hk2) (fun e => by obtain ⟨-, cur, h2⟩ := hrb k e; rw [h2] at hk2; injection hk2 with hk2; subst hk2; cases hk3)]
    exact hk2
  · intro k hk hne'
    rw [hset k hne']; exact hlow k hk

set_option maxRecDepth 100000 in
set_option maxHeartbeats 4000000 in
theorem tables_any (h : StAt lo w S Ml Mf v s) (hn : s.tabs.length ≤ 100000) :
    Calls Tryz.prog 21 #[.pointer (some ⟨S, 0, none⟩)] w fun e w' => ∃ (A : Option Addr) (cap : Nat) (T : List Tab), e = .returned (.slice A T.length cap) ∧ CsAt w' A (T.map tabV) ∧ T.map (·.2.2) = s.tabs.reverse.map buildB ∧ (∀ t ∈ T, TabOk w' t) ∧ Below w.heap.size w w' := by
  obtain ⟨c0, c1, c2, c3⟩ := h.cell
  have lS := h.lt.1
  obtain ⟨T0, hrow, hTm, hTok⟩ := h.tabs
  have hTl : T0.length = s.tabs.length := by have := congrArg List.length hTm; simpa using this
  obtain ⟨A0, cap0, rfl⟩ := row_slice hrow
  obtain ⟨i0, hi, hz0, hz1, hz2⟩ := info_parts infoBs
  have hCs := (own_cs hrow (by simp)).1
  have hcl := (own_cs hrow (by simp)).2
  obtain ⟨g, hgs, hg⟩ : ∃ g, g < w.heap.size ∧ (T0 ≠ [] → g < w.heap.size ∧ ∃ off, A0 = some ⟨g, off, none⟩ ∧ ∀ j (hj : j < T0.length), w.cell? ⟨g, off + j, none⟩ = some (tabV T0[j])) := by
    rcases hCs with hC | ⟨b, o, e, hC⟩
    · exact ⟨0, by omega, fun hne => absurd (List.map_eq_nil_iff.1 hC) hne⟩
    · by_cases hne : T0 = []
      · exact ⟨0, by omega, fun h => absurd hne h⟩
      have hpos : 0 < T0.length := by
        rcases Nat.eq_zero_or_pos T0.length with h0 | h0
        · exact absurd (List.length_eq_zero_iff.1 h0) hne
        · exact h0
      have hc : ∀ j (hj : j < T0.length), w.cell? ⟨b, o + j, none⟩ = some (tabV T0[j]) := fun j hj => hC j _ (by simp [hj])
      exact ⟨b, cell_lt (hc 0 hpos), fun _ => ⟨cell_lt (hc 0 hpos), o, e, hc⟩⟩
  obtain ⟨xs, hxl, hxa, hxm⟩ : ∃ xs : List (Bt (TabOk w)), xs.length = T0.length ∧ (∀ j (hj : j < xs.length) (hj' : j < T0.length), xs[j].i = j ∧ xs[j].t = T0[j]) ∧ xs.map (·.t) = T0 := ⟨btOf T0 (fun t ht => (hTok t ht).1), btOf_len, fun j hj _ => btOf_at j hj, btOf_map⟩
  have HTm := Lib.hid hTm
  have HTl := Lib.hid hTl
  rw [hTl] at hcl
  clear hTm hrow hCs h
  rw [hTl] at c3
  clear hTl
  refine (callsIn_wide (n := 4)).1 ?_
  have f6 : Fence.wide.fn 37 := trivial
  refine callsIn_of_wp_marks Tryz.func21 rfl trivial ?_ rfl
  simp only [Tryz.ntmps21, List.size_toArray, List.length_cons, List.length_nil, Nat.reduceAdd, Nat.reduceSub, Array.replicate_succ, Array.replicate_zero, List.push_toArray, List.append_toArray, List.nil_append, List.cons_append]
  gi_wp2_with (gi_at_call 37; refine (tback_in Fence.wide 3 trivial rfl _ _ _ _).mono ?_; rintro e w' ⟨rfl, rfl⟩)
  have B2 : Below w.heap.size w ((w.alloc (.cells #[.slice none 0 0] 50)).alloc (.cells #[.slice A0 s.tabs.length cap0] 50)) := ((Below.refl _ w).alloc (Nat.le_refl _) _).alloc (by simp) _
  have z2 : ((w.alloc (.cells #[.slice none 0 0] 50)).alloc (.cells #[.slice A0 s.tabs.length cap0] 50)).heap.size = w.heap.size + 2 := by simp
  have b0 : ((w.alloc (.cells #[.slice none 0 0] 50)).alloc (.cells #[.slice A0 s.tabs.length cap0] 50)).heap[w.heap.size]? = some (.cells #[.slice none 0 0] 50 (0, 0)) := (Below.heap_alloc _ _ _ (by simp)).trans (MapKept.heap_alloc w _).1
  have hcB : ((w.alloc (.cells #[.slice none 0 0] 50)).alloc (.cells #[.slice A0 s.tabs.length cap0] 50)).cell? ⟨w.heap.size + 1, 0, none⟩ = some (.slice A0 (xs).length cap0) := by rw [hxl, HTl.out]; simp [go_sem]
  have hFS : BtSl g ((w.alloc (.cells #[.slice none 0 0] 50)).alloc (.cells #[.slice A0 s.tabs.length cap0] 50)) A0 (xs) := by
    by_cases hne : T0 = []
    · exact .inl (List.length_eq_zero_iff.1 (by rw [hxl, hne]; rfl))
    · obtain ⟨hgl, off, e, hc⟩ := hg hne
      refine .inr ⟨off, e, fun j hj => ⟨(hxa j hj (by omega)).1, ?_⟩⟩
      rw [B2.cell (p := ⟨g, off + j, none⟩) hgl, (hxa j hj (by omega)).2]
      exact hc j _
  have hgl : xs ≠ [] → g < w.heap.size := fun hne => (hg (fun e => hne (List.length_eq_zero_iff.1 (by rw [hxl, e]; rfl)))).1
  generalize ((w.alloc (.cells #[.slice none 0 0] 50)).alloc (.cells #[.slice A0 s.tabs.length cap0] 50)) = w2 at *
  have h1 : 1 ≤ 4 := by omega
  refine wpIn_rangeFunc_ownH (F := Fence.wide) (n := 4) (encs := encBt) rfl h1 (gf := 52) (lb := #[.pointer (some ⟨w.heap.size + 1, 0, none⟩)]) rfl trivial (enters_of Tryz.func52 (by kernel_rfl) rfl)
    (tback_stops Fence.wide 3 trivial rfl (by omega) (w.heap.size + 1) g cap0 A0 (xs) (by rw [hxl, HTl.out]; omega) _ (by omega) (fun hne => by have := hgl hne; omega) hcB hFS) (fun h k => Kq.trans h k) ?hKb (Below.refl _ _) (fun _ => rfl)
    (Gath w)
    (fun _ _ _ => False) ?hI (fun _ _ _ _ _ hs _ _ => hs) ?h0
    (fun x a' W => a' = { tmps := #[.pointer (some ⟨S, 0, none⟩), undef, .slice none 0 0, .pointer (some ⟨w.heap.size, 0, none⟩), undef, tabV x.t, .pointer (some ⟨S, 0, none⟩), .pointer (some ⟨S, 0, none⟩), .pointer (some ⟨S, 3, none⟩), .slice A0 s.tabs.length cap0, .func (.func 52) #[] #[.pointer (some ⟨w.heap.size + 1, 0, none⟩)], .int .i64 (x.i : Int), tabV x.t, undef, undef, undef, undef, undef, undef], defers := [] }) ?hAx ?assign ?body ?done ?stop
  case hKb => exact fun W l o o' hl _ _ _ k hk => World.putObj_heap_other (by rcases hk with hk | hk <;> omega)
  case hI =>
    intro p A' B' row hs hg' hr
    obtain ⟨A, cap, T, g1, g2, g3, g4, g5, g6⟩ := hs
    have hr' : ∀ r, row = some r → ∃ o : Obj, A'.heap[r]? = some o ∧ o.isCells = false := fun r e => (hr r e).2
    have hrw : ∀ r, row = some r → w.heap.size + 2 ≤ r := fun r e => by have := (hr r e).1; omega
    refine ⟨A, cap, T, (tabs_grown hg' hr' _ _ _ g1).trans g1, own_row g2 (fun k cur hc => tabs_grown hg' hr' k cur _ hc), g3, fun t ht => ⟨(g4 t ht).1.block (g4 t ht).2 (fun k cur hc => tabs_grown hg' hr' k cur _ hc), (g4 t ht).2.block (fun k cur hc => tabs_grown hg' hr' k cur _ hc)⟩, ⟨hg'.os.trans g5.os, hg'.tape.trans g5.tape, hg'.output.trans g5.output, Nat.le_trans g5.size hg'.size, fun k hk => ?_⟩, Nat.le_trans g6 hg'.size⟩
    exact (hg'.block k (Nat.lt_of_lt_of_le hk g5.size) (fun e => by have := hrw k e.symm; omega)).trans (g5.block k hk)
  case h0 => exact ⟨none, 0, [], b0, World.ownsRow_nil _ _ _ _, rfl, by simp, B2, by omega⟩
  case hAx => exact fun x a' s A' B' row hs _ _ => hs
  case assign =>
    intro l pre x W K hi hK
    unfold encBt
    gi_wp2
    exact hK _ _ (KeepsFrom.refl _ _) (Kq.refl _ _ _) hi rfl
  case body =>
    rintro l pre x a' W hl ⟨r, hr⟩ ⟨A, cap, T, g1, g2, g3, g4, g5, g6⟩ rfl hlt
    obtain ⟨k0, k1⟩ := Gath.cell g1
    have hokW : TabOk W x.t := x.ok.keep g5
    have hpl : pre.length ≤ 100000 := by have := HTl.out; omega
    have HG := Lib.hid (fun (u1 : World) (u : Tab) (a : u.2.2 = x.t.2.2) (b : TabOk u1 u) (c : LyAt u1 u.1 5) (d : Below W.heap.size W u1) => gath_step (g := 0) (x := x) (.inr (.inr (Nat.zero_le _))) g1 g2 g3 g4 g5 g6 hpl a b c d)
    have HBC := Lib.hid (fun (u1 : World) (hb : Below W.heap.size W u1) => hb.cell (p := ⟨w.heap.size, 0, none⟩) (show w.heap.size < W.heap.size by omega))
    have hfn : (Fence.wide.inRound l).fn 38 := trivial
    have hfw : Fence.wide.fn 38 := trivial
    clear g1 g2 g3 g4
    obtain ⟨xi, ⟨tp, tc, tl⟩, xok⟩ := x
    have HCl := Lib.hid (bclone_any W.drew (tp, tc, tl) hokW)
    simp only [tabV] at *
    gi_wp2_with fail
    refine wpIn_region_any (by kernel_rfl) ?_
    try (change wpAnyIn _ _ _ _ _ _ _ _ _ (World.drew _))
    refine wpAnyIn_ready (rs := [0, 1]) (by kernel_rfl) (by simp) ?_
    refine AllReadyIn.cons rfl (fun K hK => ?_) ?_
    · go_simp
      refine hK _ _ ?_
      clear hK K
      refine wpAnyIn_ready (rs := [1]) (by kernel_rfl) (by simp) ?_
      refine AllReadyIn.cons rfl (fun K hK => ?_) AllReadyIn.nil
      go_simp
      refine hK _ _ ?_
      clear hK K
      refine wpAnyIn_ready (rs := [2]) (by kernel_rfl) (by simp) ?_
      refine AllReadyIn.cons rfl (fun K hK => ?_) AllReadyIn.nil
      go_simp
      gi_wp2_with (gi_at_call 38; refine (CallsIn.inRound l (callsIn_wide.2 HCl.out)).mono ?_; rintro e u1 ⟨⟨ua, uc, ul⟩, rfl, hul, huk, huy, hub⟩; obtain rfl : ul = tl := hul; have hul := Lib.hid (rfl : ul = ul))
      obtain ⟨A', cap', w3, hrun, k3, k4, hG, hKp, hKq⟩ := HG.out u1 (ua, uc, ul) rfl huk huy ⟨hub.os, hub.tape, hub.output, hub.size, hub.block⟩
      have ku := HBC.out u1 ⟨hub.os, hub.tape, hub.output, hub.size, hub.block⟩
      rw [k0] at ku
      have kl1 : w.heap.size < u1.heap.size := by have := hub.size; have : W.drew.heap.size = W.heap.size := rfl; omega
      dsimp only at hrun
      have HR := Lib.hid hrun
      have HGa := Lib.hid hG
      have HKp := Lib.hid hKp
      have HKq := Lib.hid hKq
      clear hG hKp hKq hul huk huy hub hrun
      refine wpAnyIn_ready (rs := [3]) (by kernel_rfl) (by simp) ?_
      refine AllReadyIn.cons rfl (fun K hK => ?_) AllReadyIn.nil
      go_simp
      refine hK _ _ ?_
      clear hK K
      refine wpAnyIn_ready (rs := [4]) (by kernel_rfl) (by simp) ?_
      refine AllReadyIn.cons rfl (fun K hK => ?_) AllReadyIn.nil
      refine stepIn_append rfl _ _ _ rfl _ _ _ _ rfl rfl (by exact HR.out) ?_
      refine hK _ _ ?_
      clear hK K
      refine wpAnyIn_ready (rs := [5]) (by kernel_rfl) (by simp) ?_
      refine AllReadyIn.cons rfl (fun K hK => ?_) AllReadyIn.nil
      go_simp
      refine hK _ _ ?_
      clear hK K
      refine wpAnyIn_done (by kernel_rfl) ?_ _
      (gi_wp2; exact ⟨by rw [z2]; exact HKp.out, fun k hk => HKq.out k (by rcases hk with hk | hk <;> omega) (by rcases hk with hk | hk <;> omega), HGa.out⟩)
    refine AllReadyIn.cons rfl (fun K hK => ?_) AllReadyIn.nil
    go_simp
    refine hK _ _ ?_
    clear hK K
    refine wpAnyIn_ready (rs := [0, 2]) (by kernel_rfl) (by simp) ?_
    refine AllReadyIn.cons rfl (fun K hK => ?_) ?_
    · go_simp
      refine hK _ _ ?_
      clear hK K
      refine wpAnyIn_ready (rs := [2]) (by kernel_rfl) (by simp) ?_
      refine AllReadyIn.cons rfl (fun K hK => ?_) AllReadyIn.nil
      go_simp
      gi_wp2_with (gi_at_call 38; refine (CallsIn.inRound l (callsIn_wide.2 HCl.out)).mono ?_; rintro e u1 ⟨⟨ua, uc, ul⟩, rfl, hul, huk, huy, hub⟩; obtain rfl : ul = tl := hul; have hul := Lib.hid (rfl : ul = ul))
      obtain ⟨A', cap', w3, hrun, k3, k4, hG, hKp, hKq⟩ := HG.out u1 (ua, uc, ul) rfl huk huy ⟨hub.os, hub.tape, hub.output, hub.size, hub.block⟩
      have ku := HBC.out u1 ⟨hub.os, hub.tape, hub.output, hub.size, hub.block⟩
      rw [k0] at ku
      have kl1 : w.heap.size < u1.heap.size := by have := hub.size; have : W.drew.heap.size = W.heap.size := rfl; omega
      dsimp only at hrun
      have HR := Lib.hid hrun
      have HGa := Lib.hid hG
      have HKp := Lib.hid hKp
      have HKq := Lib.hid hKq
      clear hG hKp hKq hul huk huy hub hrun
      refine wpAnyIn_ready (rs := [3]) (by kernel_rfl) (by simp) ?_
      refine AllReadyIn.cons rfl (fun K hK => ?_) AllReadyIn.nil
      go_simp
      refine hK _ _ ?_
      clear hK K
      refine wpAnyIn_ready (rs := [4]) (by kernel_rfl) (by simp) ?_
      refine AllReadyIn.cons rfl (fun K hK => ?_) AllReadyIn.nil
      refine stepIn_append rfl _ _ _ rfl _ _ _ _ rfl rfl (by exact HR.out) ?_
      refine hK _ _ ?_
      clear hK K
      refine wpAnyIn_ready (rs := [5]) (by kernel_rfl) (by simp) ?_
      refine AllReadyIn.cons rfl (fun K hK => ?_) AllReadyIn.nil
      go_simp
      refine hK _ _ ?_
      clear hK K
      refine wpAnyIn_done (by kernel_rfl) ?_ _
      (gi_wp2; exact ⟨by rw [z2]; exact HKp.out, fun k hk => HKq.out k (by rcases hk with hk | hk <;> omega) (by rcases hk with hk | hk <;> omega), HGa.out⟩)
    refine AllReadyIn.cons rfl (fun K hK => ?_) AllReadyIn.nil
    go_simp
    gi_wp2_with (gi_at_call 38; refine (CallsIn.inRound l (callsIn_wide.2 HCl.out)).mono ?_; rintro e u1 ⟨⟨ua, uc, ul⟩, rfl, hul, huk, huy, hub⟩; obtain rfl : ul = tl := hul; have hul := Lib.hid (rfl : ul = ul))
    obtain ⟨A', cap', w3, hrun, k3, k4, hG, hKp, hKq⟩ := HG.out u1 (ua, uc, ul) rfl huk huy ⟨hub.os, hub.tape, hub.output, hub.size, hub.block⟩
    have ku := HBC.out u1 ⟨hub.os, hub.tape, hub.output, hub.size, hub.block⟩
    rw [k0] at ku
    have kl1 : w.heap.size < u1.heap.size := by have := hub.size; have : W.drew.heap.size = W.heap.size := rfl; omega
    dsimp only at hrun
    have HR := Lib.hid hrun
    have HGa := Lib.hid hG
    have HKp := Lib.hid hKp
    have HKq := Lib.hid hKq
    clear hG hKp hKq hul huk huy hub hrun
    refine wpAnyIn_ready (rs := [0, 3]) (by kernel_rfl) (by simp) ?_
    refine AllReadyIn.cons rfl (fun K hK => ?_) ?_
    · go_simp
      refine hK _ _ ?_
      clear hK K
      refine wpAnyIn_ready (rs := [3]) (by kernel_rfl) (by simp) ?_
      refine AllReadyIn.cons rfl (fun K hK => ?_) AllReadyIn.nil
      go_simp
      refine hK _ _ ?_
      clear hK K
      refine wpAnyIn_ready (rs := [4]) (by kernel_rfl) (by simp) ?_
      refine AllReadyIn.cons rfl (fun K hK => ?_) AllReadyIn.nil
      refine stepIn_append rfl _ _ _ rfl _ _ _ _ rfl rfl (by exact HR.out) ?_
      refine hK _ _ ?_
      clear hK K
      refine wpAnyIn_ready (rs := [5]) (by kernel_rfl) (by simp) ?_
      refine AllReadyIn.cons rfl (fun K hK => ?_) AllReadyIn.nil
      go_simp
      refine hK _ _ ?_
      clear hK K
      refine wpAnyIn_done (by kernel_rfl) ?_ _
      (gi_wp2; exact ⟨by rw [z2]; exact HKp.out, fun k hk => HKq.out k (by rcases hk with hk | hk <;> omega) (by rcases hk with hk | hk <;> omega), HGa.out⟩)
    refine AllReadyIn.cons rfl (fun K hK => ?_) AllReadyIn.nil
    go_simp
    refine hK _ _ ?_
    clear hK K
    refine wpAnyIn_ready (rs := [0]) (by kernel_rfl) (by simp) ?_
    refine AllReadyIn.cons rfl (fun K hK => ?_) AllReadyIn.nil
    go_simp
    refine hK _ _ ?_
    clear hK K
    refine wpAnyIn_ready (rs := [4]) (by kernel_rfl) (by simp) ?_
    refine AllReadyIn.cons rfl (fun K hK => ?_) AllReadyIn.nil
    refine stepIn_append rfl _ _ _ rfl _ _ _ _ rfl rfl (by exact HR.out) ?_
    refine hK _ _ ?_
    clear hK K
    refine wpAnyIn_ready (rs := [5]) (by kernel_rfl) (by simp) ?_
    refine AllReadyIn.cons rfl (fun K hK => ?_) AllReadyIn.nil
    go_simp
    refine hK _ _ ?_
    clear hK K
    refine wpAnyIn_done (by kernel_rfl) ?_ _
    (gi_wp2; exact ⟨by rw [z2]; exact HKp.out, fun k hk => HKq.out k (by rcases hk with hk | hk <;> omega) (by rcases hk with hk | hk <;> omega), HGa.out⟩)
  case done =>
    rintro D ys W hD rfl ⟨A, cap, T, g1, g2, g3, g4, g5, g6⟩ hKD
    obtain ⟨k0, k1⟩ := Gath.cell g1
    have hTl2 : T.length = xs.reverse.length := by have := congrArg List.length g3; simpa using this
    have hgp := grownBy_putObj' W D (.deferred none)
    have hr' : ∀ r, some D = some r → ∃ o : Obj, W.heap[r]? = some o ∧ o.isCells = false := fun r e => by injection e with e; subst e; exact ⟨_, hKD, rfl⟩
    have hcs : CsAt (W.putObj D (.deferred none)) A (T.map tabV) := (own_cs (own_row g2 (fun k cur hc => tabs_grown hgp hr' k cur _ hc)) (by simp [hTl2])).1
    have hok : ∀ t ∈ T, TabOk (W.putObj D (.deferred none)) t := fun t ht => (g4 t ht).1.block (g4 t ht).2 (fun k cur hc => tabs_grown hgp hr' k cur _ hc)
    have hbl : Below w.heap.size w (W.putObj D (.deferred none)) := ⟨hgp.os.trans g5.os, hgp.tape.trans g5.tape, hgp.output.trans g5.output, Nat.le_trans g5.size hgp.size, fun k hk => (hgp.block k (Nat.lt_of_lt_of_le hk g5.size) (fun e => by injection e with e; omega)).trans (g5.block k hk)⟩
    have hmm : T.map (·.2.2) = s.tabs.reverse.map buildB := by
      rw [g3, List.map_reverse, List.map_reverse, ← HTm.out]
      congr 1
      rw [← hxm, List.map_map]; rfl
    have HF := Lib.hid (show (∃ (A' : Option Addr) (cap' : Nat) (T' : List Tab), Ending.returned (.slice A T0.length cap) = .returned (.slice A' T'.length cap') ∧ CsAt (W.putObj D (.deferred none)) A' (T'.map tabV) ∧ T'.map (·.2.2) = s.tabs.reverse.map buildB ∧ (∀ t ∈ T', TabOk (W.putObj D (.deferred none)) t) ∧ Below w.heap.size w (W.putObj D (.deferred none))) from ⟨A, cap, T, by rw [hTl2, List.length_reverse, hxl], hcs, hmm, hok, hbl⟩)
    clear g1 g2 g3 g4 hcs hok hmm hbl hTl2
    gi_wp2
    refine ⟨by simp, .inl ⟨_, _, rfl, run_takeDeferred hKD, ?_⟩⟩
    exact ⟨_, results_tmp (t := 2) rfl _ _ _, HF.out⟩
  case stop =>
    rintro D c' pre W _ _ hh _
    exact hh.elim
end
end Go.Proofs.YtckjcjoheeobgaaGreatDoor
