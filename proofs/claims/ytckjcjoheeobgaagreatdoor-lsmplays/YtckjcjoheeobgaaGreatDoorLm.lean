/- Open. -/
import Derived.Test.YtckjcjoheeobgaaGreatDoorLl
namespace Go.Proofs.YtckjcjoheeobgaaGreatDoor
open Go.RowKit Go.Shelf
set_option linter.unusedVariables false

attribute [local go_sem] Oper.semAt_some
section
variable {lo : Nat} {w w' : World} {S Ml Mf : Nat} {v v1 : Value} {s : Sto}
set_option maxRecDepth 100000 in
set_option maxHeartbeats 1000000 in
theorem opens_any (la : Option Addr) (c : Nat) (T : List Tab) (ts : List (List En)) (hC : CsAt w la (T.map tabV)) (hT : ∀ t ∈ T, TabOk w t) (hm : T.map (·.2.2) = ts.map buildB) (hE : ∀ t ∈ ts, entsE t = 0) (hn : T.length ≤ 1000) (lim : Nat) (hl1 : 1 ≤ lim) (hl2 : lim ≤ 400) (hlen : (openA ts.reverse).length ≤ 400) :
    Calls Tryz.prog 22 #[.slice la T.length c, .int .i64 lim] w fun e w' => ∃ S Ml Mf v, e = .returned (.tuple #[.pointer (some ⟨S, 0, none⟩), .nilIface]) ∧ StAt w.heap.size w' S Ml Mf v (openS lim ts.reverse) ∧ Below w.heap.size w w' := by
  obtain ⟨hOk, hrd⟩ := rdL_map hT hm hE
  obtain ⟨xs, hxl, hxa, hxm⟩ : ∃ xs : List (Bt (OkT w)), xs.length = T.length ∧ (∀ j (hj : j < xs.length) (hj' : j < T.length), xs[j].i = j ∧ xs[j].t = T[j]) ∧ xs.map (·.t) = T := ⟨btOf T hOk, btOf_len, fun j hj _ => btOf_at j hj, btOf_map⟩
  obtain ⟨g, hgs, hg⟩ : ∃ g, g ≤ w.heap.size ∧ (T ≠ [] → g < w.heap.size ∧ ∃ off, la = some ⟨g, off, none⟩ ∧ ∀ j (hj : j < T.length), w.cell? ⟨g, off + j, none⟩ = some (tabV T[j])) := by
    rcases hC with hC | ⟨b, o, e, hC⟩
    · exact ⟨w.heap.size, Nat.le_refl _, fun hne => absurd (List.map_eq_nil_iff.1 hC) hne⟩
    · by_cases hne : T = []
      · exact ⟨w.heap.size, Nat.le_refl _, fun h => absurd hne h⟩
      have hpos : 0 < T.length := by
        rcases Nat.eq_zero_or_pos T.length with h0 | h0
        · exact absurd (List.length_eq_zero_iff.1 h0) hne
        · exact h0
      have hc : ∀ j (hj : j < T.length), w.cell? ⟨b, o + j, none⟩ = some (tabV T[j]) := fun j hj => hC j _ (by simp [hj])
      exact ⟨b, Nat.le_of_lt (cell_lt (hc 0 hpos)), fun _ => ⟨cell_lt (hc 0 hpos), o, e, hc⟩⟩
  have HRd := Lib.hid hrd
  have HXm := Lib.hid hxm
  have HEt := Lib.hid hE
  have HLn := Lib.hid hlen
  have hl1' : ¬ (lim : Int) < 1 := by omega
  have hl2' : ¬ (400 : Int) < lim := by omega
  have hmm := @run_makeMap Tryz.prog
  clear hrd hxm hE hlen hC hT hm
  obtain ⟨m, hTl⟩ : ∃ m, m = T.length := ⟨_, rfl⟩
  rw [← hTl]
  have HXl := Lib.hid (hxl.trans hTl.symm)
  have HTl := Lib.hid hTl
  have hm1 : m ≤ 1000 := by omega
  have hgl : xs ≠ [] → g < w.heap.size := fun hne => (hg (fun e => hne (List.length_eq_zero_iff.1 (by rw [hxl, e]; rfl)))).1
  have HBt := Lib.hid (show ∀ u : World, Below w.heap.size w u → BtSl g u la xs from fun u B2 => by
    by_cases hne : T = []
    · exact .inl (List.length_eq_zero_iff.1 (by rw [hxl, hne]; rfl))
    · obtain ⟨hgl, off, e, hc⟩ := hg hne
      refine .inr ⟨off, e, fun j hj => ⟨(hxa j hj (by omega)).1, ?_⟩⟩
      rw [B2.cell (p := ⟨g, off + j, none⟩) hgl, (hxa j hj (by omega)).2]
      exact hc j _)
  clear hTl hxl hg hxa
  refine (callsIn_wide (n := 4)).1 ?_
  have f6 : Fence.wide.fn 37 := trivial
  refine callsIn_of_wp_marks Tryz.func22 rfl trivial ?_ rfl
  simp only [Tryz.ntmps22, List.size_toArray, List.length_cons, List.length_nil, Nat.reduceAdd, Nat.reduceSub, Array.replicate_succ, Array.replicate_zero, List.push_toArray, List.append_toArray, List.nil_append, List.cons_append]
  gi_wp2_with (gi_at_call 37; refine (tback_in Fence.wide 3 trivial rfl _ _ _ _).mono ?_; rintro e w' ⟨rfl, rfl⟩)
  obtain ⟨z2, B2, k0, k1, k2, k3, k4, k5, k6⟩ := seven w (.cells #[.pointer none] 23) (.cells #[.nilIface] 25) (.map #[] 0) (.map #[] 0) (.cells #[.int .i64 lim, .map (some (w.heap.size + 1 + 1)), .map (some (w.heap.size + 1 + 1 + 1)), .slice none 0 0] 66) (.cells #[.pointer (some ⟨w.heap.size + 1 + 1 + 1 + 1, 0, none⟩)] 23) (.cells #[.slice la m c] 50)
  have hb5 : w.heap.size + 1 + 1 + 1 + 1 + 1 + 1 = w.heap.size + 6 := by omega
  generalize (((((((w.alloc (.cells #[.pointer none] 23)).alloc (.cells #[.nilIface] 25)).alloc (.map #[] 0)).alloc (.map #[] 0)).alloc (.cells #[.int .i64 lim, .map (some (w.heap.size + 1 + 1)), .map (some (w.heap.size + 1 + 1 + 1)), .slice none 0 0] 66)).alloc (.cells #[.pointer (some ⟨w.heap.size + 1 + 1 + 1 + 1, 0, none⟩)] 23)).alloc (.cells #[.slice la m c] 50)) = w2 at *
  obtain ⟨n6, e6⟩ : ∃ n6, n6 = w.heap.size + 1 + 1 + 1 + 1 + 1 + 1 := ⟨_, rfl⟩
  obtain ⟨n5, e5⟩ : ∃ n5, n5 = w.heap.size + 1 + 1 + 1 + 1 + 1 := ⟨_, rfl⟩
  obtain ⟨n4, e4⟩ : ∃ n4, n4 = w.heap.size + 1 + 1 + 1 + 1 := ⟨_, rfl⟩
  obtain ⟨n3, e3⟩ : ∃ n3, n3 = w.heap.size + 1 + 1 + 1 := ⟨_, rfl⟩
  obtain ⟨n2, e2⟩ : ∃ n2, n2 = w.heap.size + 1 + 1 := ⟨_, rfl⟩
  obtain ⟨n1, e1⟩ : ∃ n1, n1 = w.heap.size + 1 := ⟨_, rfl⟩
  rw [← e6, ← e5, ← e4, ← e3, ← e2, ← e1]
  rw [← e6] at k6
  rw [← e5] at k5
  rw [← e4] at k4 k5
  rw [← e3] at k3 k4
  rw [← e2] at k2 k4
  rw [← e1] at k1
  have x6 : n6 = w.heap.size + 6 := by omega
  have x5 : n5 = w.heap.size + 5 := by omega
  have x4 : n4 = w.heap.size + 4 := by omega
  have x3 : n3 = w.heap.size + 3 := by omega
  have x2 : n2 = w.heap.size + 2 := by omega
  have x1 : n1 = w.heap.size + 1 := by omega
  have X6 := Lib.hid x6
  have X5 := Lib.hid x5
  have X4 := Lib.hid x4
  have X3 := Lib.hid x3
  have X2 := Lib.hid x2
  have X1 := Lib.hid x1
  have st0 : StAt w.heap.size w2 n4 n2 n3 (.slice none 0 0) ⟨lim, openA [], [], []⟩ :=
    ⟨k4, ⟨.map [], ⟨#[], 0, k2, ⟨by simp, MapKept.stamped_empty 0, by simp⟩, Nat.le_refl _, rfl⟩, mapIs_nil⟩, FrIs.nil ⟨#[], 0, k3, ⟨by simp, MapKept.stamped_empty 0, by simp⟩, Nat.le_refl _, rfl⟩, ⟨[], World.ownsRow_nil _ _ _ _, rfl, by simp⟩, by omega, by omega, by omega, by omega⟩
  have o0 : Opn w lim la m c n1 n2 n3 n4 n5 n6 [] w2 := ⟨_, st0, B2, by omega, k0, k1, k5, k6⟩
  have hcB : w2.cell? ⟨n6, 0, none⟩ = some (.slice la xs.length c) := by rw [HXl.out]; simp [World.cell?, k6]
  have Z2 := Lib.hid z2
  clear e1 e2 e3 e4 e5 e6 x1 x2 x3 x4 x5 x6 st0 k0 k1 k2 k3 k4 k5 k6 z2 hb5
  have h1 : 1 ≤ 4 := by omega
  refine wpIn_rangeFunc_ownH (F := Fence.wide) (n := 4) (encs := encBt) rfl h1 (gf := 52) (lb := #[.pointer (some ⟨n6, 0, none⟩)]) rfl trivial (enters_of Tryz.func52 (by kernel_rfl) rfl)
    (tback_stops Fence.wide 3 trivial rfl (by omega) n6 g c la xs (by rw [HXl.out]; omega) _ (by have := X6.out; have := Z2.out; omega) (fun hne => by have := hgl hne; have := Z2.out; omega) hcB (HBt.out _ B2)) (fun h k => Kq.trans h k) ?hKb (Below.refl _ _) (fun _ => rfl)
    (Opn w lim la m c n1 n2 n3 n4 n5 n6)
    (fun _ _ _ => False) ?hI (fun _ _ _ _ _ hs _ _ => hs) ?h0
    (fun x a' W => a' = { tmps := #[.slice la m c, .int .i64 lim, undef, undef, .pointer (some ⟨w.heap.size, 0, none⟩), .pointer (some ⟨n1, 0, none⟩), .pointer (some ⟨n5, 0, none⟩), undef, tabV x.t, undef, undef, .int .i64 lim, .bool false, .bool false, .int .i64 lim, .bool false, .bool false, undef, .int .i64 lim, .map (some n2), .map (some n3), .agg #[.int .i64 lim, .map (some n2), .map (some n3), .slice none 0 0], .pointer (some ⟨n4, 0, none⟩), .slice la m c, .func (.func 52) #[] #[.pointer (some ⟨n6, 0, none⟩)], .int .i64 (x.i : Int), tabV x.t, undef, undef, undef, undef, undef, undef, undef, undef, undef, undef, undef, undef, undef, undef, undef, undef, undef, undef, undef, undef, undef], defers := [] }) ?hAx ?assign ?body ?done ?stop
  case hKb => exact fun W l o o' hl _ _ _ k hk => World.putObj_heap_other (by have := X6.out; have := Z2.out; rcases hk with hk | hk <;> omega)
  case hI =>
    intro p A' B' row hs hg' hr
    obtain ⟨v, hst, hb, hz, r1, r2, r5, r6⟩ := hs
    have hr' : ∀ r, row = some r → ∃ o : Obj, A'.heap[r]? = some o ∧ o.isCells = false := fun r e => (hr r e).2
    have hrw : ∀ r, row = some r → w.heap.size + 7 ≤ r := fun r e => by have := (hr r e).1; have := Z2.out; omega
    refine ⟨v, hst.grown hg' (fun r e => ⟨hr' r e, by have := hrw r e; have := X2.out; omega, by have := hrw r e; have := X3.out; omega⟩), ⟨hg'.os.trans hb.os, hg'.tape.trans hb.tape, hg'.output.trans hb.output, Nat.le_trans hb.size hg'.size, fun k hk => ?_⟩, Nat.le_trans hz hg'.size, (tabs_grown hg' hr' _ _ _ r1).trans r1, (tabs_grown hg' hr' _ _ _ r2).trans r2, (tabs_grown hg' hr' _ _ _ r5).trans r5, (tabs_grown hg' hr' _ _ _ r6).trans r6⟩
    exact (hg'.block k (Nat.lt_of_lt_of_le hk hb.size) (fun e => by have := hrw k e.symm; omega)).trans (hb.block k hk)
  case h0 => exact o0
  case hAx => exact fun x a' s A' B' row hs _ _ => hs
  case assign =>
    intro l pre x W K hi hK
    unfold encBt
    gi_wp2
    exact hK _ _ (KeepsFrom.refl _ _) (Kq.refl _ _ _) hi rfl
  case body =>
    rintro l pre x a' W hl ⟨r, hr⟩ ⟨v, hst, hb, hz, r1, r2, r5, r6⟩ rfl hlt
    obtain ⟨ok1, ok2, ok3⟩ := x.ok
    have hpl : pre.length ≤ 1000 := by have := HXl.out; omega
    have HRd := Lib.hid (read_yt W x.t (rdL x.t) (ok1.keep hb) ok3 ok2)
    have hfr : Fence.wide.fn 39 := trivial
    have hfn : Fence.wide.fn 38 := trivial
    have hfa : Fence.wide.fn 40 := trivial
    have hgW : g < w.heap.size := hgl (fun e => by rw [e] at hlt; simp at hlt)
    have HE0 : Hid (∀ t ∈ pre.map fun x => rdL x.t, entsE t = 0) := Lib.hid (fun t ht => by
      obtain ⟨y, _, rfl⟩ := List.mem_map.1 ht
      exact y.ok.2.1)
    obtain ⟨L, hL⟩ : ∃ L, L = rdL x.t := ⟨_, rfl⟩
    rw [← hL] at HRd ok2 ok3
    have HL := Lib.hid hL
    have hL4 := (ents_zero ok2).1
    have HX : Hid (pre ++ [x] = pre ++ [x] ∧ (pre ++ [x]).map (fun x => rdL x.t) = (pre.map fun x => rdL x.t) ++ [L]) := Lib.hid ⟨rfl, by rw [hL]; simp⟩
    generalize hpx : pre ++ [x] = px at *
    have hxt : TabOk W x.t := ok1.keep hb
    obtain ⟨xi, ⟨tp, tc, tl⟩, xok⟩ := x
    simp only [tabV] at *
    have OK3 := Lib.hid ok3
    have HSt := Lib.hid hst
    clear hpx hL ok3 hst
    gi_wp2_with (gi_at_call 39; refine (CallsIn.inRound l (callsIn_wide.2 HRd.out)).mono ?_; rintro e W1 ⟨A1, c1, rfl, hC1, hy1, b1⟩)
    have hx1 : TabOk W1.drew (tp, tc, tl) := (hxt.keep b1 : TabOk W1 (tp, tc, tl))
    have HCl := Lib.hid (bclone_any W1.drew (tp, tc, tl) hx1)
    have r51 : W1.cell? ⟨n5, 0, none⟩ = some (.pointer (some ⟨n4, 0, none⟩)) := by
      have := (b1.block n5 (some_lt r5)).trans r5
      simp [World.cell?, this]
    have HFin : Hid (∀ (w' : World) (v' : Value), StAt w.heap.size w' n4 n2 n3 v' ⟨lim, addA (openA (pre.map fun x => rdL x.t)) L, [], (pre.map fun x => rdL x.t) ++ [L]⟩ → FrS w.heap.size W1 w' → KpM n2 n3 W1 w' → KeepsFrom w2.heap.size W w' ∧ Kq g n6 W w' ∧ Opn w lim la m c n1 n2 n3 n4 n5 n6 px w') := Lib.hid (fun w' v' h1 h2 h3 => by
      have bc : ∀ (k : Nat) (cur : Array Value) (e : TypeId), W.heap[k]? = some (.cells cur e (0, 0)) → e ≠ 66 → e ≠ 56 → w'.heap[k]? = some (.cells cur e (0, 0)) := fun k cur e hk e1 e2 => by
        have hk1 : W1.heap[k]? = some (.cells cur e (0, 0)) := (b1.block k (some_lt hk)).trans hk
        rw [h2.cells e1 e2 k cur hk1]; exact hk1
      refine ⟨⟨Nat.le_trans b1.size h2.size, fun k o hk1 hk2 hk3 => ?_⟩, fun k hk => ?_, v', by rw [HX.out.2, openA_snoc]; exact h1, hb.trans ((b1.mono hb.size).trans h2.toBelow), Nat.le_trans hz (Nat.le_trans b1.size h2.size), bc _ _ _ r1 (by decide) (by decide), bc _ _ _ r2 (by decide) (by decide), bc _ _ _ r5 (by decide) (by decide), bc _ _ _ r6 (by decide) (by decide)⟩
      · refine h3 k o ((b1.block k (some_lt hk2)).trans hk2) hk3 ?_ ?_
        · have := X2.out; have := Z2.out; omega
        · have := X3.out; have := Z2.out; omega
      · rcases hk with rfl | rfl
        · rw [h2.low _ hgW, b1.block _ (Nat.lt_of_lt_of_le hgW hb.size)]
        · rw [bc _ _ _ r6 (by decide) (by decide), r6])
    have HAd : Hid (∀ (u1 : World) (u : Tab), Below W1.heap.size W1 u1 → u.2.2 = tl → TabOk u1 u → LyAt u1 u.1 5 → Calls Tryz.prog 40 #[.pointer (some ⟨n4, 0, none⟩), .slice A1 L.length c1, tabV u] u1 fun e w' => e = .returned (.tuple #[]) ∧ (∃ v', StAt w.heap.size w' n4 n2 n3 v' ⟨lim, addA (openA (pre.map fun x => rdL x.t)) L, [], (pre.map fun x => rdL x.t) ++ [L]⟩) ∧ FrS w.heap.size u1 w' ∧ KpM n2 n3 u1 w') := Lib.hid (fun u1 u hbu hut huk huy => by
      have hl0 := openA_len (ts := pre.map fun x => rdL x.t) (a := []) List.Pairwise.nil HE0.out
      refine add_any (s := ⟨lim, openA (pre.map fun x => rdL x.t), [], pre.map fun x => rdL x.t⟩) ((HSt.out.keep b1).keep hbu) (openA_ris HE0.out) ?_ ?_ A1 c1 L (hC1.keep hbu) (hy1.below hbu) ok2 u huk huy (hut.trans OK3.out)
      · rw [List.length_map, List.length_nil] at hl0; show (List.foldl addA [] _).length ≤ _; omega
      · rw [List.length_map]; omega)
    have HB1 := Lib.hid b1
    have hzW : w.heap.size ≤ W1.heap.size := Nat.le_trans hb.size b1.size
    clear b1 hC1 hy1 hx1 hxt r1 r2 r5 r6 ok1 xok ok2 hb hz
    gi_region_with (first | (gi_at_call 38; refine (CallsIn.inRound l (callsIn_wide.2 HCl.out)).mono ?_; rintro e u1 ⟨⟨ua, uc, ul⟩, rfl, hul, huk, huy, hub⟩; obtain rfl : ul = tl := hul; have hub' : Below W1.heap.size W1 u1 := ⟨hub.os, hub.tape, hub.output, hub.size, hub.block⟩; have HA2 := Lib.hid (HAd.out u1 (ua, uc, ul) hub' rfl huk huy); have ru5 := hub'.cell (p := ⟨n5, 0, none⟩) (cell_lt r51); rw [r51] at ru5; have HBu := Lib.hid hub'; clear huk huy hub hub') | (gi_at_call 40; refine (CallsIn.inRound l (callsIn_wide.2 HA2.out)).mono ?_; rintro e u2 ⟨rfl, ⟨v2, hs2⟩, hf2, hk2⟩; have HO := Lib.hid (HFin.out u2 v2 hs2 ((FrS.below HBu.out hzW).trans hf2) ((KpM.below HBu.out).trans hk2)); clear hs2 hf2 hk2))
    all_goals (gi_wp2; exact HO.out)
  case done =>
    rintro D ys W hD rfl ⟨v, hst, hb, hz, r1, r2, r5, r6⟩ hKD
    have hmp : (xs.reverse.map fun x => rdL x.t) = ts.reverse := by
      rw [List.map_reverse, ← HRd.out, ← HXm.out, List.map_map]; rfl
    rw [hmp] at hst
    obtain ⟨d0, d1, d2, d3⟩ := hst.cell
    have hlm := HLn.out
    have hrs := openA_ris (ts := ts.reverse) (fun t ht => HEt.out t (by simpa using ht))
    have hln := hst.last.len hrs W rfl
    have hlm' : ¬ (400 : Int) < (openA ts.reverse).length := by omega
    generalize (openA ts.reverse).length = ln at hln hlm'
    have q1 : W.cell? ⟨w.heap.size, 0, none⟩ = some (.pointer none) := by simp [World.cell?, r1]
    have q2 : W.cell? ⟨n1, 0, none⟩ = some .nilIface := by simp [World.cell?, r2]
    have q5 : W.cell? ⟨n5, 0, none⟩ = some (.pointer (some ⟨n4, 0, none⟩)) := by simp [World.cell?, r5]
    have u1 : W.frozen? ⟨w.heap.size, 0, none⟩ = false := by simp [World.frozen?, r1]
    have u2 : W.frozen? ⟨n1, 0, none⟩ = false := by simp [World.frozen?, r2]
    have hbS : ∀ k (o : Obj), W.heap[k]? = some o → k ≠ w.heap.size → k ≠ n1 → ((W.setCell ⟨w.heap.size, 0, none⟩ (.pointer (some ⟨n4, 0, none⟩))).setCell ⟨n1, 0, none⟩ .nilIface).heap[k]? = some o := fun k o hk h1 h2 => by
      rw [Below.heap_setCell _ _ _ _ h2, Below.heap_setCell _ _ _ _ h1]; exact hk
    have hne1 : n1 ≠ w.heap.size := by have := X1.out; omega
    have hne2 : w.heap.size ≠ n1 := fun e => hne1 e.symm
    obtain ⟨Y, hY⟩ : ∃ Y, Y = (W.setCell ⟨w.heap.size, 0, none⟩ (.pointer (some ⟨n4, 0, none⟩))).setCell ⟨n1, 0, none⟩ .nilIface := ⟨_, rfl⟩
    rw [← hY] at hbS
    have hYz : Y.heap.size = W.heap.size := by rw [hY]; simp
    have y1 : Y.heap[w.heap.size]? = some (.cells #[.pointer (some ⟨n4, 0, none⟩)] 23 (0, 0)) := by
      rw [hY, Below.heap_setCell _ _ _ _ hne2]; simp [World.setCell, Array.getElem?_modify, r1]
    have y2 : Y.heap[n1]? = some (.cells #[.nilIface] 25 (0, 0)) := by
      rw [hY]; simp [World.setCell, Array.getElem?_modify, r2, hne2]
    have hDz : w.heap.size + 7 ≤ D := by have := Z2.out; omega
    have yD : Y.heap[D]? = some (.deferred (some [])) := hbS D _ hKD (by omega) (by have := X1.out; omega)
    have hgp := grownBy_putObj' Y D (.deferred none)
    have hkX : ∀ (k : Nat) (o : Obj), Y.heap[k]? = some o → k ≠ D → (Y.putObj D (.deferred none)).heap[k]? = some o := fun k o hk hn => by
      rw [hgp.block k (some_lt hk) (fun e => hn (by injection e))]; exact hk
    have p1 : (Y.putObj D (.deferred none)).cell? ⟨w.heap.size, 0, none⟩ = some (.pointer (some ⟨n4, 0, none⟩)) := by
      have := hkX _ _ y1 (by omega)
      simp [World.cell?, this]
    have p2 : (Y.putObj D (.deferred none)).cell? ⟨n1, 0, none⟩ = some .nilIface := by
      have := hkX _ _ y2 (by have := X1.out; omega)
      simp [World.cell?, this]
    have hbX : ∀ (k : Nat) (o : Obj), W.heap[k]? = some o → k ≠ w.heap.size → k ≠ n1 → k ≠ D → (Y.putObj D (.deferred none)).heap[k]? = W.heap[k]? := fun k o hk h1 h2 h3 => by
      rw [hk]; exact hkX k o (hbS k o hk h1 h2) h3
    obtain ⟨es2, cl2, m2⟩ := hst.last.map
    obtain ⟨es3, cl3, m3⟩ := hst.fresh.map
    have hstX : StAt w.heap.size (Y.putObj D (.deferred none)) n4 n2 n3 v (openS lim ts.reverse) := by
      refine ⟨(hbX _ _ hst.blk (by have := X4.out; omega) (by have := X4.out; have := X1.out; omega) (by have := X4.out; omega)).trans hst.blk, hst.last.block (hbX _ _ m2 (by have := X2.out; omega) (by have := X2.out; have := X1.out; omega) (by have := X2.out; omega)), hst.fresh.block (hbX _ _ m3 (by have := X3.out; omega) (by have := X3.out; have := X1.out; omega) (by have := X3.out; omega)), hst.tabs.block (fun k cur e hc he => hbX k _ hc (fun e' => ?_) (fun e' => ?_) (fun e' => ?_)), hst.loS, hst.loL, hst.loF, hst.ne⟩
      · subst e'; rw [r1] at hc; injection hc with hc; injection hc with _ hc; subst hc; rcases he with he | he <;> revert he <;> decide
      · subst e'; rw [r2] at hc; injection hc with hc; injection hc with _ hc; subst hc; rcases he with he | he <;> revert he <;> decide
      · subst e'; rw [hKD] at hc; cases hc
    have hbF : Below w.heap.size w (Y.putObj D (.deferred none)) := by
      refine ⟨hgp.os.trans (by rw [hY]; exact hb.os), hgp.tape.trans (by rw [hY]; exact hb.tape), hgp.output.trans (by rw [hY]; exact hb.output), ?_, fun k hk => ?_⟩
      · have := hgp.size; have := hb.size; omega
      · rw [hgp.block k (by have := hb.size; omega) (fun e => by injection e with e; omega), hY, Below.heap_setCell _ _ _ _ (show k ≠ n1 by have := X1.out; omega), Below.heap_setCell _ _ _ _ (show k ≠ w.heap.size by omega)]
        exact hb.block k hk
    have HFi := Lib.hid (show (∃ S Ml Mf v, Ending.returned (.tuple #[.pointer (some ⟨n4, 0, none⟩), .nilIface]) = .returned (.tuple #[.pointer (some ⟨S, 0, none⟩), .nilIface]) ∧ StAt w.heap.size (Y.putObj D (.deferred none)) S Ml Mf v (openS lim ts.reverse) ∧ Below w.heap.size w (Y.putObj D (.deferred none))) from ⟨n4, n2, n3, v, rfl, hstX, hbF⟩)
    have HY := Lib.hid hY
    have HP1 := Lib.hid p1
    have HP2 := Lib.hid p2
    have HYD := Lib.hid yD
    clear hstX hbF hbX hkX hgp hbS y1 y2 m2 m3 hY hst hb r1 r2 r5 r6 d0 d2 d3 hmp hrs hlm p1 p2 yD hYz
    gi_wp2
    rw [← HY.out]
    refine ⟨by simp, .inl ⟨_, _, rfl, run_takeDeferred HYD.out, ?_⟩⟩
    have p1 := HP1.out
    have p2 := HP2.out
    exact ⟨.tuple #[.pointer (some ⟨n4, 0, none⟩), .nilIface], by simp [results, Tryz.results22, go_sem, p1, p2], by obtain ⟨a1, a2, a3, a4, a5, a6, a7⟩ := HFi.out; exact ⟨a1, a5, ⟨a2, a3, a4, a6⟩, a7⟩⟩
  case stop =>
    rintro D c' pre W _ _ hh _
    exact hh.elim

set_option maxHeartbeats 1000000 in
theorem new_bad (lim : Int) (hlim : lim < 1 ∨ 400 < lim) : Calls Tryz.prog 4 #[.int .i64 lim] w fun e w' => e = .returned (.tuple #[.pointer none, errV 1]) ∧ Below w.heap.size w w' := by
  have H := Lib.hid (open_bad (w := w) none 0 0 lim hlim)
  clear hlim
  go_enter Tryz.func4, Tryz.ntmps4
  go_wp2_with (go_at_call 22; refine Hid.out ?_)
  refine Lib.hid ?_
  refine H.out.mono ?_
  rintro e w1 ⟨rfl, b1⟩
  go_wp2_with fail
  go_ret2
  exact ⟨rfl, b1⟩
set_option maxHeartbeats 1000000 in
theorem new_any (lim : Nat) (h1 : 1 ≤ lim) (h2 : lim ≤ 400) : Calls Tryz.prog 4 #[.int .i64 lim] w fun e w' => ∃ S Ml Mf v, e = .returned (.tuple #[.pointer (some ⟨S, 0, none⟩), .nilIface]) ∧ StAt w.heap.size w' S Ml Mf v (newS lim) ∧ Below w.heap.size w w' := by
  have H := Lib.hid (opens_any (w := w) none 0 [] [] (.inl rfl) (by simp) rfl (by simp) (by simp) lim h1 h2 (by simp [openA]))
  clear h1 h2
  go_enter Tryz.func4, Tryz.ntmps4
  go_wp2_with (go_at_call 22; refine Hid.out ?_)
  refine Lib.hid ?_
  refine H.out.mono ?_
  rintro e w1 ⟨S, Ml, Mf, v, rfl, hs, b1⟩
  have HS := Lib.hid hs
  clear hs
  go_wp2_with fail
  go_ret2
  exact ⟨S, Ml, Mf, v, rfl, HS.out, b1⟩
end
end Go.Proofs.YtckjcjoheeobgaaGreatDoor
