/- den.Prefix. -/
import Derived.Maps.OwnIn
import Derived.Sort.QuietIn
import Derived.Test.YthcgjbpiiodlgaaDoorPb
import Derived.Test.YthcgjbpiiodlgaaDoorAq
namespace Go.Proofs.YthcgjbpiiodlgaaDoor
open Go.RowKit Go.Shelf
open Go.Maps (string_keyed)

attribute [local go_sem] Oper.semAt_some

/-- The places, when these lines have come. -/
def datL (pre : List Lv) : DataW Unit := pre.foldl (fun D x => D.put (.string x.key.data.toList) (.lit (.int .i64 (x.i : Int)))) (.map [])
theorem datL_snoc (pre : List Lv) (x : Lv) : datL (pre ++ [x]) = (datL pre).put (.string x.key.data.toList) (.lit (.int .i64 (x.i : Int))) := by simp [datL]

theorem kpb_alloc {n₀ Bs : Nat} {W : World} (h1 : n₀ ≤ W.heap.size) (h2 : Bs < W.heap.size) (o : Obj) : Kpb n₀ Bs W (W.alloc o) := fun k hk => by
  refine Below.heap_alloc _ _ _ ?_
  rcases hk with hk | hk <;> omega
theorem kpb_grown {n₀ Bs r : Nat} {W W' : World} (h1 : n₀ ≤ W.heap.size) (h2 : Bs < W.heap.size) (hg : W.grownBy W' (some r)) (hr : n₀ ≤ r) (hb : r ≠ Bs) : Kpb n₀ Bs W W' := fun k hk => by
  refine hg.block k ?_ ?_
  · rcases hk with hk | hk <;> omega
  · rcases hk with hk | hk
    · intro e; injection e with e; omega
    · intro e; injection e with e; omega


/-- A look-up whose answer is known. -/
theorem wpList_lookup_known {P : Program} (w : World) {ops : Array Oper} {rest : List Oper} {o : Oper} {a : Act} {Q : Exit → Act → World → Prop} (hg : o.guard = none) (m x : Operand) (t : TypeId) (hop : o.op = Op.lookup t m x true)
    (k e : TypeId) (q : IntKind) (K : Maps.Keyed P k) (ht : P.underlying t = some (.map k e)) (he : P.underlying e = some (.int q)) (hz : (zeroValue e).run P w = .ok (.int q 0) w) (b n : Nat) (D : DataW Unit)
    (hm : a.eval m = .map (some b)) (hown : w.ownsMap P k (plainElem P e) b n D) (key : Value) (kl : Lit) (hx : a.eval x = key) (hkey : keyOf P k key = some kl) (c : Int) (r : Bool) (hat : D.atKey kl (.lit (.int q 0)) = .lit (.int q c)) (hhas : Maps.has D kl = r)
    (hK : wpList P ops Q rest (a.put o.dst (.tuple #[.int q c, .bool r])) w) :
    wpList P ops Q (o :: rest) a w :=
  wpList_lookup_own_ok_int w hg m x t hop k e q K ht he hz b n D hm hown key kl hx hkey (fun c' hat' _ => by
    rw [hat] at hat'
    injection hat' with h1
    injection h1 with _ h2
    rw [← h2, hhas]; exact hK)

theorem hideP {p : Prop} (h : p) : Hid p := h
theorem datL_isMap (pre : List Lv) : Maps.IsMap (datL pre) := by
  have h : ∀ (pre : List Lv) (D : DataW Unit), Maps.IsMap D → Maps.IsMap (pre.foldl (fun D x => D.put (.string x.key.data.toList) (.lit (.int .i64 (x.i : Int)))) D) := by
    intro pre
    induction pre with
    | nil => intro D hD; exact hD
    | cons x r ih => intro D hD; exact ih _ (hD.put _ _)
  exact h pre _ Maps.isMap_empty

theorem key_inj {k k' : ByteArray} (h : Lit.string k.data.toList = Lit.string k'.data.toList) : k = k' := by
  injection h with h
  cases k; cases k'
  congr 1
  exact Array.toList_inj.1 h

/-- What the map of places says, when all lines have come from the last on. -/
theorem datL_all (k : ByteArray) : ∀ (xs : List Lv) (b : List Ln) (i0 : Nat), xs.length = b.length → (∀ (j : Nat) (h : j < xs.length) (h2 : j < b.length), xs[j].key = b[j].1 ∧ xs[j].i = i0 + j) →
    Maps.has (datL xs.reverse) (.string k.data.toList) = (fstAt k i0 b).isSome ∧ (datL xs.reverse).atKey (.string k.data.toList) (.lit (.int .i64 0)) = .lit (.int .i64 (((fstAt k i0 b).getD 0 : Nat) : Int))
  | [], b, i0, hl, _ => by
    have hb : b = [] := List.length_eq_zero_iff.1 (by simpa using hl.symm)
    subst hb
    exact ⟨rfl, rfl⟩
  | x :: xs, [], i0, hl, _ => by simp at hl
  | x :: xs, l :: b, i0, hl, h => by
    have ih := datL_all k xs b (i0 + 1) (by simpa using hl) (fun j h1 h2 => by
      have := h (j + 1) (by simpa using h1) (by simpa using h2)
      simp at this
      exact ⟨this.1, by omega⟩)
    have h0 := h 0 (by simp) (by simp)
    simp at h0
    rw [List.reverse_cons, datL_snoc, h0.1, h0.2]
    unfold fstAt
    by_cases hk : l.1 = k
    · rw [if_pos hk, hk]
      exact ⟨Maps.has_put_same (datL_isMap _) (show WideAt.IsKeyLit (.string _) from trivial) _, Maps.atKey_put_same (datL_isMap _) (show WideAt.IsKeyLit (.string _) from trivial) _ _⟩
    · rw [if_neg hk]
      have hne : Lit.string k.data.toList ≠ Lit.string l.1.data.toList := fun e => hk (key_inj e).symm
      exact ⟨by rw [Maps.has_put_other hne]; exact ih.1, by rw [Maps.atKey_put_other hne]; exact ih.2⟩

theorem lines_lv {w : World} {lb : Option Addr} {b : List Ln} (hb : LnsAt w lb b) (hlb : b.length ≤ 9223372036854775807) :
    ∃ xs : List Lv, xs.length = b.length ∧ LvSl w.heap.size w lb xs ∧ ∀ (j : Nat) (h : j < xs.length) (h2 : j < b.length), xs[j].key = b[j].1 ∧ xs[j].i = 0 + j := by
  rcases hb with rfl | ⟨blk, o, rfl, hb⟩
  · exact ⟨[], rfl, .inl rfl, fun j h => by simp at h⟩
  · have hx : ∀ j, j < b.length → ∃ x : Lv, ∃ (h2 : j < b.length), x.key = b[j].1 ∧ x.i = j ∧ w.cell? ⟨blk, o + j * 2, none⟩ = some (.string x.key) ∧ w.cell? ⟨blk, o + j * 2 + 1, none⟩ = some (.slice x.fa x.n x.c) := by
      intro j hj
      obtain ⟨h0, ⟨fa, fc, h1, -, -⟩, h4⟩ := hb j hj
      exact ⟨⟨j, b[j].1, fa, b[j].2.length, fc, by omega, h4⟩, hj, rfl, rfl, h0, h1⟩
    by_cases hn : b = []
    · subst hn; exact ⟨[], rfl, .inl rfl, fun j h => by simp at h⟩
    · have hpos : 0 < b.length := List.length_pos_iff.2 hn
      have hlt : blk < w.heap.size := by
        obtain ⟨x, _, _, _, h3, _⟩ := hx 0 hpos
        exact cell_lt h3
      refine ⟨(List.range b.length).attach.map fun i => (hx i.1 (by simpa using i.2)).choose, by simp, .inr ⟨blk, o, rfl, hlt, fun j hj => ?_⟩, fun j h h2 => ?_⟩
      · have hj' : j < b.length := by simpa using hj
        obtain ⟨h2, e1, e2, e3, e4⟩ := (hx j hj').choose_spec
        simp only [List.getElem_map, List.getElem_attach, List.getElem_range]
        exact ⟨e2, e3, e4⟩
      · obtain ⟨_, e1, e2, e3, e4⟩ := (hx j h2).choose_spec
        simp only [List.getElem_map, List.getElem_attach, List.getElem_range]
        exact ⟨e1, by omega⟩

set_option maxRecDepth 100000 in
set_option maxHeartbeats 4000000 in
theorem prefix_any {w : World} {la lb : Option Addr} {a b : List Ln} (ca cb : Nat) (ha : LnsAt w la a) (hla : a.length ≤ 9223372036854775807) (hlb : b.length ≤ 9223372036854775807) (hb : LnsAt w lb b) :
    Calls Tryd.prog 25 #[.slice la a.length ca, .slice lb b.length cb] w fun e w' => e = .returned (.bool (prefP a b)) ∧ Below w.heap.size w w' := by
  obtain ⟨xs, hxl, hxs, hget⟩ := lines_lv hb hlb
  have HA : Hid (∀ k : ByteArray, Maps.has (datL xs.reverse) (.string k.data.toList) = (fstAt k 0 b).isSome ∧ (datL xs.reverse).atKey (.string k.data.toList) (.lit (.int .i64 0)) = .lit (.int .i64 (((fstAt k 0 b).getD 0 : Nat) : Int))) := fun k => datL_all k xs b 0 hxl hget
  clear hget
  refine (callsIn_wide (n := 4)).1 ?_
  have hmm := @run_makeMap Tryd.prog
  have f6 : Fence.wide.fn 34 := trivial
  have f7 : Fence.wide.fn 35 := trivial
  have hK := string_keyed (P := Tryd.prog) (k := 9) Tryd.underlying9
  refine callsIn_of_wp_marks Tryd.func25 rfl trivial ?_ rfl
  simp only [Tryd.ntmps25, List.size_toArray, List.length_cons, List.length_nil, Nat.reduceAdd, Nat.reduceSub, Array.replicate_succ, Array.replicate_zero, List.push_toArray, List.append_toArray, List.nil_append, List.cons_append]
  gi_wp2_with (gi_at_call 34; refine (back_in Fence.wide 3 trivial rfl _ _ _ _).mono ?_; rintro e w' ⟨rfl, rfl⟩)
  have hB0 : Below w.heap.size w (((w.alloc (.map #[] 0)).alloc (.cells #[.map (some w.heap.size)] 68)).alloc (.cells #[.slice lb b.length cb] 22)) := (((Below.refl _ w).alloc (Nat.le_refl _) _).alloc (by simp) _).alloc (by simp; omega) _
  have bP := Boxed.new (w.alloc (.map #[] 0)) 68 (.map (some w.heap.size))
  have bN := Boxed.new ((w.alloc (.map #[] 0)).alloc (.cells #[.map (some w.heap.size)] 68)) 22 (.slice lb b.length cb)
  simp only [World.size_alloc] at bP bN
  have oM := ((World.ownsMap_made w Tryd.prog 9 (plainElem (H := Unit) Tryd.prog 3)).alloc (.cells #[.map (some w.heap.size)] 68)).alloc (.cells #[.slice lb b.length cb] 22)
  have h1 : 1 ≤ 4 := by omega
  refine wpIn_rangeFunc_ownH (F := Fence.wide) (n := 4) (encs := encLv) rfl h1 (gf := 44) (lb := #[.pointer (some ⟨w.heap.size + 1 + 1, 0, none⟩)]) rfl trivial (enters_of Tryd.func44 (by kernel_rfl) rfl)
    (back_stops Fence.wide 3 trivial rfl (by omega) (w.heap.size + 1 + 1) w.heap.size cb lb xs (by omega) _ (by simp) (by simp; omega) (by rw [hxl]; exact bN.cell) (hxs.below hB0)) (fun h k => Kpb.trans h k) ?hKb (Below.refl _ _) (fun _ => rfl)
    (fun pre W => (W.ownsMap Tryd.prog 9 (plainElem (H := Unit) Tryd.prog 3) w.heap.size pre.length (datL pre) ∧ W.cell? ⟨w.heap.size + 1, 0, none⟩ = some (.map (some w.heap.size))) ∧ Below w.heap.size w W ∧ w.heap.size + 3 ≤ W.heap.size)
    (fun _ _ _ => False) ?hI (fun _ _ _ _ _ hs _ _ => hs) ?h0
    (fun x a' W => ∃ Bx, w.heap.size + 3 ≤ Bx ∧ (W.cell? ⟨Bx, 0, none⟩ = some (.string x.key) ∧ W.cell? ⟨Bx, 1, none⟩ = some (.slice x.fa x.n x.c)) ∧ a' = { tmps := #[.slice la a.length ca, .slice lb b.length cb, undef, undef, .bool false, .pointer (some ⟨w.heap.size + 1, 0, none⟩), .int .i64 (x.i : Int), .pointer (some ⟨Bx, 0, none⟩), undef, undef, undef, undef, .map (some w.heap.size), .slice lb b.length cb, .func (.func 44) #[] #[.pointer (some ⟨w.heap.size + 1 + 1, 0, none⟩)], .int .i64 (x.i : Int), .agg #[.string x.key, .slice x.fa x.n x.c], undef, undef, undef, undef, undef, undef, undef, undef, undef, undef, undef, undef, undef, undef, undef, undef, undef, undef, undef, undef, undef, undef, undef, undef, undef, undef, undef, undef, undef, undef, undef], defers := [] }) ?hAx ?assign ?body ?done ?stop
  case hKb => exact fun W l o o' hl _ _ _ k hk => World.putObj_heap_other (by simp at hl; rcases hk with hk | hk <;> omega)
  case hI =>
    intro s A B row hs hg hr
    exact ⟨⟨hs.1.1.kept hg (fun e => by have := (hr _ e.symm).1; simp at this; omega), cell_kept hs.1.2 hg (fun r e => (hr r e).2)⟩, hs.2.1.grown hg (by have := hs.2.2; omega) (fun k e => by have := (hr k e).1; simp at this; omega), Nat.le_trans hs.2.2 hg.size⟩
  case h0 => exact ⟨⟨oM, (bP.alloc _).cell⟩, hB0, by simp⟩
  case hAx =>
    rintro x a' s A B row ⟨Bx, h1, ⟨h2, h3⟩, h4⟩ hg hr
    exact ⟨Bx, h1, ⟨cell_kept h2 hg (fun r e => (hr r e).2), cell_kept h3 hg (fun r e => (hr r e).2)⟩, h4⟩
  case assign =>
    intro l pre x W K hi hK
    unfold encLv
    gi_wp2
    obtain ⟨⟨o1, o2⟩, o3, o4⟩ := hi
    refine hK _ _ ((KeepsOthers.alloc _ _).from _) (kpb_alloc (by omega) (by omega) _) ⟨⟨o1.alloc _, ?_⟩, o3.alloc (by omega) _, by simp; omega⟩ ⟨W.heap.size, o4, ⟨?_, ?_⟩, rfl⟩
    · exact Keeps.alloc W _ _ _ o2
    · simp
    · simp
  case body =>
    rintro l pre x a' W hl ⟨r, hr⟩ ⟨⟨hown, hcm⟩, hB, hsz⟩ ⟨Bx, hBx, ⟨h2, h3⟩, rfl⟩ hlt
    have hkey : keyOf Tryd.prog 9 (.string x.key) = some (.string x.key.data.toList) := WideMaps.keyOf_string_mk Tryd.underlying9 (by have := x.hk; unfold maxLen; omega)
    have hwf : (Lit.int .i64 (x.i : Int)).wf = true := WalkArith.wf_i64 (by have := x.hi; omega)
    have hmx : pre.length < maxLen := by unfold maxLen; omega
    gi_wp2_with (gi_at_mapUpdate; refine wpListIn_mapUpdate_own _ rfl _ _ _ 68 rfl 9 3 hK Tryd.underlying68 _ w.heap.size pre.length _ rfl hown hmx _ _ _ rfl rfl hkey _ [] (plainElem_int Tryd.underlying3 hwf) ?_; intro w1 hown1 hgrow1)
    refine ⟨KeepsFrom.of_grownBy hgrow1 (fun j e => by cases e; simp; omega), kpb_grown (by omega) (by omega) hgrow1 (Nat.le_refl _) (by omega), ⟨⟨?_, ?_⟩, hB.grown hgrow1 (by omega) (fun k e => by cases e; exact Nat.le_refl _), Nat.le_trans hsz hgrow1.size⟩⟩
    · rw [datL_snoc, List.length_append]; exact hown1
    · rw [World.cell?_of_block (w := W) (hgrow1.block _ (by show _ < _; simp; omega) (by simp))]; exact hcm
  case done =>
    rintro D ys W hD rfl ⟨⟨hown, hcm⟩, hB, hsz⟩ hKD
    gi_wp2
    refine wpIn_wide.2 ?_
    go_loopw [23] (fun i wr => ∃ j : Nat, j ≤ a.length ∧ i = .int .i64 j ∧ prefP (a.take j) b = true ∧ (wr.ownsMap Tryd.prog 9 (plainElem (H := Unit) Tryd.prog 3) w.heap.size xs.length (datL xs.reverse) ∧ wr.cell? ⟨w.heap.size + 1, 0, none⟩ = some (.map (some w.heap.size))) ∧ Below w.heap.size w wr ∧ wr.heap[D]? = some (.deferred (some [])) ∧ w.heap.size + 3 ≤ wr.heap.size) (fun i _ => a.length - (intOf i).toNat)
    case atStart => exact ⟨0, by omega, rfl, by simp [prefP], ⟨by simpa using hown, hcm⟩, hB, hKD, hsz⟩
    case round =>
      clear hown hcm hB hKD hsz
      obtain ⟨j, hj, rfl, hp, ⟨hown, hcm⟩, hB, hKD, hsz⟩ := hrel
      have Hp : Hid (prefP (a.take j) b = true) := hp
      clear hp
      by_cases hlt : j < a.length
      · have hi : (j : Int) < a.length := by omega
        rcases ha with ha | ⟨ba, oa, rfl, ha⟩
        · subst ha; simp at hlt
        obtain ⟨k0, ⟨fa, fc, k1, k2, k3, k4⟩, k5⟩ := ha j hlt
        have c0 : wr.cell? ⟨ba, oa + j * 2, none⟩ = some (.string a[j].1) := (hB.cell (p := ⟨ba, oa + j * 2, none⟩) (cell_lt k0)).trans k0
        have c1 : wr.cell? ⟨ba, oa + j * 2 + 1, none⟩ = some (.slice fa a[j].2.length fc) := (hB.cell (p := ⟨ba, oa + j * 2 + 1, none⟩) (cell_lt k1)).trans k1
        have hkey : keyOf Tryd.prog 9 (.string a[j].1) = some (.string a[j].1.data.toList) := WideMaps.keyOf_string_mk Tryd.underlying9 (by unfold maxLen; omega)
        obtain ⟨hh, hat⟩ := HA.out a[j].1
        have ht : prefP (a.take (j + 1)) b = (prefP (a.take j) b && oneP b a[j]) := pref_take hlt
        have hone : oneP b a[j] = false → prefP a b = false := fun h => pref_false hlt h
        have Hp1 : Hid (oneP b a[j] = true → prefP (a.take (j + 1)) b = true) := fun h => by rw [ht, Hp.out, h]; rfl
        have Hone := hideP hone
        clear ht hone
        have howA := hown.alloc (.cells #[.string a[j].1, .slice fa a[j].2.length fc] 39)
        have hcmA : (wr.alloc (.cells #[.string a[j].1, .slice fa a[j].2.length fc] 39)).cell? ⟨w.heap.size + 1, 0, none⟩ = some (.map (some w.heap.size)) := Keeps.alloc wr _ _ _ hcm
        have hBA : Below w.heap.size w (wr.alloc (.cells #[.string a[j].1, .slice fa a[j].2.length fc] 39)) := hB.alloc (by omega) _
        have hDA : (wr.alloc (.cells #[.string a[j].1, .slice fa a[j].2.length fc] 39)).heap[D]? = some (.deferred (some [])) := (Below.heap_alloc _ _ _ (some_lt hKD)).trans hKD
        cases hf : fstAt a[j].1 0 b with
        | none =>
          rw [hf] at hh hat
          have HF : Hid (oneP b a[j] = false) := by
            show oneP b a[j] = false
            unfold oneP
            rw [(fstAt_none _ _ _).1 hf]
          simp only [Option.isSome_none, Option.getD_none] at hh hat
          have Hf : Hid (prefP a b = false) := Hone.out HF.out
          clear hf
          have HH := hideP hh
          have HT := hideP hat
          clear hh hat k0 k1 hown hcm
          generalize a[j] = x at *
          go_wp2_with (at_lookup; refine wpList_lookup_known _ rfl _ _ 68 rfl 9 3 .i64 hK Tryd.underlying68 Tryd.underlying3 (Tryd.zeroValue3 _) w.heap.size xs.length _ rfl howA _ _ rfl hkey 0 false HT.out HH.out ?_)
          generalize wr.alloc (.cells #[.string x.1, .slice fa x.2.length fc] 39) = wq at *
          go_quiet (fail)
          go_wp2
          gi_wp2
          have hK2 : (wq.drewN nq).heap[D]? = some (.deferred (some [])) := hDA
          have hB2 : Below w.heap.size w (wq.drewN nq) := below_drewN hBA nq
          refine ⟨by simp, .inl ⟨_, _, rfl, run_takeDeferred hK2, ?_⟩⟩
          exact ⟨_, results_tmp rfl _ _ _, by rw [Hf.out]; rfl, hB2.trans (belowK_b (w := w) (Nat.le_refl _) _ D _ _ (by simp at hD; omega) hK2 rfl rfl)⟩
        | some p =>
          obtain ⟨hpl, hp1, -, -⟩ := fst_place _ _ hf
          rw [hf] at hh hat
          simp only [Option.isSome_some, Option.getD_some] at hh hat
          rcases hb with hb | ⟨bb, ob, rfl, hb⟩
          · subst hb; simp at hpl
          obtain ⟨-, ⟨ga, gc, l1, l2, l3, l4⟩, -⟩ := hb p hpl
          have hone : oneP b a[j] = decide (a[j].2 <+: b[p].2) := by unfold oneP; rw [hp1]
          have hip : (p : Int) < b.length := by omega
          have HH := hideP hh
          have HT := hideP hat
          have cl1 : (wr.alloc (.cells #[.string a[j].1, .slice fa a[j].2.length fc] 39)).cell? ⟨bb, ob + p * 2 + 1, none⟩ = some (.slice ga b[p].2.length gc) := (hBA.cell (p := ⟨bb, ob + p * 2 + 1, none⟩) (cell_lt l1)).trans l1
          have kA : IntsAt (wr.alloc (.cells #[.string a[j].1, .slice fa a[j].2.length fc] 39)) fa a[j].2 := k2.keep (Keeps.of hBA)
          have kB : IntsAt (wr.alloc (.cells #[.string a[j].1, .slice fa a[j].2.length fc] 39)) ga b[p].2 := l2.keep (Keeps.of hBA)
          have hc2 : (wr.alloc (.cells #[.string a[j].1, .slice fa a[j].2.length fc] 39)).cell? ⟨wr.heap.size, 1, none⟩ = some (.slice fa a[j].2.length fc) := by simp
          have hza : a[j].2.length ≤ 9223372036854775807 := by omega
          have hp2 : wr.heap.size + 1 ≤ (wr.alloc (.cells #[.string a[j].1, .slice fa a[j].2.length fc] 39)).heap.size := by simp
          clear hf hh hat k0 k1 k2 l1 l2 hown hcm hp1
          by_cases hq : a[j].2 <+: b[p].2
          · have Hx : Hid (prefP (a.take (j + 1)) b = true) := Hp1.out (by rw [hone]; exact decide_eq_true hq)
            have hqd : decide (a[j].2 <+: b[p].2) = true := decide_eq_true hq
            have cbg := fun n => begins_any (w := (wr.alloc (.cells #[.string a[j].1, .slice fa a[j].2.length fc] 39)).drewN n) (kA.keep (keeps_drewN _ n)) (kB.keep (keeps_drewN _ n)) fc gc hza l3
            rw [hqd] at cbg
            have HQ := hideP cbg
            clear hq hqd hone cbg
            generalize a[j] = x at *
            generalize b[p] = y at *
            go_wp2_with (at_lookup; refine wpList_lookup_known _ rfl _ _ 68 rfl 9 3 .i64 hK Tryd.underlying68 Tryd.underlying3 (Tryd.zeroValue3 _) w.heap.size xs.length _ rfl howA _ _ rfl hkey p true HT.out HH.out ?_)
            generalize wr.alloc (.cells #[.string x.1, .slice fa x.2.length fc] 39) = wq at *
            go_quiet ((go_at_call 35; exact Calls.quiet_of (HQ.out _)))
            go_wp2
            go_roundw
            case rel => exact ⟨j + 1, by omega, by go_num, Hx.out, ⟨howA, hcmA⟩, below_drewN hBA nq, hDA, by show _ ≤ wq.heap.size; omega⟩
            case measure => simp [intOf]; omega
          · have Hf : Hid (prefP a b = false) := Hone.out (by rw [hone]; exact decide_eq_false hq)
            have hqd : decide (a[j].2 <+: b[p].2) = false := decide_eq_false hq
            have cbg := fun n => begins_any (w := (wr.alloc (.cells #[.string a[j].1, .slice fa a[j].2.length fc] 39)).drewN n) (kA.keep (keeps_drewN _ n)) (kB.keep (keeps_drewN _ n)) fc gc hza l3
            rw [hqd] at cbg
            have HQ := hideP cbg
            clear hq hqd hone cbg
            generalize a[j] = x at *
            generalize b[p] = y at *
            go_wp2_with (at_lookup; refine wpList_lookup_known _ rfl _ _ 68 rfl 9 3 .i64 hK Tryd.underlying68 Tryd.underlying3 (Tryd.zeroValue3 _) w.heap.size xs.length _ rfl howA _ _ rfl hkey p true HT.out HH.out ?_)
            generalize wr.alloc (.cells #[.string x.1, .slice fa x.2.length fc] 39) = wq at *
            go_quiet ((go_at_call 35; exact Calls.quiet_of (HQ.out _)))
            go_wp2
            gi_wp2
            have hK2 : (wq.drewN nq).heap[D]? = some (.deferred (some [])) := hDA
            have hB2 : Below w.heap.size w (wq.drewN nq) := below_drewN hBA nq
            refine ⟨by simp, .inl ⟨_, _, rfl, run_takeDeferred hK2, ?_⟩⟩
            exact ⟨_, results_tmp rfl _ _ _, by rw [Hf.out]; rfl, hB2.trans (belowK_b (w := w) (Nat.le_refl _) _ D _ _ (by simp at hD; omega) hK2 rfl rfl)⟩
      · have hi : ¬ (j : Int) < a.length := by omega
        have Hf : Hid (prefP a b = true) := by
          have h1 := Hp.out
          rw [List.take_of_length_le (by omega)] at h1
          exact h1
        go_wp2
        gi_wp2
        refine ⟨by simp, .inl ⟨_, _, rfl, run_takeDeferred hKD, ?_⟩⟩
        exact ⟨_, results_tmp rfl _ _ _, by rw [Hf.out]; rfl, hB.trans (belowK_b (w := w) (Nat.le_refl _) wr D _ _ (by simp at hD; omega) hKD rfl rfl)⟩
  case stop =>
    rintro D c pre W _ _ h _
    exact h.elim
end Go.Proofs.YthcgjbpiiodlgaaDoor
