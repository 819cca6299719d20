/- Crash. -/
import Derived.Test.YtcmnijpcinmbbaaGreatDoorDi
namespace Go.Proofs.YtcmnijpcinmbbaaGreatDoor
open Go.RowKit Go.Shelf
set_option linter.unusedVariables false

attribute [local go_sem] Oper.semAt_some
section
variable {lo : Nat} {w : World} {B M : Nat} {uv : Value} {d : Ds} {n : Nat}

theorem some_lt {w : World} {p : Nat} {o : Obj} (h : w.heap[p]? = some o) : p < w.heap.size := by
  rcases Nat.lt_or_ge p w.heap.size with h' | h'
  · exact h'
  · rw [Array.getElem?_eq_none h'] at h; cases h
theorem keepN_eq (U : List Bk) (keep : Int) : min (max keep 0) (U.length : Int) = (keepN U keep : Int) := by unfold keepN; omega
theorem keepN_le (U : List Bk) (keep : Int) : keepN U keep ≤ U.length := by unfold keepN; omega

/-- By cells alone. -/
theorem BsV.keepC {w w' : World} {O : Nat → Prop} {v : Value} {bs : List UInt8} (h : BsV w O v bs) (hc : ∀ a u, w.cell? a = some u → w'.cell? a = some u) : BsV w' O v bs := by
  obtain ⟨h0, p, c, rfl, h1, h2⟩ := h
  exact ⟨h0, p, c, rfl, h1.imp id (fun ⟨b, o, e, hh⟩ => ⟨b, o, e, fun i hi => hc _ _ (hh i hi)⟩), h2⟩
theorem PtAt.keepC {w w' : World} {O : Nat → Prop} {B : Nat} {v : Value} {p : Pt} (h : PtAt w O B v p) (hc : ∀ a u, w.cell? a = some u → w'.cell? a = some u) : PtAt w' O B v p := by
  obtain ⟨h0, a, d, m, x, rfl, o1, c1, c2, c3, c4, c5⟩ := h
  exact ⟨h0, a, d, m, x, rfl, o1, hc _ _ c1, hc _ _ c2, c3.keepC hc, hc _ _ c4, hc _ _ c5⟩
theorem BkAt.keepC {w w' : World} {O : Nat → Prop} {B : Nat} {v : Value} {b : Bk} (h : BkAt w O B v b) (hc : ∀ a u, w.cell? a = some u → w'.cell? a = some u) : BkAt w' O B v b := by
  cases b with
  | one p => exact PtAt.keepC h hc
  | two f t => exact h.elim
/-- What is no cells, nor the map, has turned. -/
theorem DkAt.grown {σ : Fs} {U : List Bk} {s bd : Int} (h : DkAt lo w B M uv σ U s bd n) {w' : World} {row : Option Nat} (hg : w.grownBy w' row) (hr : ∀ r, row = some r → M ≠ r ∧ ∃ o : Obj, w.heap[r]? = some o ∧ o.isCells = false) : DkAt lo w' B M uv σ U s bd n := by
  have hr' : ∀ r, row = some r → ∃ o : Obj, w.heap[r]? = some o ∧ o.isCells = false := fun r e => (hr r e).2
  have hc : ∀ a u, w.cell? a = some u → w'.cell? a = some u := fun a u hu => cell_kept hu hg hr'
  obtain ⟨V, hV, hU⟩ := h.row
  obtain ⟨D, hD, hm⟩ := h.mp
  refine ⟨(grownBy_keeps_cells hg hr' h.blk rfl).trans h.blk, ⟨V, hV.kept hg ?_, fun i h1 h2 => (hU i h1 h2).keepC hc⟩, ⟨D, hD.kept hg (fun e => (hr M e.symm).1 rfl), fun k => ?_⟩, h.lo1, h.lo2, h.fok, h.uok⟩
  · cases hb : uv.ownBlock with
    | none => exact .inl rfl
    | some g =>
      refine .inr (fun e => ?_)
      obtain ⟨cur, hcur⟩ := own_cells hV hb
      obtain ⟨o, h1, h2⟩ := hr' g (by rw [← e])
      rw [hcur] at h1
      injection h1 with h1
      subst h1
      cases h2
  · obtain ⟨h1, v, h2, h3⟩ := hm k
    exact ⟨h1, v, h2, h3.keepC hc⟩

theorem foldl_backs {w0 : World} {O : Nat → Prop} (xs : List (Fv w0 O B)) (σ : Fs) : xs.reverse.foldl (fun s x => x.b.run s) σ = backs (xs.map (·.b)) σ := by
  rw [List.foldl_reverse, backs, List.foldr_map]

/-- Those that take back, from one on. -/
theorem fvs_of {σ : Fs} {U : List Bk} {s bd : Int} (h : DkAt lo w B M uv σ U s bd n) (kk : Nat) (hkk : kk ≤ U.length) {A : Option Addr} {c : Nat} (hA : uv = .slice A U.length c) :
    ∃ (xs : List (Fv w (Oth B M uv) B)) (g : Nat), xs.length = U.length - kk ∧ xs.map (·.b) = U.drop kk ∧ g ≠ M ∧ g ≤ w.heap.size ∧ (xs ≠ [] → g < w.heap.size) ∧ U.length ≤ c ∧
      (xs = [] ∨ ∃ off, A = some ⟨g, off, none⟩ ∧ ∀ (j : Nat) (hj : j < xs.length), xs[j].i = j ∧ w.cell? ⟨g, off + kk + j, none⟩ = some xs[j].v) := by
  obtain ⟨V, hV, hVU⟩ := h.row
  have hVl : V.length = U.length := by have := hV.1; simpa using this
  refine ⟨List.ofFn (fun j : Fin (U.length - kk) => (⟨j.1, V[kk + j.1]'(by have := j.2; omega), U[kk + j.1]'(by have := j.2; omega), hVU _ _ _, h.uok _ (List.getElem_mem _)⟩ : Fv w (Oth B M uv) B)), ?_⟩
  have hmap : (List.ofFn (fun j : Fin (U.length - kk) => (⟨j.1, V[kk + j.1]'(by have := j.2; omega), U[kk + j.1]'(by have := j.2; omega), hVU _ _ _, h.uok _ (List.getElem_mem _)⟩ : Fv w (Oth B M uv) B))).map (·.b) = U.drop kk := by
    apply List.ext_getElem
    · simp
    · intro i h1 h2
      simp
  rcases hV.2 with ⟨h0, h1⟩ | ⟨g, cap, cur, h0, hb, hg, hle, hm, hs, ht⟩
  · have hU0 : U.length = 0 := h1
    exact ⟨w.heap.size, by simp, hmap, by have := h.ltM; omega, Nat.le_refl _, fun hne => absurd (List.length_eq_zero_iff.1 (by simp; omega)) hne, by omega, .inl (List.length_eq_zero_iff.1 (by simp; omega))⟩
  · have hgl := (Array.getElem?_eq_some_iff.1 hg).1
    have hne := h.neR.2
    rw [h0] at hne
    simp [Value.ownBlock] at hne
    rw [hA] at h0
    injection h0 with e1 _ e3
    subst e1; subst e3
    refine ⟨g, by simp, hmap, hne, by omega, fun _ => hgl, hle, .inr ⟨0, rfl, fun j hj => ⟨by simp, ?_⟩⟩⟩
    have hj' : kk + j < U.length := by simp at hj; omega
    rw [hA] at hV
    have := hV.cellAt (kk + j) (by omega)
    rw [show 0 + kk + j = kk + j by omega, this]
    simp [hVl, hj']

set_option maxRecDepth 100000 in
set_option maxHeartbeats 4000000 in
theorem crash_any (h : DkS lo w B M uv d n) (keep : Int) (hU : d.U.length < 1000000000) (hn : n + 2 * d.U.length + 2 < maxLen) :
    Calls Tryz.prog 16 #[.pointer (some ⟨B, 0, none⟩), .int .i64 keep] w fun e w' => (∃ v, e = .returned v) ∧ DkS lo w' B M (.slice none 0 0) (crD d keep) (n + 2 * d.U.length) ∧ FrD B M uv w w' := by
  have hkl := keepN_le d.U keep
  have hkk := keepN_eq d.U keep
  have c1 := h.c1
  obtain ⟨A, c, hA⟩ := h.form
  obtain ⟨xs, g, hxl, hxm, hgM, hgl, hgx, hcl, hxs⟩ := fvs_of h (keepN d.U keep) hkl hA
  have hcr : crD d keep = ⟨backs (d.U.drop (keepN d.U keep)) d.σ, [], 0, -1⟩ := rfl
  rw [← hxm] at hcr
  rw [hcr]
  clear hcr
  generalize keepN d.U keep = kk at *
  rw [hA] at c1
  have HX := Lib.hid hxl
  have hBl := h.lt
  have hMl := h.ltM
  have HL := Lib.hid hU
  have hBM := h.neM
  have hxl0 := Lib.hid hxl
  by_cases hck : c = kk
  · have hx0 : xs = [] := List.length_eq_zero_iff.1 (by omega)
    refine (callsIn_wide (n := 4)).1 ?_
    have f6 : Fence.wide.fn 32 := trivial
    refine callsIn_of_wp_marks Tryz.func16 rfl trivial ?_ rfl
    simp only [Tryz.ntmps16, List.size_toArray, List.length_cons, List.length_nil, Nat.reduceAdd, Nat.reduceSub, Array.replicate_succ, Array.replicate_zero, List.push_toArray, List.append_toArray, List.nil_append, List.cons_append]
    gi_wp2_with (gi_at_call 32; refine (fback_in Fence.wide 3 trivial rfl _ _ _ _).mono ?_; rintro e w' ⟨rfl, rfl⟩)
    have hB0 : Below w.heap.size w (w.alloc (.cells #[.slice (A) (d.U.length - kk) 0] 44)) := (Below.refl _ w).alloc (Nat.le_refl _) _
    have h1 : 1 ≤ 4 := by omega
    have hFS : FvSl g (w.alloc (.cells #[.slice (A) (d.U.length - kk) 0] 44)) (A) xs := .inl hx0
    have hcB : (w.alloc (.cells #[.slice (A) (d.U.length - kk) 0] 44)).cell? ⟨w.heap.size, 0, none⟩ = some (.slice (A) xs.length 0) := by rw [HX.out]; simp
    refine wpIn_rangeFunc_ownH (F := Fence.wide) (n := 4) (encs := encFv) rfl h1 (gf := 53) (lb := #[.pointer (some ⟨w.heap.size, 0, none⟩)]) rfl trivial (enters_of Tryz.func53 (by kernel_rfl) rfl)
      (fback_stops Fence.wide 3 trivial rfl (by omega) w.heap.size g 0 (A) xs (by have := HX.out; omega) _ (by simp) (fun hne => by have := hgx hne; simp; omega) hcB hFS) (fun h k => Kq.trans h k) ?hKb (Below.refl _ _) (fun _ => rfl)
      (fun pre W => DkAt lo W B M uv (pre.foldl (fun s x => x.b.run s) d.σ) d.U d.s d.bd (n + 2 * pre.length) ∧ Fr [M] w W ∧ w.heap.size + 1 ≤ W.heap.size)
      (fun _ _ _ => False) ?hI (fun _ _ _ _ _ hs _ _ => hs) ?h0
      (fun x a' W => a' = { tmps := #[.pointer (some ⟨B, 0, none⟩), .int .i64 kk, undef, undef, undef, x.v, .int .i64 keep, .int .i64 (max keep 0), .pointer (some ⟨B, 0, none⟩), .pointer (some ⟨B, 0, none⟩), .pointer (some ⟨B, 1, none⟩), .slice A d.U.length kk, .int .i64 d.U.length, .int .i64 kk, .pointer (some ⟨B, 0, none⟩), .pointer (some ⟨B, 0, none⟩), .pointer (some ⟨B, 1, none⟩), .slice A d.U.length kk, .int .i64 kk, .slice (A) (d.U.length - kk) 0, .func (.func 53) #[] #[.pointer (some ⟨w.heap.size, 0, none⟩)], .int .i64 (x.i : Int), x.v, undef, undef, undef, undef, undef, undef, undef, undef, undef, undef, undef], defers := [] }) ?hAx ?assign ?body ?done ?stop
    case hKb => exact fun W l o o' hl _ _ _ k hk => World.putObj_heap_other (by simp at hl; rcases hk with hk | hk <;> omega)
    case hI =>
      intro s A' B' row hs hg hr
      obtain ⟨hs1, hs2, hs3⟩ := hs
      have hrw : ∀ r, row = some r → w.heap.size + 1 ≤ r := fun r e => by have := (hr r e).1; simpa using this
      refine ⟨hs1.grown hg (fun r e => ⟨by have := hrw r e; omega, (hr r e).2⟩), ⟨hg.os.trans hs2.os, hg.tape.trans hs2.tape, hg.output.trans hs2.output, Nat.le_trans hs2.size hg.size, fun k hk hx => ?_⟩, Nat.le_trans hs3 hg.size⟩
      exact (hg.block k (Nat.lt_of_lt_of_le hk hs2.size) (fun e => by have := hrw k e.symm; omega)).trans (hs2.block k hk hx)
    case h0 => exact ⟨h.keep hB0, Fr.below hB0, by simp⟩
    case hAx => exact fun x a' s A' B' row hs _ _ => hs
    case assign =>
      intro l pre x W K hi hK
      unfold encFv
      gi_wp2
      exact hK _ _ (KeepsFrom.refl _ _) (Kq.refl _ _ _) hi rfl
    case body =>
      rintro l pre x a' W hl ⟨r, hr⟩ ⟨hdk, hfr, hsz⟩ rfl hlt
      have hbk : BkAt W (Oth B M uv) B x.v x.b := x.at_.keep (fun k hk ho => hfr.block k hk (by simp; exact ho.2.1)) (fun _ _ h => h)
      have hlx : pre.length < d.U.length := by have := HX.out; omega
      obtain ⟨f, bs, hv, hf, hc⟩ := bk_run hdk hbk x.ok (by omega)
      rw [hv]
      have HC := Lib.hid hc
      clear hc
      have hxx := Lib.hid (show (pre ++ [x]).foldl (fun s x => x.b.run s) d.σ = x.b.run (pre.foldl (fun s x => x.b.run s) d.σ) by simp)
      subst hf
      · have hfn : (Fence.wide.inRound l).fn 60 := trivial
        gi_wp2_with fail
        refine ⟨trivial, ?_⟩
        refine (CallsIn.inRound l (callsIn_wide.2 HC.out)).mono ?_
        rintro e W2 ⟨⟨v2, rfl⟩, hdk2, hfr2⟩
        gi_wp2
        refine ⟨⟨hfr2.size, fun k o hk1 hk2 hk3 => ?_⟩, fun k hk => ?_, by rw [hxx.out]; exact hdk2.up (by simp; omega), hfr.trans hfr2, Nat.le_trans hsz hfr2.size⟩
        · rw [hfr2.block k (some_lt hk2) (by simp at hk1 ⊢; omega)]; exact hk2
        · exact hfr2.block k (by rcases hk with rfl | rfl <;> omega) (by simp; rcases hk with rfl | rfl <;> omega)
    case done =>
      rintro D ys W hD rfl ⟨hdk, hfr, hsz⟩ hKD
      rw [foldl_backs] at hdk
      have k1 := hdk.c1
      have k2 := hdk.c2
      have k3 := hdk.c3
      have g1 := hdk.fz 1
      have g2 := hdk.fz 2
      have g3 := hdk.fz 3
      rw [hA] at k1
      have hlt' := hdk.lt
      have hfin := ((hdk.set1 (U' := []) (V' := []) (uv' := .slice none 0 0) ⟨rfl, rfl, rfl, Nat.le_refl _, fun _ _ _ => rfl⟩ (Nxt.nil _ _) (World.ownsRow_nil _ _ _ _) (fun i h => by simp at h) (by simp)).set2 0).set3 (-1)
      have hfr2 : FrD B M uv w (((W.setCell ⟨B, 1, none⟩ (.slice none 0 0)).setCell ⟨B, 2, none⟩ (.int .i64 0)).setCell ⟨B, 3, none⟩ (.int .i64 (-1))) := (((hfr.toD B uv).setB 1 _).setB 2 _).setB 3 _
      have hKD2 : (((W.setCell ⟨B, 1, none⟩ (.slice none 0 0)).setCell ⟨B, 2, none⟩ (.int .i64 0)).setCell ⟨B, 3, none⟩ (.int .i64 (-1))).heap[D]? = some (.deferred (some [])) := by
        have hDB : D ≠ B := by simp at hD; omega
        rw [Below.heap_setCell _ _ _ _ hDB, Below.heap_setCell _ _ _ _ hDB, Below.heap_setCell _ _ _ _ hDB]; exact hKD
      have hDl : w.heap.size + 1 ≤ D := by simpa using hD
      clear hdk
      gi_wp2
      refine ⟨by simp, .inl ⟨_, _, rfl, run_takeDeferred hKD2, ?_⟩⟩
      have hgp := grownBy_putObj' (((W.setCell ⟨B, 1, none⟩ (.slice none 0 0)).setCell ⟨B, 2, none⟩ (.int .i64 0)).setCell ⟨B, 3, none⟩ (.int .i64 (-1))) D (.deferred none)
      refine ⟨_, results_none rfl _ _ _, ⟨_, rfl⟩, ?_, ?_⟩
      · exact DkAt.up (hfin.grown hgp (fun r e => by injection e with e; subst e; exact ⟨by omega, _, hKD2, rfl⟩)) (by have := HX.out; simp; omega)
      · exact ⟨hgp.os.trans hfr2.os, hgp.tape.trans hfr2.tape, hgp.output.trans hfr2.output, Nat.le_trans hfr2.size hgp.size, fun k hk ho => (hgp.block k (Nat.lt_of_lt_of_le hk hfr2.size) (fun e => by injection e with e; omega)).trans (hfr2.block k hk ho)⟩
    case stop =>
      rintro D c' pre W _ _ hh _
      exact hh.elim
  · have hcc : ¬ (c : Int) = kk := by omega
    refine (callsIn_wide (n := 4)).1 ?_
    have f6 : Fence.wide.fn 32 := trivial
    refine callsIn_of_wp_marks Tryz.func16 rfl trivial ?_ rfl
    simp only [Tryz.ntmps16, List.size_toArray, List.length_cons, List.length_nil, Nat.reduceAdd, Nat.reduceSub, Array.replicate_succ, Array.replicate_zero, List.push_toArray, List.append_toArray, List.nil_append, List.cons_append]
    gi_wp2_with (gi_at_call 32; refine (fback_in Fence.wide 3 trivial rfl _ _ _ _).mono ?_; rintro e w' ⟨rfl, rfl⟩)
    have hB0 : Below w.heap.size w (w.alloc (.cells #[.slice (A.map (fun x => x.add kk)) (d.U.length - kk) (c - kk)] 44)) := (Below.refl _ w).alloc (Nat.le_refl _) _
    have h1 : 1 ≤ 4 := by omega
    have hFS : FvSl g (w.alloc (.cells #[.slice (A.map (fun x => x.add kk)) (d.U.length - kk) (c - kk)] 44)) (A.map (fun x => x.add kk)) xs := by
      rcases hxs with hxs | ⟨off, rfl, hxs⟩
      · exact .inl hxs
      · refine .inr ⟨off + kk, by simp [Addr.add], fun j hj => ⟨(hxs j hj).1, ?_⟩⟩
        exact (hB0.cell (p := ⟨g, off + kk + j, none⟩) (hgx (by intro e; rw [e] at hj; simp at hj))).trans (hxs j hj).2
    have hcB : (w.alloc (.cells #[.slice (A.map (fun x => x.add kk)) (d.U.length - kk) (c - kk)] 44)).cell? ⟨w.heap.size, 0, none⟩ = some (.slice (A.map (fun x => x.add kk)) xs.length (c - kk)) := by rw [HX.out]; simp
    refine wpIn_rangeFunc_ownH (F := Fence.wide) (n := 4) (encs := encFv) rfl h1 (gf := 53) (lb := #[.pointer (some ⟨w.heap.size, 0, none⟩)]) rfl trivial (enters_of Tryz.func53 (by kernel_rfl) rfl)
      (fback_stops Fence.wide 3 trivial rfl (by omega) w.heap.size g (c - kk) (A.map (fun x => x.add kk)) xs (by have := HX.out; omega) _ (by simp) (fun hne => by have := hgx hne; simp; omega) hcB hFS) (fun h k => Kq.trans h k) ?hKb (Below.refl _ _) (fun _ => rfl)
      (fun pre W => DkAt lo W B M uv (pre.foldl (fun s x => x.b.run s) d.σ) d.U d.s d.bd (n + 2 * pre.length) ∧ Fr [M] w W ∧ w.heap.size + 1 ≤ W.heap.size)
      (fun _ _ _ => False) ?hI (fun _ _ _ _ _ hs _ _ => hs) ?h0
      (fun x a' W => a' = { tmps := #[.pointer (some ⟨B, 0, none⟩), .int .i64 kk, undef, undef, undef, x.v, .int .i64 keep, .int .i64 (max keep 0), .pointer (some ⟨B, 0, none⟩), .pointer (some ⟨B, 0, none⟩), .pointer (some ⟨B, 1, none⟩), .slice A d.U.length c, .int .i64 d.U.length, .int .i64 kk, .pointer (some ⟨B, 0, none⟩), .pointer (some ⟨B, 0, none⟩), .pointer (some ⟨B, 1, none⟩), .slice A d.U.length c, .int .i64 kk, .slice (A.map (fun x => x.add kk)) (d.U.length - kk) (c - kk), .func (.func 53) #[] #[.pointer (some ⟨w.heap.size, 0, none⟩)], .int .i64 (x.i : Int), x.v, undef, undef, undef, undef, undef, undef, undef, undef, undef, undef, undef], defers := [] }) ?hAx ?assign ?body ?done ?stop
    case hKb => exact fun W l o o' hl _ _ _ k hk => World.putObj_heap_other (by simp at hl; rcases hk with hk | hk <;> omega)
    case hI =>
      intro s A' B' row hs hg hr
      obtain ⟨hs1, hs2, hs3⟩ := hs
      have hrw : ∀ r, row = some r → w.heap.size + 1 ≤ r := fun r e => by have := (hr r e).1; simpa using this
      refine ⟨hs1.grown hg (fun r e => ⟨by have := hrw r e; omega, (hr r e).2⟩), ⟨hg.os.trans hs2.os, hg.tape.trans hs2.tape, hg.output.trans hs2.output, Nat.le_trans hs2.size hg.size, fun k hk hx => ?_⟩, Nat.le_trans hs3 hg.size⟩
      exact (hg.block k (Nat.lt_of_lt_of_le hk hs2.size) (fun e => by have := hrw k e.symm; omega)).trans (hs2.block k hk hx)
    case h0 => exact ⟨h.keep hB0, Fr.below hB0, by simp⟩
    case hAx => exact fun x a' s A' B' row hs _ _ => hs
    case assign =>
      intro l pre x W K hi hK
      unfold encFv
      gi_wp2
      exact hK _ _ (KeepsFrom.refl _ _) (Kq.refl _ _ _) hi rfl
    case body =>
      rintro l pre x a' W hl ⟨r, hr⟩ ⟨hdk, hfr, hsz⟩ rfl hlt
      have hbk : BkAt W (Oth B M uv) B x.v x.b := x.at_.keep (fun k hk ho => hfr.block k hk (by simp; exact ho.2.1)) (fun _ _ h => h)
      have hlx : pre.length < d.U.length := by have := HX.out; omega
      obtain ⟨f, bs, hv, hf, hc⟩ := bk_run hdk hbk x.ok (by omega)
      rw [hv]
      have HC := Lib.hid hc
      clear hc
      have hxx := Lib.hid (show (pre ++ [x]).foldl (fun s x => x.b.run s) d.σ = x.b.run (pre.foldl (fun s x => x.b.run s) d.σ) by simp)
      subst hf
      · have hfn : (Fence.wide.inRound l).fn 60 := trivial
        gi_wp2_with fail
        refine ⟨trivial, ?_⟩
        refine (CallsIn.inRound l (callsIn_wide.2 HC.out)).mono ?_
        rintro e W2 ⟨⟨v2, rfl⟩, hdk2, hfr2⟩
        gi_wp2
        refine ⟨⟨hfr2.size, fun k o hk1 hk2 hk3 => ?_⟩, fun k hk => ?_, by rw [hxx.out]; exact hdk2.up (by simp; omega), hfr.trans hfr2, Nat.le_trans hsz hfr2.size⟩
        · rw [hfr2.block k (some_lt hk2) (by simp at hk1 ⊢; omega)]; exact hk2
        · exact hfr2.block k (by rcases hk with rfl | rfl <;> omega) (by simp; rcases hk with rfl | rfl <;> omega)
    case done =>
      rintro D ys W hD rfl ⟨hdk, hfr, hsz⟩ hKD
      rw [foldl_backs] at hdk
      have k1 := hdk.c1
      have k2 := hdk.c2
      have k3 := hdk.c3
      have g1 := hdk.fz 1
      have g2 := hdk.fz 2
      have g3 := hdk.fz 3
      rw [hA] at k1
      have hlt' := hdk.lt
      have hfin := ((hdk.set1 (U' := []) (V' := []) (uv' := .slice none 0 0) ⟨rfl, rfl, rfl, Nat.le_refl _, fun _ _ _ => rfl⟩ (Nxt.nil _ _) (World.ownsRow_nil _ _ _ _) (fun i h => by simp at h) (by simp)).set2 0).set3 (-1)
      have hfr2 : FrD B M uv w (((W.setCell ⟨B, 1, none⟩ (.slice none 0 0)).setCell ⟨B, 2, none⟩ (.int .i64 0)).setCell ⟨B, 3, none⟩ (.int .i64 (-1))) := (((hfr.toD B uv).setB 1 _).setB 2 _).setB 3 _
      have hKD2 : (((W.setCell ⟨B, 1, none⟩ (.slice none 0 0)).setCell ⟨B, 2, none⟩ (.int .i64 0)).setCell ⟨B, 3, none⟩ (.int .i64 (-1))).heap[D]? = some (.deferred (some [])) := by
        have hDB : D ≠ B := by simp at hD; omega
        rw [Below.heap_setCell _ _ _ _ hDB, Below.heap_setCell _ _ _ _ hDB, Below.heap_setCell _ _ _ _ hDB]; exact hKD
      have hDl : w.heap.size + 1 ≤ D := by simpa using hD
      clear hdk
      gi_wp2
      refine ⟨by simp, .inl ⟨_, _, rfl, run_takeDeferred hKD2, ?_⟩⟩
      have hgp := grownBy_putObj' (((W.setCell ⟨B, 1, none⟩ (.slice none 0 0)).setCell ⟨B, 2, none⟩ (.int .i64 0)).setCell ⟨B, 3, none⟩ (.int .i64 (-1))) D (.deferred none)
      refine ⟨_, results_none rfl _ _ _, ⟨_, rfl⟩, ?_, ?_⟩
      · exact DkAt.up (hfin.grown hgp (fun r e => by injection e with e; subst e; exact ⟨by omega, _, hKD2, rfl⟩)) (by have := HX.out; simp; omega)
      · exact ⟨hgp.os.trans hfr2.os, hgp.tape.trans hfr2.tape, hgp.output.trans hfr2.output, Nat.le_trans hfr2.size hgp.size, fun k hk ho => (hgp.block k (Nat.lt_of_lt_of_le hk hfr2.size) (fun e => by injection e with e; omega)).trans (hfr2.block k hk ho)⟩
    case stop =>
      rintro D c' pre W _ _ hh _
      exact hh.elim
end
end Go.Proofs.YtcmnijpcinmbbaaGreatDoor
