/- Records gathered and sorted by key and time. -/
import Derived.Test.YtfpfaekbakilpaaDoorWg
import Derived.Test.YtfpfaekbakilpaaDoorWi
import Derived.Test.YtfpfaekbakilpaaDoorPureWd
namespace Go.Proofs.YtfpfaekbakilpaaDoor
open Go.RowKit Go.Shelf Go.Sort
open Go.Sort (grow alloc_eq_grow grow_grow putRowK HoldsK size_flatK get_flatK flatK)
open Go.Lib (compareBytes)
set_option linter.unusedVariables false

attribute [local go_sem] Oper.semAt_some

def encRg (x : Rg) : Array Value := #[.agg #[.string x.key, .int .i64 x.num, .int .i64 x.tm]]
/-- Where the cells lie. -/
theorem lt_of_cs {w : World} {la : Option Addr} {L : List Rg} (h : CsAt w la (rcells L)) : ∀ k, k < L.length → ∃ b o, la = some ⟨b, o, none⟩ ∧ b < w.heap.size := fun k hk => by
  obtain ⟨b, o, rfl, c0, -⟩ := rcs_at h k hk
  exact ⟨b, o, rfl, cell_lt c0⟩
theorem cs_base {w u : World} {la : Option Addr} {L : List Rg} {B : Nat} (h : CsAt w la (rcells L)) (hlt : ∀ k, k < L.length → ∃ b o, la = some ⟨b, o, none⟩ ∧ b < B) (hb : Below B w u) : CsAt u la (rcells L) := by
  rcases h with h | ⟨b, o, rfl, hc⟩
  · exact .inl h
  · refine .inr ⟨b, o, rfl, fun j v hv => ?_⟩
    have hj : j < L.length * 3 := by rw [← rcells_len]; exact (List.getElem?_eq_some_iff.1 hv).1
    obtain ⟨b', o', e, hl⟩ := hlt 0 (by omega)
    simp only [Option.some.injEq, Addr.mk.injEq, and_true] at e
    obtain ⟨rfl, rfl⟩ := e
    rw [hb.cell (p := ⟨b, o + j, none⟩) hl]; exact hc j v hv
set_option maxRecDepth 100000 in
set_option maxHeartbeats 2000000 in
theorem valsR1_in (F : Fence) (n : Nat) (h8 : F.fn 55) (hro : F.round = none) (hn : 1 ≤ n) (l Bm : Nat) (la : Option Addr) (c : Nat) (L : List Rg) (B0 : Nat) (J Jx : List Rg → World → Prop)
    (hY : ∀ pre x W, J pre W → pre.length < L.length → YieldAt F (n - 1) Tryd.prog l (encRg x) W fun e W' =>
      (e = .returned (.bool true) ∧ J (pre ++ [x]) W' ∧ Below B0 W W') ∨ (e = .returned (.bool false) ∧ Jx (pre ++ [x]) W'))
    (W : World) (hJ : AbidesFrom W.heap.size J) (hm : W.cell? ⟨Bm, 0, none⟩ = some (.slice la L.length c)) (hcs : CsAt W la (rcells L)) (hlt : ∀ k, k < L.length → ∃ b o, la = some ⟨b, o, none⟩ ∧ b < B0) (hB0 : B0 ≤ W.heap.size) (hL : L.length ≤ 1000000000) (h0 : J [] W) :
    CallsIn F n Tryd.prog 55 #[.func (.yield l) #[] #[], .pointer (some ⟨Bm, 0, none⟩)] W fun e W' => (∃ v, e = .returned v) ∧
      ((∃ xs, xs = L ∧ J xs W') ∨ (∃ pre, True ∧ Jx pre W')) := by
  refine callsIn_of_wp Tryd.func55 rfl h8 ?_ hro
  simp only [Tryd.ntmps55, List.size_toArray, List.length_cons, List.length_nil, Nat.reduceAdd, Nat.reduceSub, Array.replicate_succ, Array.replicate_zero, List.push_toArray, List.append_toArray, List.nil_append, List.cons_append]
  gi_wp2
  gi_loopw [7] (fun i wr => ∃ k : Nat, k ≤ L.length ∧ i = .int .i64 k ∧ J (L.take k) wr ∧ Below B0 W wr) (fun i _ => L.length - (intOf i).toNat)
  case atStart => exact ⟨0, by omega, rfl, h0, Below.refl _ _⟩
  case round =>
    obtain ⟨k, hk, rfl, hJs, hb⟩ := hrel
    by_cases hk2 : k < L.length
    · obtain ⟨b, o, rfl, c0, c1, c2⟩ := rcs_at (cs_base hcs hlt hb) k hk2
      have hsn : L.take (k + 1) = L.take k ++ [L[k]] := List.take_succ_eq_append_getElem hk2
      generalize L[k] = r at *
      obtain ⟨key, num, tm⟩ := r
      simp only at c0 c1 c2
      have hJ3 : J (L.take k) (wr.alloc (.cells #[.string key, .int .i64 num, .int .i64 tm] 47)) := hJ _ wr _ none hJs (World.grownBy_alloc wr _ none) (fun r e => by cases e)
      obtain ⟨fn, tmps, assign, body, hy, hR⟩ := hY (L.take k) ⟨key, num, tm⟩ _ hJ3 (by simp; omega)
      have hBa : Below B0 W (wr.alloc (.cells #[.string key, .int .i64 num, .int .i64 tm] 47)) := hb.alloc (Nat.le_trans hB0 hb.size) _
      have HSN := Lib.hid hsn
      simp only [encRg] at hy
      clear hsn
      gi_wp2
      refine hR.mono ?_
      rintro e W3 (⟨rfl, hJ4, hk3⟩ | ⟨rfl, hJx3⟩)
      · gi_wp2
        go_roundw
        case rel => exact ⟨k + 1, by omega, by go_num, by rw [HSN.out]; exact hJ4, hBa.trans hk3⟩
        case measure => simp [intOf]; omega
      · gi_wp2
        refine bodyPost_ret (results_none rfl _ _ _) rfl ?_
        exact ⟨⟨_, rfl⟩, .inr ⟨_, trivial, hJx3⟩⟩
    · have ek : L.take k = L := List.take_of_length_le (by omega)
      rw [ek] at hJs
      gi_wp2
      go_end0
      exact ⟨⟨_, rfl⟩, .inl ⟨_, rfl, hJs⟩⟩
theorem valsR_any (la : Option Addr) (n c : Nat) (w : World) :
    Calls Tryd.prog 40 #[.slice la n c] w fun e w' => e = .returned (.func (.func 55) #[] #[.pointer (some ⟨w.heap.size, 0, none⟩)]) ∧ w' = w.alloc (.cells #[.slice la n c] 22) := by
  have hmf : ∀ (fn : Fn) (first cap : Array Value) (w : World), (Instr.makeFunc fn first cap).run Tryd.prog w = .ok (.func fn first cap) w := fun _ _ _ _ => rfl
  go_enter Tryd.func40, Tryd.ntmps40
  go_wp2_with fail
  go_ret
  exact ⟨rfl, rfl⟩
theorem valsR_stops (F : Fence) (n : Nat) (h8 : F.fn 55) (hro : F.round = none) (hn : 1 ≤ n) (Bm : Nat) (la : Option Addr) (c : Nat) (L : List Rg) (w : World) (B0 : Nat) (hB0 : B0 ≤ w.heap.size)
    (hm : w.cell? ⟨Bm, 0, none⟩ = some (.slice la L.length c)) (hcs : CsAt w la (rcells L)) (hBm : Bm < B0) (hlt : ∀ k, k < L.length → ∃ b o, la = some ⟨b, o, none⟩ ∧ b < B0) (hL : L.length ≤ 1000000000) :
    SeqStopsK F n Tryd.prog 55 #[.pointer (some ⟨Bm, 0, none⟩)] encRg (Below B0) (fun xs => xs = L) (fun _ => True) L.length w := fun l J Jx W hW hJ _ hY h0 => by
  exact valsR1_in F n h8 hro hn l Bm la c L B0 J Jx hY W hJ ((hW.cell (p := ⟨Bm, 0, none⟩) (by show Bm < _; omega)).trans hm) (hcs.keep hW) hlt (Nat.le_trans hB0 hW.size) hL h0
set_option maxRecDepth 100000 in
set_option maxHeartbeats 4000000 in
theorem appendSeqR_any (Bm : Nat) (la : Option Addr) (c : Nat) (L : List Rg) (w : World) (hBm : Bm < w.heap.size) (hm : w.cell? ⟨Bm, 0, none⟩ = some (.slice la L.length c)) (hL : CsAt w la (rcells L)) (hsz : L.length ≤ 1000000000) :
    Calls Tryd.prog 63 #[.slice none 0 0, .func (.func 55) #[] #[.pointer (some ⟨Bm, 0, none⟩)]] w fun e w' => (∃ v, e = .returned v ∧ w'.ownsRow w.heap.size 47 3 v L.length (rcells L)) ∧ Below w.heap.size w w' := by
  obtain ⟨i0, hi, hz0, hz1, hz2⟩ := info_parts infoR
  refine (callsIn_wide (n := 4)).1 ?_
  have f1 : Fence.wide.fn 55 := trivial
  refine callsIn_of_wp_marks Tryd.func63 rfl trivial ?_ rfl
  simp only [Tryd.ntmps63, List.size_toArray, List.length_cons, List.length_nil, Nat.reduceAdd, Nat.reduceSub, Array.replicate_succ, Array.replicate_zero, List.push_toArray, List.append_toArray, List.nil_append, List.cons_append]
  gi_wp2
  have hB0 : Below w.heap.size w (w.alloc (.cells #[.slice none 0 0] 22)) := (Below.refl _ w).alloc (Nat.le_refl _) _
  have bP := Boxed.new w 22 (.slice none 0 0)
  have hm1 : (w.alloc (.cells #[.slice none 0 0] 22)).cell? ⟨Bm, 0, none⟩ = some (.slice la L.length c) := (hB0.cell (p := ⟨Bm, 0, none⟩) hBm).trans hm
  have hs1 : (w.alloc (.cells #[.slice none 0 0] 22)).heap.size = w.heap.size + 1 := by simp
  have h1 : 1 ≤ 4 := by omega
  refine wpIn_rangeFunc_ownH (F := Fence.wide) (n := 4) (encs := encRg) rfl h1 (gf := 55) (lb := #[.pointer (some ⟨Bm, 0, none⟩)]) rfl trivial (enters_of Tryd.func55 (by kernel_rfl) rfl)
    (valsR_stops Fence.wide 3 trivial rfl (by omega) Bm la c L _ w.heap.size (by omega) hm1 (hL.keep hB0) hBm (lt_of_cs hL) hsz) (fun h k => Below.trans h k) ?hKb (Below.refl _ _) (fun _ => rfl)
    (fun pre W => (∃ v, Boxed W w.heap.size 22 v ∧ W.ownsRow w.heap.size 47 3 v pre.length (rcells pre) ∧ True) ∧ Below w.heap.size w W ∧ w.heap.size + 1 ≤ W.heap.size)
    (fun _ _ _ => False) ?hI (fun _ _ _ _ _ hs _ _ => hs) ?h0
    (fun x a' W => ∃ Bx, w.heap.size + 1 ≤ Bx ∧ W.heap[Bx]? = some (.cells #[.string x.key, .int .i64 x.num, .int .i64 x.tm] 47 (0, 0)) ∧ a' = { tmps := #[.slice none 0 0, .func (.func 55) #[] #[.pointer (some ⟨Bm, 0, none⟩)], .pointer (some ⟨w.heap.size, 0, none⟩), undef, .slice none 0 0, .pointer (some ⟨Bx, 0, none⟩), .func (.func 55) #[] #[.pointer (some ⟨Bm, 0, none⟩)], .agg #[.string x.key, .int .i64 x.num, .int .i64 x.tm], undef, undef, undef, undef, undef], defers := [] }) ?hAx ?assign ?body ?done ?stop
  case hKb => exact fun W l o o' hl h h1 h2 => belowK_b (w := w.alloc (.cells #[.slice none 0 0] 22)) (by simp) W l o o' hl h h1 h2
  case hI =>
    intro s A B row hs hg hr
    exact ⟨holdsRow_own w.heap.size w.heap.size 22 47 3 (fun (s : List Rg) => s.length) (fun s => rcells s) (fun _ _ => True) s A B row hs.1 hg (fun r e => (hr r e).2), hs.2.1.grown hg (by have := hs.2.2; omega) (fun k e => by have := (hr k e).1; simp at this; omega), Nat.le_trans hs.2.2 hg.size⟩
  case h0 => exact ⟨⟨_, bP, World.ownsRow_nil _ _ _ _, trivial⟩, hB0, by simp⟩
  case hAx =>
    rintro x a' s A B row ⟨Bx, h1, h2, h4⟩ hg hr
    exact ⟨Bx, h1, boxed3_keep h2 hg (fun r e => (hr r e).2), h4⟩
  case assign =>
    intro l pre x W K hi hK
    obtain ⟨xk, xn, xt⟩ := x
    unfold encRg
    gi_wp2
    obtain ⟨⟨v, o1, o2, -⟩, o3, o4⟩ := hi
    refine hK _ _ ((KeepsOthers.alloc _ _).from _) ((Below.refl _ _).alloc (by omega) _) ⟨⟨v, o1.alloc _, o2.alloc _, trivial⟩, o3.alloc (by omega) _, by simp; omega⟩ ⟨W.heap.size, o4, alloc_new W _, rfl⟩
  case body =>
    rintro l pre x a' W hl ⟨r, hr⟩ ⟨⟨v, hv, hrow, -⟩, hB, hsz1⟩ ⟨Bx, hBx, h2, rfl⟩ hlt
    obtain ⟨xk, xn, xt⟩ := x
    simp only at h2
    have c0 : W.cell? ⟨Bx, 0, none⟩ = some (.string xk) := by simp [World.cell?, h2]
    have c1 : W.cell? ⟨Bx, 1, none⟩ = some (.int .i64 xn) := by simp [World.cell?, h2]
    have c2 : W.cell? ⟨Bx, 2, none⟩ = some (.int .i64 xt) := by simp [World.cell?, h2]
    have cv := hv.cell
    have hte : (22 : TypeId) ≠ 47 := by decide
    obtain ⟨A0, cap0, rfl⟩ := row_slice hrow
    gi_wp2_with (gi_at_builtin; refine wpListIn_append_own _ rfl _ _ 22 rfl w.heap.size 47 i0 (.agg #[.string ⟨#[]⟩, .int .i64 0, .int .i64 0]) 3 32 Tryd.underlying22 hi hz0 hz1 hz2 rfl (by decide) _ _ _ rfl (hrow.alloc _) ⟨W.heap.size, 0, none⟩ 1 1 [.string xk, .int .i64 xn, .int .i64 xt] rfl rfl (cell_three_at _ _ rfl _ _ _ _) (by intro u hu; simp at hu; rcases hu with rfl | rfl | rfl <;> rfl) (by unfold maxLen; omega) (by omega) (by simp; omega) ?_; intro v' w1 hown' hgrow _; obtain ⟨g', cap', rfl⟩ := ownsRow_succ hown'; obtain ⟨hv1, hv2, hr2, hk2, hb2⟩ := hv.appended hte hrow (by omega) (Nat.le_refl _) hown' hgrow; have k1 := hv1.cell; have k2 := hv1.frozen)
    have hr3 : (w1.setCell ⟨w.heap.size, 0, none⟩ (.slice (some ⟨g', 0, none⟩) (pre.length + 1) cap')).ownsRow w.heap.size 47 3 (.slice (some ⟨g', 0, none⟩) (pre.length + 1) cap') (pre ++ [(⟨xk, xn, xt⟩ : Rg)]).length (rcells (pre ++ [(⟨xk, xn, xt⟩ : Rg)])) := by
      rw [rcells_append, List.length_append]; exact hr2
    exact ⟨hk2.from _, hb2, ⟨⟨_, hv2, by first | exact hr3 | exact ⟨hr3, trivial⟩⟩, hB.trans hb2, Nat.le_trans hsz1 hk2.size⟩⟩
  case done =>
    rintro D ys W hD rfl ⟨⟨v, hv, hrow, -⟩, hB, hsz1⟩ hKD
    have cv := hv.cell
    obtain ⟨A0, cap0, rfl⟩ := row_slice hrow
    gi_wp2
    refine ⟨by simp, .inl ⟨_, _, rfl, run_takeDeferred hKD, ?_⟩⟩
    have hr4 := ownsRow_putObj hrow (.deferred none) hKD rfl
    have hb4 := hB.trans (belowK_b (w := w) (Nat.le_refl _) W D _ (.deferred none) (by simp at hD; omega) hKD rfl rfl)
    exact ⟨_, results_tmp rfl _ _ _, ⟨_, rfl, by simpa using hr4⟩, hb4⟩
  case stop =>
    intro D c pre W hD hS hF
    exact hF.elim
theorem collectR_any (Bm : Nat) (la : Option Addr) (c : Nat) (L : List Rg) (w : World) (hBm : Bm < w.heap.size) (hm : w.cell? ⟨Bm, 0, none⟩ = some (.slice la L.length c)) (hL : CsAt w la (rcells L)) (hsz : L.length ≤ 1000000000) :
    Calls Tryd.prog 53 #[.func (.func 55) #[] #[.pointer (some ⟨Bm, 0, none⟩)]] w fun e w' => (∃ v, e = .returned v ∧ w'.ownsRow w.heap.size 47 3 v L.length (rcells L)) ∧ Below w.heap.size w w' := by
  have H := appendSeqR_any Bm la c L w hBm hm hL hsz
  clear hm hL
  go_enter Tryd.func53, Tryd.ntmps53
  go_wp2_with (go_at_call 63; refine H.mono ?_; rintro e w1 ⟨⟨v, rfl, h2⟩, hb⟩)
  go_ret
  exact ⟨⟨v, rfl, h2⟩, hb⟩
set_option maxRecDepth 100000 in
set_option maxHeartbeats 1000000 in
theorem cmpR_full (a b : Rg) (w : World) : Calls Tryd.prog 41 #[rV a, rV b] w fun e w' => e = .returned (.int .i64 (cmpK a.key a.tm b.key b.tm)) ∧ Below w.heap.size w w' ∧ ∃ q os', w' = Sort.grow (w.drewN q) os' := by
  obtain ⟨a0, a1, a2⟩ := a
  obtain ⟨b0, b1, b2⟩ := b
  simp only [rV, cmpK]
  have HC := fun w' => cmpInt_any a2 b2 w'
  have HS := fun w' => Tryd.strings_Compare a0 b0 w'
  generalize cmpI a2 b2 = y at *
  generalize Lib.compareBytes a0.data.toList b0.data.toList = x at *
  have hcc := cell_new2 ((w.alloc (.cells #[.string a0, .int .i64 a1, .int .i64 a2] 47)).alloc (.cells #[.string b0, .int .i64 b1, .int .i64 b2] 47)) (w.heap.size + 1 + 1) (by simp) (.int .i64 x) (.int .i64 y) 3
  have HO2 := or_any (((w.alloc (.cells #[.string a0, .int .i64 a1, .int .i64 a2] 47)).alloc (.cells #[.string b0, .int .i64 b1, .int .i64 b2] 47)).alloc (.cells #[.int .i64 x, .int .i64 y] 3)).drew (w.heap.size + 1 + 1) x y hcc.1 hcc.2
  clear hcc
  generalize orI x y = z at *
  go_enter Tryd.func41, Tryd.ntmps41
  go_wp2_with fail
  have s0 : ((w.alloc (.cells #[.string a0, .int .i64 a1, .int .i64 a2] 47)).alloc (.cells #[.string b0, .int .i64 b1, .int .i64 b2] 47)).cell? ⟨w.heap.size, 0, none⟩ = some (.string a0) := by simp
  have s1 : ((w.alloc (.cells #[.string a0, .int .i64 a1, .int .i64 a2] 47)).alloc (.cells #[.string b0, .int .i64 b1, .int .i64 b2] 47)).cell? ⟨w.heap.size, 2, none⟩ = some (.int .i64 a2) := by simp
  have s2 : ((w.alloc (.cells #[.string a0, .int .i64 a1, .int .i64 a2] 47)).alloc (.cells #[.string b0, .int .i64 b1, .int .i64 b2] 47)).cell? ⟨w.heap.size + 1, 0, none⟩ = some (.string b0) := by simp
  have s3 : ((w.alloc (.cells #[.string a0, .int .i64 a1, .int .i64 a2] 47)).alloc (.cells #[.string b0, .int .i64 b1, .int .i64 b2] 47)).cell? ⟨w.heap.size + 1, 2, none⟩ = some (.int .i64 b2) := by simp
  go_region_held3 (fun w' => w'.cell? ⟨w.heap.size, 0, none⟩ = some (.string a0) ∧ w'.cell? ⟨w.heap.size, 2, none⟩ = some (.int .i64 a2) ∧ w'.cell? ⟨w.heap.size + 1, 0, none⟩ = some (.string b0) ∧ w'.cell? ⟨w.heap.size + 1, 2, none⟩ = some (.int .i64 b2)) (first | go_keep | (refine ⟨?_, ?_, ?_, ?_⟩ <;> (simp [go_sem, s0, s1, s2, s3]; done))) (first | (go_at_call 37; refine (HC _).mono ?_; rintro e w' ⟨rfl, rfl⟩) | (go_at_call 36; refine (HS _).mono ?_; rintro e w' ⟨rfl, rfl⟩) | (go_at_call 35; refine HO2.mono ?_; rintro e w' ⟨rfl, rfl⟩))
  go_wp2_with fail
  go_ret
  refine ⟨rfl, ?_, 1, ?_⟩
  · exact (((((Below.refl _ _).alloc (Nat.le_refl _) _).alloc (by simp) _).alloc (by simp; omega) _).drew)
  · refine ⟨#[.cells #[.string a0, .int .i64 a1, .int .i64 a2] 47] ++ #[.cells #[.string b0, .int .i64 b1, .int .i64 b2] 47] ++ #[.cells #[.int .i64 x, .int .i64 y] 3], ?_⟩
    rw [Sort.alloc_eq_grow, Sort.alloc_eq_grow, Sort.alloc_eq_grow, Sort.grow_grow, Sort.grow_grow]
    rfl
def cmpRg (a b : Rg) : Int := cmpK a.key a.tm b.key b.tm
theorem cmpRg_lt (a b : Rg) : cmpRg a b < 0 ↔ AhR a b := cmpK_lt _ _ _ _
instance : Inhabited Rg := ⟨⟨⟨#[]⟩, 0, 0⟩⟩
def encM (x : Rg) : List Value := [.string x.key, .int .i64 x.num, .int .i64 x.tm]
theorem ltR (x y : Rg) : ltOf cmpRg x y = decide (AhR x y) := by
  unfold ltOf
  exact decide_eq_decide.2 (cmpRg_lt x y)
theorem swoR : Sort.SWO (ltOf cmpRg) where
  irrefl x := by rw [ltR]; exact decide_eq_false (AhK.irr _ _)
  trans x y z h1 h2 := by
    rw [ltR, decide_eq_true_eq] at *
    exact AhK.trans h1 h2
  ntrans x y z h1 h2 := by
    rw [ltR, decide_eq_false_iff_not] at *
    intro h
    unfold AhR at *
    rcases AhK.tri x.key x.tm y.key y.tm with k | k | k
    · exact h1 k
    · rw [k.1, k.2] at h; exact h2 h
    · exact h2 (k.trans h)
theorem holdsR {w : World} {B g cap : Nat} {xs : List Rg} (h : w.ownsRow B 47 3 (.slice (some ⟨g, 0, none⟩) xs.length cap) xs.length (rcells xs)) : HoldsK encM 3 w g 0 xs.toArray := by
  intro t ht
  simp only [size_flatK, List.size_toArray] at ht
  rw [get_flatK _ _ _ _ (by simpa using ht)]
  have h3 : t / 3 < xs.length := by omega
  refine ⟨?_, by rw [Nat.zero_add]; exact h.frozenAt t⟩
  rw [Nat.zero_add, h.cellAt t ht]
  have e1 : (xs.toArray)[t / 3]! = xs[t / 3] := by simp [h3]
  rw [e1]
  obtain ⟨l0, l1, l2⟩ := rcells_at xs (t / 3) h3
  have hm : t % 3 = 0 ∨ t % 3 = 1 ∨ t % 3 = 2 := by omega
  rcases hm with hm | hm | hm
  · rw [hm]
    have et : t = t / 3 * 3 := by omega
    rw [show (rcells xs)[t]? = (rcells xs)[t / 3 * 3]? from by rw [← et], l0]; simp [encM]
  · rw [hm]
    have et : t = t / 3 * 3 + 1 := by omega
    rw [show (rcells xs)[t]? = (rcells xs)[t / 3 * 3 + 1]? from by rw [← et], l1]; simp [encM]
  · rw [hm]
    have et : t = t / 3 * 3 + 2 := by omega
    rw [show (rcells xs)[t]? = (rcells xs)[t / 3 * 3 + 2]? from by rw [← et], l2]; simp [encM]

set_option maxHeartbeats 2000000 in
theorem sortR_any (w : World) (B : Nat) (A : Option Addr) (cap : Nat) (xs : List Rg) (hrow : w.ownsRow B 47 3 (.slice A xs.length cap) xs.length (rcells xs)) (hB : B ≤ w.heap.size) (hlen : xs.length ≤ 1000000000) :
    Calls Tryd.prog 54 #[.slice A xs.length cap, .func (.func 41) #[] #[]] w fun e w' => e = .returned (.tuple #[]) ∧ (∃ ys : List Rg, ys.Perm xs ∧ ys.Pairwise (fun a b => ¬ AhR b a) ∧ CsAt w' A (rcells ys) ∧ (∀ a, A = some a → a.off = 0 ∧ ∀ i, i < xs.length * 3 → w'.frozen? ⟨a.block, i, none⟩ = false)) ∧ Below B w w' := by
  rcases hrow.2 with ⟨e0, e1⟩ | ⟨g, cap', cur, e0, hgb, hgc, hle, hm, hs, htk⟩
  · have hA : A = none ∧ cap = 0 := by simp only [Value.slice.injEq] at e0; exact ⟨e0.1, e0.2.2⟩
    obtain ⟨rfl, rfl⟩ := hA
    have h0 : xs = [] := List.length_eq_zero_iff.1 e1
    subst h0
    have hc := AnyF.slices_SortFunc_none Tryd.sortRc none 0 (.func (.func 41) #[] #[]) w
    change Calls Tryd.prog 54 _ _ _ at hc
    refine hc.mono ?_
    rintro e w' ⟨rfl, rfl⟩
    exact ⟨rfl, ⟨[], List.Perm.refl _, List.Pairwise.nil, .inl rfl, by intro a h; cases h⟩, Below.refl _ _⟩
  · simp only [Value.slice.injEq, true_and] at e0
    obtain ⟨rfl, rfl⟩ := e0
    have hH := holdsR hrow
    have hgl : g < w.heap.size := (hrow.lt g rfl).2
    have eg : ∀ args w, (callFunc 41 args).run Tryd.prog w = .ok (.enter 41 args) w := enters_of Tryd.func41 (by kernel_rfl) rfl
    have hcmp : CmpLays Tryd.prog 41 #[] encM 3 cmpRg g 0 xs.toArray.size w := fun m os dk _ x y => (cmpR_full x y _).mono fun e w' h => ⟨h.1, h.2.2⟩
    have hc := AnyQ.slices_SortFunc Tryd.sortRc 3 Tryd.isAgg47 Tryd.sizeOf47 encM (fun _ => rfl) (fun x v hv => by
      simp [encM] at hv
      rcases hv with rfl | rfl | rfl <;> rfl) cmpRg swoR 41 #[] g 0 cap xs.toArray w eg hcmp hH hgl (by simp; omega)
    change Calls Tryd.prog 54 _ _ _ at hc
    simp only [List.size_toArray] at hc
    refine hc.mono ?_
    rintro e w' ⟨rfl, d', m, os, hp, hso, rfl⟩
    obtain ⟨hp1, -, hp3⟩ := hp
    simp only [List.size_toArray] at hp1
    have hperm : d'.toList.Perm xs := by
      have e1 : d'.extract 0 xs.length = d' := by rw [← hp1]; simp
      have e2 : xs.toArray.extract 0 xs.length = xs.toArray := by simp
      rw [e1, e2] at hp3
      simpa using hp3
    have hHq := holdsK_sortWorldK_c encM 3 w g 0 xs.toArray d' m os hH hgl (by simpa using hp1)
    refine ⟨rfl, ⟨d'.toList, hperm, ?_, ?_, ?_⟩, below_sort _ _ w g 0 m d' os hgb hB⟩
    · rw [List.pairwise_iff_getElem]
      intro i j hi hj hij
      have hi' : i < d'.size := by simpa using hi
      have hj' : j < d'.size := by simpa using hj
      have := hso i j (Nat.zero_le _) hij (by omega)
      rw [ltR, decide_eq_false_iff_not] at this
      simp only [getElem!_pos d' i hi', getElem!_pos d' j hj'] at this
      simpa using this
    · refine rcs_of (fun i hi => ?_)
      have hi' : i < d'.size := by simpa using hi
      have c0 := (hHq.cell hi' (show 0 < 3 by omega)).1
      have c1 := (hHq.cell hi' (show 1 < 3 by omega)).1
      have c2 := (hHq.cell hi' (show 2 < 3 by omega)).1
      simp only [encM, getElem!_pos d' i hi', Nat.zero_add, Nat.add_zero, List.getElem!_cons_zero, List.getElem!_cons_succ] at c0 c1 c2
      simp only [Array.getElem_toList, Nat.zero_add]
      exact ⟨c0, c1, c2⟩
    · intro a ha
      injection ha with ha
      subst ha
      refine ⟨rfl, fun i hi => ?_⟩
      have hi4 : i / 3 < d'.size := by omega
      have := (hHq.cell hi4 (show i % 3 < 3 by omega)).2
      have e : 0 + i / 3 * 3 + i % 3 = i := by omega
      simpa [e, Nat.div_add_mod'] using this

set_option maxRecDepth 100000 in
set_option maxHeartbeats 1000000 in
theorem sortedR_any (Bm : Nat) (la : Option Addr) (c : Nat) (L : List Rg) (w : World) (hBm : Bm < w.heap.size) (hm : w.cell? ⟨Bm, 0, none⟩ = some (.slice la L.length c)) (hL : CsAt w la (rcells L)) (hsz : L.length ≤ 1000000000) :
    Calls Tryd.prog 39 #[.func (.func 55) #[] #[.pointer (some ⟨Bm, 0, none⟩)], .func (.func 41) #[] #[]] w fun e w' => ∃ A cap ys, e = .returned (.slice A L.length cap) ∧ CsAt w' A (rcells ys) ∧ ys.Perm L ∧ ys.Pairwise (fun a b => ¬ AhR b a) ∧ Below w.heap.size w w' := by
  have H := collectR_any Bm la c L w hBm hm hL hsz
  clear hm hL
  go_enter Tryd.func39, Tryd.ntmps39
  go_wp2_with (go_at_call 53; refine H.mono ?_; rintro e w1 ⟨⟨v, rfl, h2⟩, hb⟩; refine Hid.out ?_)
  refine Lib.hid ?_
  obtain ⟨A, cap, rfl⟩ := row_slice h2
  have HS := sortR_any w1 w.heap.size A cap L h2 hb.size hsz
  clear H h2
  go_wp2_with (go_at_call 54; refine HS.mono ?_; rintro e w2 ⟨rfl, ⟨ys, hp, hs, hc, hz⟩, hb2⟩; refine Hid.out ?_)
  refine Lib.hid ?_
  have HP := Lib.hid hp
  have HQ := Lib.hid hs
  have HC := Lib.hid hc
  have B2 := hb.trans hb2
  clear HS hp hs hc hz
  go_wp2_with fail
  go_ret
  exact ⟨A, cap, ys, rfl, HC.out, HP.out, HQ.out, B2⟩
set_option maxHeartbeats 1000000 in
theorem byKT_any (la : Option Addr) (c : Nat) (L : List Rg) (w : World) (hL : CsAt w la (rcells L)) (hsz : L.length ≤ 1000000000) :
    Calls Tryd.prog 24 #[.slice la L.length c] w fun e w' => ∃ A cap ys, e = .returned (.slice A L.length cap) ∧ CsAt w' A (rcells ys) ∧ ys.Perm L ∧ ys.Pairwise (fun a b => ¬ AhR b a) ∧ Below w.heap.size w w' := by
  have HV := valsR_any la L.length c w
  have B1 : Below w.heap.size w (w.alloc (.cells #[.slice la L.length c] 22)) := (Below.refl _ _).alloc (Nat.le_refl _) _
  have HS := sortedR_any w.heap.size la c L (w.alloc (.cells #[.slice la L.length c] 22)) (by simp) (by simp) (hL.keep B1) hsz
  clear hL
  go_enter Tryd.func24, Tryd.ntmps24
  go_wp2_with (first | (go_at_call 40; refine HV.mono ?_; rintro e u1 ⟨rfl, rfl⟩) | (go_at_call 39; refine HS.mono ?_; rintro e u2 ⟨A2, c2, ys, rfl, h1, h2, h3, b2⟩; refine Hid.out ?_))
  refine Lib.hid ?_
  have H1 := Lib.hid h1
  have H2 := Lib.hid h2
  have H3 := Lib.hid h3
  have B2 := below_after b2 B1
  clear h1 h2 h3 HV HS b2
  go_wp2_with fail
  go_ret
  exact ⟨A2, c2, ys, rfl, H1.out, H2.out, H3.out, B2⟩
end Go.Proofs.YtfpfaekbakilpaaDoor
