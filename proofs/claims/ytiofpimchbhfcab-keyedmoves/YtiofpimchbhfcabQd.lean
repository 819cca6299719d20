/- The states of a map, gathered, sorted. -/
import Derived.RangeFuncNested
import Derived.RangeFuncBound
import Derived.RangeFuncCalls
import Derived.RangeFuncLeaves
import Derived.Shelf.Abstract
import Derived.Shelf.RegionOpen
import Derived.OwnWalkIn
import Derived.TacticsInMore
import Derived.LoopNIn
import Derived.LoopIn
import Derived.RangeFuncBox
import Derived.Sort.MapsRangeIn
import Derived.Sort.KeysCollected
import Derived.Test.YtiofpimchbhfcabQb
import Derived.Test.YtiofpimchbhfcabFt
namespace Go.Proofs.Ytiofpimchbhfcab
open Go.RowKit Go.Shelf Go.Sort
set_option linter.unusedVariables false

attribute [local go_sem] Oper.semAt_some

def encPl (p : Int × ByteArray) : Value := plV p.1 p.2
/-- All have come: each key once, with its entry. -/
def AllOf (D0 : DataW Unit) (ps : List (List UInt8 × Hd)) : Prop := (ps.map (·.1)).Nodup ∧ (∀ x, x ∈ ps.map (·.1) ↔ Maps.has D0 (.string x) = true) ∧ (∀ p ∈ ps, ∀ zd, D0.atKey (.string p.1) zd = hdD p.2) ∧ ps.length ≤ Maps.size D0
def encHd (x : Hd) : Array Value := #[.agg #[.int .i64 x.nd, .string x.key, .int .i64 x.a, .int .i64 x.b]]

set_option maxRecDepth 100000 in
set_option maxHeartbeats 2000000 in
theorem vals1_in (F : Fence) (n : Nat) (h8 : F.fn 53) (hro : F.round = none) (hn : 1 ≤ n) (l Bm b nn : Nat) (D0 : DataW Unit) (J Jx : List Hd → World → Prop)
    (hY : ∀ pre x W, J pre W → pre.length < Maps.size D0 → YieldAt F (n - 1) Try.prog l (encHd x) W fun e W' =>
      (e = .returned (.bool true) ∧ J (pre ++ [x]) W' ∧ KeepsWalks W W') ∨ (e = .returned (.bool false) ∧ Jx (pre ++ [x]) W'))
    (W : World) (hJ : AbidesFrom W.heap.size J) (hm : W.cell? ⟨Bm, 0, none⟩ = some (.map (some b))) (hown : W.ownsMap Try.prog 57 hdR b nn D0) (h0 : J [] W) :
    CallsIn F n Try.prog 53 #[.func (.yield l) #[] #[], .pointer (some ⟨Bm, 0, none⟩)] W fun e W' => (∃ v, e = .returned v) ∧
      ((∃ xs, (∃ ps, AllOf D0 ps ∧ xs = ps.map (·.2)) ∧ J xs W') ∨ (∃ pre, True ∧ Jx pre W')) := by
  refine callsIn_of_wp Try.func53 rfl h8 ?_ hro
  simp only [Try.ntmps53, List.size_toArray, List.length_cons, List.length_nil, Nat.reduceAdd, Nat.reduceSub, Array.replicate_succ, Array.replicate_zero, List.push_toArray, List.append_toArray, List.nil_append, List.cons_append]
  gi_wp2_with (first
    | (gi_at_range; refine wpListIn_range_own _ rfl _ 50 rfl 57 29 keyedPl Try.underlying50 _ b nn _ rfl hown ?_; intro w0 hrg0 hg0 hs0)
    | gi_in)
  go_frame
  gi_loopw [4] (fun _ wr => ∃ (left : Lit → Bool) (cnt : Nat) (ps : List (List UInt8 × Hd)), wr.ranges Try.prog 57 hdR b W.heap.size nn D0 left cnt ∧ ps.length + cnt ≤ Maps.size D0 ∧ Collected D0 left (ps.map (·.1)) ∧ (∀ p ∈ ps, ∀ zd, D0.atKey (.string p.1) zd = hdD p.2) ∧ J (ps.map (·.2)) wr)
    (fun _ wr => wr.rangeLeft b W.heap.size)
  case atStart =>
    exact ⟨_, _, [], hrg0, by simp, Collected.start D0, by simp, hJ [] W w0 none h0 hg0 (fun r e => by cases e)⟩
  case round =>
    obtain ⟨left, cnt, ps, hrg, hcs, hC, hV, hJs⟩ := hrel
    gi_wp2_with (first
      | (gi_at_next; refine wpListIn_next_ranges _ rfl _ rfl 57 keyedPl hdR encPl hdV (fun key kl hk => by obtain ⟨n, k, hx, _⟩ := keyOf_inv hk; exact ⟨(n, k), hx⟩) (fun v y hv => by obtain ⟨c, rfl, _⟩ := hdR_any hv; exact ⟨c, rfl⟩) b W.heap.size nn _ _ _ rfl hrg ?_ ?_)
      | gi_in)
    · intro hc0 hl0
      gi_wp2
      go_end0
      exact ⟨⟨_, rfl⟩, .inl ⟨_, ⟨ps, ⟨hC.1, fun x => by rw [hC.2 x, hl0]; simp, hV, by omega⟩, rfl⟩, hJs⟩⟩
    · intro xn xk c kl yd yp w2 cnt2 hkey hlk hv hat hrg2 hlt hg2 hs2 hen
      obtain ⟨n', k', ex, _, rfl⟩ := keyOf_inv hkey
      obtain ⟨x, hx⟩ : ∃ x, x = plB n' k' := ⟨_, rfl⟩
      rw [← hx] at hlk hat hrg2
      simp only [encPl, plV] at hen ⊢
      rw [hdR_mk] at hv
      injection hv with hv
      injection hv with hv1 hv2
      subst hv1
      obtain ⟨cn, ck, ca, cb⟩ := c
      have hJ2 : J (ps.map (·.2)) w2 := hJ _ wr w2 (some W.heap.size) hJs hg2 (fun r e => by cases e; exact ⟨Nat.le_refl _, hrg.iter_walk⟩)
      have hJ3 : J (ps.map (·.2)) (w2.alloc (.cells #[.int .i64 cn, .string ck, .int .i64 ca, .int .i64 cb] 29)) := hJ _ w2 _ none hJ2 (World.grownBy_alloc w2 _ none) (fun r e => by cases e)
      have hrg3 := hrg2.of_walks (KeepsWalks.alloc w2 (.cells #[.int .i64 cn, .string ck, .int .i64 ca, .int .i64 cb] 29))
      obtain ⟨fn, tmps, assign, body, hy, hR⟩ := hY (ps.map (·.2)) ⟨cn, ck, ca, cb⟩ _ hJ3 (by simp; omega)
      have hC2 : Collected D0 (fun z => left z && !z.sameKey (.string x)) ((ps ++ [(x, (⟨cn, ck, ca, cb⟩ : Hd))]).map (·.1)) := by simpa using hC.step hlk hat
      have hV2 : ∀ p ∈ ps ++ [(x, (⟨cn, ck, ca, cb⟩ : Hd))], ∀ zd, D0.atKey (.string p.1) zd = hdD p.2 := fun p hp => (List.mem_append.1 hp).elim (hV p) (fun e => by simp at e; subst e; exact hat)
      have HC := Lib.hid hC2
      have HV := Lib.hid hV2
      simp only [encHd] at hy
      simp only [hdV] at hen ⊢
      clear hs2 hC2 hV2 hat hkey ex hC hV hx
      gi_wp2
      refine hR.mono ?_
      rintro e W3 (⟨rfl, hJ4, hk3⟩ | ⟨rfl, hJx3⟩)
      · gi_wp2
        have hrg4 := hrg3.of_walks hk3
        go_roundw
        case rel => exact ⟨_, cnt2, ps ++ [(x, ⟨cn, ck, ca, cb⟩)], hrg4, by simp; omega, HC.out, HV.out, by simpa using hJ4⟩
        case measure => rw [hrg4.left_eq, hrg.left_eq]; exact hlt
      · gi_wp2
        refine bodyPost_ret (results_none rfl _ _ _) rfl ?_
        exact ⟨⟨_, rfl⟩, .inr ⟨_, trivial, hJx3⟩⟩
theorem vals_any (b : Nat) (w : World) :
    Calls Try.prog 43 #[.map (some b)] w fun e w' => e = .returned (.func (.func 53) #[] #[.pointer (some ⟨w.heap.size, 0, none⟩)]) ∧ w' = w.alloc (.cells #[.map (some b)] 50) := by
  have hmf : ∀ (fn : Fn) (first cap : Array Value) (w : World), (Instr.makeFunc fn first cap).run Try.prog w = .ok (.func fn first cap) w := fun _ _ _ _ => rfl
  go_enter Try.func43, Try.ntmps43
  go_wp2_with fail
  go_ret
  exact ⟨rfl, rfl⟩
theorem vals_stops (F : Fence) (n : Nat) (h8 : F.fn 53) (hro : F.round = none) (hn : 1 ≤ n) (Bm b nn : Nat) (D0 : DataW Unit) (w : World) (hBm : Bm < w.heap.size)
    (hm : w.cell? ⟨Bm, 0, none⟩ = some (.map (some b))) (hown : w.ownsMap Try.prog 57 hdR b nn D0) :
    SeqStopsK F n Try.prog 53 #[.pointer (some ⟨Bm, 0, none⟩)] encHd KeepsWalks (fun xs => ∃ ps, AllOf D0 ps ∧ xs = ps.map (·.2)) (fun _ => True) (Maps.size D0) w := fun l J Jx W hW hJ _ hY h0 => by
  have hown' : W.ownsMap Try.prog 57 hdR b nn D0 := own_block hown (hW.block b hown.lt)
  exact vals1_in F n h8 hro hn l Bm b nn D0 J Jx hY W hJ ((hW.cell (p := ⟨Bm, 0, none⟩) hBm).trans hm) hown' h0

theorem boxed3_keep {W W' : World} {row : Option Nat} {B : Nat} {cs : Array Value} {t : TypeId} (h : W.heap[B]? = some (.cells cs t (0, 0))) (hg : W.grownBy W' row) (hr : ∀ r, row = some r → ∃ o : Obj, W.heap[r]? = some o ∧ o.isCells = false) : W'.heap[B]? = some (.cells cs t (0, 0)) := by
  refine (hg.block B (Array.getElem?_eq_some_iff.1 h).1 (fun e => ?_)).trans h
  obtain ⟨o, ho, hc⟩ := hr B e.symm
  rw [h] at ho; cases ho; cases hc

set_option maxRecDepth 100000 in
set_option maxHeartbeats 4000000 in
/-- AppendSeq, from nothing, over the values of a map. -/
theorem appendSeq_any (Bm b nn : Nat) (D0 : DataW Unit) (w : World) (hBm : Bm < w.heap.size) (hm : w.cell? ⟨Bm, 0, none⟩ = some (.map (some b))) (hown : w.ownsMap Try.prog 57 hdR b nn D0) (hsz : Maps.size D0 ≤ 1000000000) :
    Calls Try.prog 58 #[.slice none 0 0, .func (.func 53) #[] #[.pointer (some ⟨Bm, 0, none⟩)]] w fun e w' => (∃ v ps, e = .returned v ∧ AllOf D0 ps ∧ w'.ownsRow w.heap.size 29 4 v (ps.map (·.2)).length (hcells (ps.map (·.2)))) ∧ Below w.heap.size w w' := by
  obtain ⟨i0, hi, hz0, hz1, hz2⟩ := info_parts infoHd
  refine (callsIn_wide (n := 4)).1 ?_
  have f1 : Fence.wide.fn 53 := trivial
  refine callsIn_of_wp_marks Try.func58 rfl trivial ?_ rfl
  simp only [Try.ntmps58, List.size_toArray, List.length_cons, List.length_nil, Nat.reduceAdd, Nat.reduceSub, Array.replicate_succ, Array.replicate_zero, List.push_toArray, List.append_toArray, List.nil_append, List.cons_append]
  gi_wp2
  have hB0 : Below w.heap.size w (w.alloc (.cells #[.slice none 0 0] 22)) := (Below.refl _ w).alloc (Nat.le_refl _) _
  have bP := Boxed.new w 22 (.slice none 0 0)
  have hm1 : (w.alloc (.cells #[.slice none 0 0] 22)).cell? ⟨Bm, 0, none⟩ = some (.map (some b)) := (hB0.cell (p := ⟨Bm, 0, none⟩) hBm).trans hm
  have hs1 : (w.alloc (.cells #[.slice none 0 0] 22)).heap.size = w.heap.size + 1 := by simp
  have h1 : 1 ≤ 4 := by omega
  refine wpIn_rangeFunc_ownH (F := Fence.wide) (n := 4) (encs := encHd) rfl h1 (gf := 53) (lb := #[.pointer (some ⟨Bm, 0, none⟩)]) rfl trivial (enters_of Try.func53 (by kernel_rfl) rfl)
    (vals_stops Fence.wide 3 trivial rfl (by omega) Bm b nn D0 _ (by omega) hm1 (hown.alloc _)) (fun h k => KeepsWalks.trans h k) ?hKb (Below.refl _ _) (fun _ => rfl)
    (fun pre W => (∃ v, Boxed W w.heap.size 22 v ∧ W.ownsRow w.heap.size 29 4 v pre.length (hcells pre) ∧ True) ∧ Below w.heap.size w W ∧ w.heap.size + 1 ≤ W.heap.size)
    (fun _ _ _ => False) ?hI (fun _ _ _ _ _ hs _ _ => hs) ?h0
    (fun x a' W => ∃ Bx, w.heap.size + 1 ≤ Bx ∧ W.heap[Bx]? = some (.cells #[.int .i64 x.nd, .string x.key, .int .i64 x.a, .int .i64 x.b] 29 (0, 0)) ∧ a' = { tmps := #[.slice none 0 0, .func (.func 53) #[] #[.pointer (some ⟨Bm, 0, none⟩)], .pointer (some ⟨w.heap.size, 0, none⟩), undef, .slice none 0 0, .pointer (some ⟨Bx, 0, none⟩), .func (.func 53) #[] #[.pointer (some ⟨Bm, 0, none⟩)], .agg #[.int .i64 x.nd, .string x.key, .int .i64 x.a, .int .i64 x.b], undef, undef, undef, undef, undef], defers := [] }) ?hAx ?assign ?body ?done ?stop
  case hKb => exact fun W l o o' hl h _ hw => KeepsWalks.putObj o' h hw
  case hI =>
    intro s A B row hs hg hr
    exact ⟨holdsRow_own w.heap.size w.heap.size 22 29 4 (fun (s : List Hd) => s.length) (fun s => hcells s) (fun _ _ => True) s A B row hs.1 hg (fun r e => (hr r e).2), hs.2.1.grown hg (by have := hs.2.2; omega) (fun k e => by have := (hr k e).1; simp at this; omega), Nat.le_trans hs.2.2 hg.size⟩
  case h0 => exact ⟨⟨_, bP, World.ownsRow_nil _ _ _ _, trivial⟩, hB0, by simp⟩
  case hAx =>
    rintro x a' s A B row ⟨Bx, h1, h2, h4⟩ hg hr
    exact ⟨Bx, h1, boxed3_keep h2 hg (fun r e => (hr r e).2), h4⟩
  case assign =>
    intro l pre x W K hi hK
    obtain ⟨xn, xk, xa, xb⟩ := x
    unfold encHd
    gi_wp2
    obtain ⟨⟨v, o1, o2, -⟩, o3, o4⟩ := hi
    refine hK _ _ ((KeepsOthers.alloc _ _).from _) (KeepsWalks.alloc _ _) ⟨⟨v, o1.alloc _, o2.alloc _, trivial⟩, o3.alloc (by omega) _, by simp; omega⟩ ⟨W.heap.size, o4, World.alloc_heap_new W _, rfl⟩
  case body =>
    rintro l pre x a' W hl ⟨r, hr⟩ ⟨⟨v, hv, hrow, -⟩, hB, hsz1⟩ ⟨Bx, hBx, h2, rfl⟩ hlt
    obtain ⟨xn, xk, xa, xb⟩ := x
    simp only at h2
    have c0 : W.cell? ⟨Bx, 0, none⟩ = some (.int .i64 xn) := by simp [World.cell?, h2]
    have c1 : W.cell? ⟨Bx, 1, none⟩ = some (.string xk) := by simp [World.cell?, h2]
    have c2 : W.cell? ⟨Bx, 2, none⟩ = some (.int .i64 xa) := by simp [World.cell?, h2]
    have c3 : W.cell? ⟨Bx, 3, none⟩ = some (.int .i64 xb) := by simp [World.cell?, h2]
    have cv := hv.cell
    have hte : (22 : TypeId) ≠ 29 := by decide
    obtain ⟨A0, cap0, rfl⟩ := row_slice hrow
    gi_wp2_with (gi_at_builtin; refine wpListIn_append_own _ rfl _ _ 22 rfl w.heap.size 29 i0 (.agg #[.int .i64 0, .string ⟨#[]⟩, .int .i64 0, .int .i64 0]) 4 40 Try.underlying22 hi hz0 hz1 hz2 rfl (by decide) _ _ _ rfl (hrow.alloc _) ⟨W.heap.size, 0, none⟩ 1 1 [.int .i64 xn, .string xk, .int .i64 xa, .int .i64 xb] rfl rfl (cell_four_new _ _ _ _ _ _) (by intro u hu; simp at hu; rcases hu with rfl | rfl | rfl | rfl <;> rfl) (by unfold maxLen; omega) (by omega) (by simp; omega) ?_; intro v' w1 hown' hgrow _; obtain ⟨g', cap', rfl⟩ := ownsRow_succ hown'; obtain ⟨hv1, hv2, hr2, hk2, hb2⟩ := hv.appended hte hrow (by omega) (Nat.le_refl _) hown' hgrow; have k1 := hv1.cell; have k2 := hv1.frozen)
    have hr3 : (w1.setCell ⟨w.heap.size, 0, none⟩ (.slice (some ⟨g', 0, none⟩) (pre.length + 1) cap')).ownsRow w.heap.size 29 4 (.slice (some ⟨g', 0, none⟩) (pre.length + 1) cap') (pre ++ [(⟨xn, xk, xa, xb⟩ : Hd)]).length (hcells (pre ++ [(⟨xn, xk, xa, xb⟩ : Hd)])) := by
      rw [hcells_append, List.length_append]; exact hr2
    exact ⟨hk2.from _, hk2.walks, ⟨⟨_, hv2, by first | exact hr3 | exact ⟨hr3, trivial⟩⟩, hB.trans hb2, Nat.le_trans hsz1 hk2.size⟩⟩
  case done =>
    rintro D ys W hD ⟨ps, hall, rfl⟩ ⟨⟨v, hv, hrow, -⟩, hB, hsz1⟩ hKD
    have cv := hv.cell
    obtain ⟨A0, cap0, rfl⟩ := row_slice hrow
    gi_wp2
    refine ⟨by simp, .inl ⟨_, _, rfl, run_takeDeferred hKD, ?_⟩⟩
    have hr4 := ownsRow_putObj hrow (.deferred none) hKD rfl
    have hb4 := hB.trans (belowK_b (w := w) (Nat.le_refl _) W D _ (.deferred none) (by simp at hD; omega) hKD rfl rfl)
    simp only [List.length_map] at hr4
    exact ⟨_, results_tmp rfl _ _ _, ⟨_, ps, rfl, hall, by simpa using hr4⟩, hb4⟩
  case stop =>
    intro D c pre W hD hS hF
    exact hF.elim
theorem collect_any (Bm b nn : Nat) (D0 : DataW Unit) (w : World) (hBm : Bm < w.heap.size) (hm : w.cell? ⟨Bm, 0, none⟩ = some (.map (some b))) (hown : w.ownsMap Try.prog 57 hdR b nn D0) (hsz : Maps.size D0 ≤ 1000000000) :
    Calls Try.prog 51 #[.func (.func 53) #[] #[.pointer (some ⟨Bm, 0, none⟩)]] w fun e w' => (∃ v ps, e = .returned v ∧ AllOf D0 ps ∧ w'.ownsRow w.heap.size 29 4 v (ps.map (·.2)).length (hcells (ps.map (·.2)))) ∧ Below w.heap.size w w' := by
  have H := appendSeq_any Bm b nn D0 w hBm hm hown hsz
  clear hm hown
  go_enter Try.func51, Try.ntmps51
  go_wp2_with (go_at_call 58; refine H.mono ?_; rintro e w1 ⟨⟨v, ps, rfl, h1, h2⟩, hb⟩)
  go_ret
  exact ⟨⟨v, ps, rfl, h1, h2⟩, hb⟩
end Go.Proofs.Ytiofpimchbhfcab
