/- The values of a map, gathered into a slice. -/
import Derived.Test.YtpjjjelibpoohabDoorTp
namespace Go.Proofs.YtpjjjelibpoohabDoor
open Go.RowKit Go.Shelf Go.Sort
open Go.Maps (string_keyed)

attribute [local go_sem] Oper.semAt_some

theorem vals_any (b : Nat) (w : World) :
    Calls Tryd.prog 33 #[.map (some b)] w fun e w' => e = .returned (.func (.func 49) #[] #[.pointer (some ⟨w.heap.size, 0, none⟩)]) ∧ w' = w.alloc (.cells #[.map (some b)] 63) := by
  have hmf : ∀ (fn : Fn) (first cap : Array Value) (w : World), (Instr.makeFunc fn first cap).run Tryd.prog w = .ok (.func fn first cap) w := fun _ _ _ _ => rfl
  go_enter Tryd.func33, Tryd.ntmps33
  go_wp2_with fail
  go_ret
  exact ⟨rfl, rfl⟩
theorem vals_stops (F : Fence) (n : Nat) (h8 : F.fn 49) (hro : F.round = none) (hn : 1 ≤ n) (Bm b nn : Nat) (D0 : DataW Unit) (w : World) (hBm : Bm < w.heap.size)
    (hm : w.cell? ⟨Bm, 0, none⟩ = some (.map (some b))) (hown : w.ownsMap Tryd.prog 9 enR b nn D0) :
    SeqStopsK F n Tryd.prog 49 #[.pointer (some ⟨Bm, 0, none⟩)] encEn KeepsWalks (fun xs => ∃ ps, AllOf D0 ps ∧ xs = ps.map (·.2)) (fun _ => True) (Maps.size D0) w := fun l J Jx W hW hJ _ hY h0 => by
  have hown' : W.ownsMap Tryd.prog 9 enR b nn D0 := own_block hown (hW.block b hown.lt)
  exact vals1_in F n h8 hro hn l Bm b nn D0 J Jx hY W hJ ((hW.cell (p := ⟨Bm, 0, none⟩) hBm).trans hm) hown' h0

theorem boxed3_keep {W W' : World} {row : Option Nat} {B : Nat} {cs : Array Value} {t : TypeId} (h : W.heap[B]? = some (.cells cs t (0, 0))) (hg : W.grownBy W' row) (hr : ∀ r, row = some r → ∃ o : Obj, W.heap[r]? = some o ∧ o.isCells = false) : W'.heap[B]? = some (.cells cs t (0, 0)) := by
  refine (hg.block B (Array.getElem?_eq_some_iff.1 h).1 (fun e => ?_)).trans h
  obtain ⟨o, ho, hc⟩ := hr B e.symm
  rw [h] at ho; cases ho; cases hc

set_option maxRecDepth 100000 in
set_option maxHeartbeats 4000000 in
/-- AppendSeq, from nothing, over the values of a map. -/
theorem appendSeq_any (Bm b nn : Nat) (D0 : DataW Unit) (w : World) (hBm : Bm < w.heap.size) (hm : w.cell? ⟨Bm, 0, none⟩ = some (.map (some b))) (hown : w.ownsMap Tryd.prog 9 enR b nn D0) (hsz : Maps.size D0 ≤ 1000000000) :
    Calls Tryd.prog 57 #[.slice none 0 0, .func (.func 49) #[] #[.pointer (some ⟨Bm, 0, none⟩)]] w fun e w' => (∃ v ps, e = .returned v ∧ AllOf D0 ps ∧ w'.ownsRow w.heap.size 34 3 v (ps.map (·.2)).length (ecells (ps.map (·.2)))) ∧ Below w.heap.size w w' := by
  obtain ⟨i0, hi, hz0, hz1, hz2⟩ := info_parts infoEn
  refine (callsIn_wide (n := 4)).1 ?_
  have f1 : Fence.wide.fn 49 := trivial
  refine callsIn_of_wp_marks Tryd.func57 rfl trivial ?_ rfl
  simp only [Tryd.ntmps57, List.size_toArray, List.length_cons, List.length_nil, Nat.reduceAdd, Nat.reduceSub, Array.replicate_succ, Array.replicate_zero, List.push_toArray, List.append_toArray, List.nil_append, List.cons_append]
  gi_wp2
  have hB0 : Below w.heap.size w (w.alloc (.cells #[.slice none 0 0] 22)) := (Below.refl _ w).alloc (Nat.le_refl _) _
  have bP := Boxed.new w 22 (.slice none 0 0)
  have hm1 : (w.alloc (.cells #[.slice none 0 0] 22)).cell? ⟨Bm, 0, none⟩ = some (.map (some b)) := (hB0.cell (p := ⟨Bm, 0, none⟩) hBm).trans hm
  have hs1 : (w.alloc (.cells #[.slice none 0 0] 22)).heap.size = w.heap.size + 1 := by simp
  have h1 : 1 ≤ 4 := by omega
  refine wpIn_rangeFunc_ownH (F := Fence.wide) (n := 4) (encs := encEn) rfl h1 (gf := 49) (lb := #[.pointer (some ⟨Bm, 0, none⟩)]) rfl trivial (enters_of Tryd.func49 (by kernel_rfl) rfl)
    (vals_stops Fence.wide 3 trivial rfl (by omega) Bm b nn D0 _ (by omega) hm1 (hown.alloc _)) (fun h k => KeepsWalks.trans h k) ?hKb (Below.refl _ _) (fun _ => rfl)
    (fun pre W => (∃ v, Boxed W w.heap.size 22 v ∧ W.ownsRow w.heap.size 34 3 v pre.length (ecells pre) ∧ True) ∧ Below w.heap.size w W ∧ w.heap.size + 1 ≤ W.heap.size)
    (fun _ _ _ => False) ?hI (fun _ _ _ _ _ hs _ _ => hs) ?h0
    (fun x a' W => ∃ Bx, w.heap.size + 1 ≤ Bx ∧ W.heap[Bx]? = some (.cells #[.string x.key, .string x.val, .bool x.dead] 34 (0, 0)) ∧ a' = { tmps := #[.slice none 0 0, .func (.func 49) #[] #[.pointer (some ⟨Bm, 0, none⟩)], .pointer (some ⟨w.heap.size, 0, none⟩), undef, .slice none 0 0, .pointer (some ⟨Bx, 0, none⟩), .func (.func 49) #[] #[.pointer (some ⟨Bm, 0, none⟩)], .agg #[.string x.key, .string x.val, .bool x.dead], undef, undef, undef, undef, undef], defers := [] }) ?hAx ?assign ?body ?done ?stop
  case hKb => exact fun W l o o' hl h _ hw => KeepsWalks.putObj o' h hw
  case hI =>
    intro s A B row hs hg hr
    exact ⟨holdsRow_own w.heap.size w.heap.size 22 34 3 (fun (s : List En) => s.length) (fun s => ecells s) (fun _ _ => True) s A B row hs.1 hg (fun r e => (hr r e).2), hs.2.1.grown hg (by have := hs.2.2; omega) (fun k e => by have := (hr k e).1; simp at this; omega), Nat.le_trans hs.2.2 hg.size⟩
  case h0 => exact ⟨⟨_, bP, World.ownsRow_nil _ _ _ _, trivial⟩, hB0, by simp⟩
  case hAx =>
    rintro x a' s A B row ⟨Bx, h1, h2, h4⟩ hg hr
    exact ⟨Bx, h1, boxed3_keep h2 hg (fun r e => (hr r e).2), h4⟩
  case assign =>
    intro l pre x W K hi hK
    obtain ⟨xk, xv, xd⟩ := x
    unfold encEn
    gi_wp2
    obtain ⟨⟨v, o1, o2, -⟩, o3, o4⟩ := hi
    refine hK _ _ ((KeepsOthers.alloc _ _).from _) (KeepsWalks.alloc _ _) ⟨⟨v, o1.alloc _, o2.alloc _, trivial⟩, o3.alloc (by omega) _, by simp; omega⟩ ⟨W.heap.size, o4, World.alloc_heap_new W _, rfl⟩
  case body =>
    rintro l pre x a' W hl ⟨r, hr⟩ ⟨⟨v, hv, hrow, -⟩, hB, hsz1⟩ ⟨Bx, hBx, h2, rfl⟩ hlt
    obtain ⟨xk, xv, xd⟩ := x
    simp only at h2
    have c0 : W.cell? ⟨Bx, 0, none⟩ = some (.string xk) := by simp [World.cell?, h2]
    have c1 : W.cell? ⟨Bx, 1, none⟩ = some (.string xv) := by simp [World.cell?, h2]
    have c2 : W.cell? ⟨Bx, 2, none⟩ = some (.bool xd) := by simp [World.cell?, h2]
    have cv := hv.cell
    have hte : (22 : TypeId) ≠ 34 := by decide
    obtain ⟨A0, cap0, rfl⟩ := row_slice hrow
    gi_wp2_with (gi_at_builtin; refine wpListIn_append_own _ rfl _ _ 22 rfl w.heap.size 34 i0 (.agg #[.string ⟨#[]⟩, .string ⟨#[]⟩, .bool false]) 3 40 Tryd.underlying22 hi hz0 hz1 hz2 rfl (by decide) _ _ _ rfl (hrow.alloc _) ⟨W.heap.size, 0, none⟩ 1 1 [.string xk, .string xv, .bool xd] rfl rfl (cell3_new _ _ _ _ _) (by intro u hu; simp at hu; rcases hu with rfl | rfl | rfl <;> rfl) (by unfold maxLen; omega) (by omega) (by simp; omega) ?_; intro v' w1 hown' hgrow _; obtain ⟨g', cap', rfl⟩ := ownsRow_succ hown'; obtain ⟨hv1, hv2, hr2, hk2, hb2⟩ := hv.appended hte hrow (by omega) (Nat.le_refl _) hown' hgrow; have k1 := hv1.cell; have k2 := hv1.frozen)
    have hr3 : (w1.setCell ⟨w.heap.size, 0, none⟩ (.slice (some ⟨g', 0, none⟩) (pre.length + 1) cap')).ownsRow w.heap.size 34 3 (.slice (some ⟨g', 0, none⟩) (pre.length + 1) cap') (pre ++ [(⟨xk, xv, xd⟩ : En)]).length (ecells (pre ++ [(⟨xk, xv, xd⟩ : En)])) := by
      rw [ecells_append, List.length_append]; exact hr2
    exact ⟨hk2.from _, hk2.walks, ⟨⟨_, hv2, by first | exact hr3 | exact ⟨hr3, trivial⟩⟩, hB.trans hb2, Nat.le_trans hsz1 hk2.size⟩⟩
  case done =>
    rintro D ys W hD ⟨ps, hall, rfl⟩ ⟨⟨v, hv, hrow, -⟩, hB, hsz1⟩ hKD
    have cv := hv.cell
    obtain ⟨A0, cap0, rfl⟩ := row_slice hrow
    gi_wp2
    refine ⟨by simp, .inl ⟨_, _, rfl, run_takeDeferred hKD, ?_⟩⟩
    have hr4 := ownsRow_putObj hrow (.deferred none) hKD rfl
    have hb4 := hB.trans (belowK_b (w := w) (Nat.le_refl _) W D _ (.deferred none) (by simp at hD; omega) hKD rfl rfl)
    simp only [List.length_map] at hr4
    exact ⟨_, results_tmp rfl _ _ _, ⟨_, ps, rfl, hall, by simpa using hr4⟩, hb4⟩
  case stop =>
    intro D c pre W hD hS hF
    exact hF.elim
theorem collect_any (Bm b nn : Nat) (D0 : DataW Unit) (w : World) (hBm : Bm < w.heap.size) (hm : w.cell? ⟨Bm, 0, none⟩ = some (.map (some b))) (hown : w.ownsMap Tryd.prog 9 enR b nn D0) (hsz : Maps.size D0 ≤ 1000000000) :
    Calls Tryd.prog 47 #[.func (.func 49) #[] #[.pointer (some ⟨Bm, 0, none⟩)]] w fun e w' => (∃ v ps, e = .returned v ∧ AllOf D0 ps ∧ w'.ownsRow w.heap.size 34 3 v (ps.map (·.2)).length (ecells (ps.map (·.2)))) ∧ Below w.heap.size w w' := by
  have H := appendSeq_any Bm b nn D0 w hBm hm hown hsz
  clear hm hown
  go_enter Tryd.func47, Tryd.ntmps47
  go_wp2_with (go_at_call 57; refine H.mono ?_; rintro e w1 ⟨⟨v, ps, rfl, h1, h2⟩, hb⟩)
  go_ret
  exact ⟨⟨v, ps, rfl, h1, h2⟩, hb⟩
end Go.Proofs.YtpjjjelibpoohabDoor
