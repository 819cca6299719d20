/- The document's Merge: a row of records. -/
import Derived.Test.YthcgjbpiiodlgaaDoorCb
import Derived.Test.YthcgjbpiiodlgaaDoorXb
import Derived.Test.YthcgjbpiiodlgaaDoorXc
namespace Go.Proofs.YthcgjbpiiodlgaaDoor
open Go.RowKit Mp Dn
set_option linter.unusedVariables false

theorem rc_info : (Tryd.prog.info? 55).map (fun i => (i.zero, i.size, i.bytes)) = some (some (.agg #[.string ⟨#[]⟩, .int .i64 0, .int .i64 0]), 3, 32) := by kernel_rfl
theorem rc_app {u : World} {v x : Value} {n m : Nat} {a b : List Value} (h : RwAt u 55 3 v n a) (hs : Src Tryd.prog 3 53 x m b u) (hl : n + m ≤ 1000000000) :
    ∃ A c w1, (Builtin.append_ #[53, 53] 53 #[v, x]).run Tryd.prog u = .ok (.slice A (n + m) c) w1 ∧ RwAt w1 55 3 (.slice A (n + m) c) (n + m) (a ++ b) ∧ u.grownBy w1 v.ownBlock ∧ (∀ b, Value.ownBlock (.slice A (n + m) c) = some b → v.ownBlock = some b ∨ u.heap.size ≤ b) := by
  obtain ⟨i0, hi, hz0, hz1, hz2⟩ := info_parts rc_info
  obtain ⟨A, c, w1, hrun, hown, hgr, hat⟩ := rw_append h 53 53 53 i0 _ 32 Tryd.underlying53 hi hz0 hz1 hz2 rfl x m b hs (by unfold maxLen; omega) (by omega)
  exact ⟨A, c, w1, hrun, hown, hgr, hat⟩
theorem rc_src {u : World} {g : Nat} {s : ByteArray} {x y : Int} (hg : u.heap[g]? = some (.cells #[.string s, .int .i64 x, .int .i64 y] 55 (0, 0))) : Src Tryd.prog 3 53 (.slice (some ⟨g, 0, none⟩) 1 1) 1 [.string s, .int .i64 x, .int .i64 y] u :=
  Src.ofSlice _ Tryd.underlying53 _ 1 1 [.string s, .int .i64 x, .int .i64 y] rfl (World.news_of_block (cs := #[.string s, .int .i64 x, .int .i64 y]) hg) (fun z hz => by simp at hz; rcases hz with rfl | rfl | rfl <;> rfl)
theorem rcells_len2 : ∀ l : List Rc, (rcells l).length = l.length * 3
  | [] => rfl
  | r :: l => by simp [rcells, rcells_len2 l]; omega
theorem rcells_app : ∀ a b : List Rc, rcells (a ++ b) = rcells a ++ rcells b
  | [], b => rfl
  | r :: a, b => by simp [rcells, rcells_app a b]
/-- A row of records, made since w0. -/
def RrM (w0 w : World) (v : Value) (L : List Rc) : Prop := RwAt w 55 3 v L.length (rcells L) ∧ (∀ b, v.ownBlock = some b → w0.heap.size ≤ b) ∧ Below w0.heap.size w0 w
theorem RrM.nil (w : World) : RrM w w (.slice none 0 0) [] := ⟨RwAt.nil _ _ _, by simp [Value.ownBlock], Below.refl _ _⟩
theorem RrM.keep {w0 w w' : World} {v : Value} {L : List Rc} (h : RrM w0 w v L) (hb : Below w.heap.size w w') : RrM w0 w' v L := ⟨h.1.keep hb, h.2.1, below_after hb h.2.2⟩
theorem RrM.put {w0 w u : World} {v : Value} {L : List Rc} (h : RrM w0 w v L) (hu : Below w.heap.size w u) (key : ByteArray) (x : Int) (hn : L.length ≤ 1000000) :
    ∃ v2 w1, (Builtin.append_ #[53, 53] 53 #[v, .slice (some ⟨u.heap.size, 0, none⟩) 1 1]).run Tryd.prog (u.alloc (.cells #[.string key, .int .i64 x, .int .i64 0] 55)) = .ok v2 w1 ∧ RrM w0 w1 v2 (L ++ [⟨key, x, 0⟩]) := by
  obtain ⟨h1, h2, h3⟩ := h.keep hu
  have hb : Below u.heap.size u (u.alloc (.cells #[.string key, .int .i64 x, .int .i64 0] 55)) := (Below.refl _ _).alloc (Nat.le_refl _) _
  obtain ⟨A, c, w1, hrun, k1, k2, k3⟩ := rc_app (h1.keep hb) (rc_src (g := u.heap.size) (s := key) (x := x) (y := 0) (heap_alloc_new _ _)) (by omega)
  refine ⟨_, w1, hrun, ?_, fun b hb' => ?_, below_grown (below_after hb h3) k2 h2⟩
  · rw [rcells_app, List.length_append]; exact k1
  · rcases k3 b hb' with h' | h'
    · exact h2 b h'
    · exact Nat.le_trans h3.size (Nat.le_trans hb.size h')
theorem RrM.slice {w0 w : World} {v : Value} {L : List Rc} (h : RrM w0 w v L) : ∃ A c, v = .slice A L.length c ∧ RcsAt w A L := by
  obtain ⟨A, c, rfl, -, -⟩ := h.1.slice
  refine ⟨A, c, rfl, ?_⟩
  rcases h.1.cells with h' | ⟨b, o, rfl, hc⟩
  · left
    have := rcells_len2 L
    rw [h'] at this
    exact List.eq_nil_of_length_eq_zero (by simp at this; omega)
  · exact .inr ⟨b, o, rfl, hc⟩
/-- Records of a line's first numbers. -/
def recK (key : ByteArray) (z : List Int) : List Rc := z.map fun n => ⟨key, n, 0⟩
theorem recsL_snoc (L : List Ln) (k : Nat) (h : k < L.length) : recsL (L.take (k + 1)) = recsL (L.take k) ++ recK L[k].1 L[k].2 := by
  unfold recsL recK
  rw [List.take_succ_eq_append_getElem h, List.flatMap_append]; simp
theorem recK_snoc (key : ByteArray) (z : List Int) (k : Nat) (h : k < z.length) : recK key (z.take (k + 1)) = recK key (z.take k) ++ [⟨key, z[k], 0⟩] := by
  unfold recK
  rw [List.take_succ_eq_append_getElem h, List.map_append]; rfl
theorem recsL_len (L : List Ln) : (recsL L).length = manyP L := by
  unfold recsL manyP
  rw [List.length_flatMap]
  congr 1
  exact List.map_congr_left fun l _ => by simp
end Go.Proofs.YthcgjbpiiodlgaaDoor
