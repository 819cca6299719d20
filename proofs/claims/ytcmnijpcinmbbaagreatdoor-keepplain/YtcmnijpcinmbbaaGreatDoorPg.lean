/- Latest. -/
import Derived.Test.YtcmnijpcinmbbaaGreatDoorPf
namespace Go.Proofs.YtcmnijpcinmbbaaGreatDoor
open Go.RowKit Go.Shelf
set_option linter.unusedVariables false
attribute [local go_sem] Oper.semAt_some
theorem keeps_below {B : Nat} {W W1 : World} (hb : Below W.heap.size W W1) : KeepsFrom B W W1 := ⟨hb.size, fun k o _ hk _ => by rw [hb.block k (Array.getElem?_eq_some_iff.1 hk).1]; exact hk⟩
theorem up_alloc {w : World} {k : Nat} {ob : Obj} (h : w.heap[k]? = some ob) (o : Obj) : (w.alloc o).heap[k]? = some ob := (((Below.refl _ _).alloc (Nat.le_refl _) o).block k (Array.getElem?_eq_some_iff.1 h).1).trans h
theorem new_alloc {w : World} {k : Nat} (o : Obj) (h : k = w.heap.size) : (w.alloc o).heap[k]? = some o := by subst h; exact Array.getElem?_push_size
/-- What is owned stays where its block stays. -/
theorem own_block {w w' : World} {B n e sz : Nat} {v : Value} {xs : List Value} (h : w.ownsRow B e sz v n xs) (hb : ∀ g, v.ownBlock = some g → w'.heap[g]? = w.heap[g]?) : w'.ownsRow B e sz v n xs :=
  ⟨h.1, h.2.imp id fun ⟨g, cap, cur, h0, h1, h2, h3⟩ => ⟨g, cap, cur, h0, h1, (hb g (by rw [h0]; rfl)).trans h2, h3⟩⟩
/-- What Latest holds: its box, its results. -/
structure LtAt (w : World) (B : Nat) (a b c : Value) (W : World) : Prop where
  below : Below w.heap.size w W
  size : w.heap.size + 4 ≤ W.heap.size
  bx : W.heap[w.heap.size]? = some (.cells #[.pointer (some ⟨B, 0, none⟩)] 24 (0, 0))
  r0 : W.heap[w.heap.size + 1]? = some (.cells #[a] 3 (0, 0))
  r1 : W.heap[w.heap.size + 2]? = some (.cells #[b] 23 (0, 0))
  r2 : W.heap[w.heap.size + 3]? = some (.cells #[c] 28 (0, 0))
theorem LtAt.blocks {w W W' : World} {B : Nat} {a b c : Value} (h : LtAt w B a b c W) (hb : Below w.heap.size w W') (hs : W.heap.size ≤ W'.heap.size)
    (hk : ∀ (k : Nat) (cur : Array Value) (e : TypeId) (f : Nat × Nat), W.heap[k]? = some (.cells cur e f) → W'.heap[k]? = some (.cells cur e f)) : LtAt w B a b c W' :=
  ⟨hb, Nat.le_trans h.size hs, hk _ _ _ _ h.bx, hk _ _ _ _ h.r0, hk _ _ _ _ h.r1, hk _ _ _ _ h.r2⟩
theorem LtAt.call {w W W' : World} {B : Nat} {a b c : Value} (h : LtAt w B a b c W) (hb : Below W.heap.size W W') : LtAt w B a b c W' :=
  h.blocks (h.below.trans (hb.mono h.below.size)) hb.size (fun k cur e f hk => (hb.block k (Array.getElem?_eq_some_iff.1 hk).1).trans hk)
theorem lt_start (w : World) (B : Nat) : LtAt w B (.int .i64 0) (.slice none 0 0) .nilIface ((((w.alloc (.cells #[.pointer (some ⟨B, 0, none⟩)] 24)).alloc (.cells #[.int .i64 0] 3)).alloc (.cells #[.slice none 0 0] 23)).alloc (.cells #[.nilIface] 28)) ∧ ((((w.alloc (.cells #[.pointer (some ⟨B, 0, none⟩)] 24)).alloc (.cells #[.int .i64 0] 3)).alloc (.cells #[.slice none 0 0] 23)).alloc (.cells #[.nilIface] 28)).heap.size = w.heap.size + 4 := by
  refine ⟨⟨?_, by simp, ?_, ?_, ?_, ?_⟩, by simp⟩
  · exact (((((Below.refl _ w).alloc (Nat.le_refl _) _).alloc (by simp) _).alloc (by simp; omega) _).alloc (by simp; omega) _)
  · exact up_alloc (up_alloc (up_alloc (new_alloc _ rfl) _) _) _
  · exact up_alloc (up_alloc (new_alloc _ (by simp)) _) _
  · exact up_alloc (new_alloc _ (by simp)) _
  · exact new_alloc _ (by simp)
theorem lt_three {w W : World} {B : Nat} {a b c : Value} (h : LtAt w B a b c W) (a' b' c' : Value) : LtAt w B a' b' c' (((W.setCell ⟨w.heap.size + 1, 0, none⟩ a').setCell ⟨w.heap.size + 2, 0, none⟩ b').setCell ⟨w.heap.size + 3, 0, none⟩ c') ∧ ∀ k, k ≠ w.heap.size + 1 → k ≠ w.heap.size + 2 → k ≠ w.heap.size + 3 → (((W.setCell ⟨w.heap.size + 1, 0, none⟩ a').setCell ⟨w.heap.size + 2, 0, none⟩ b').setCell ⟨w.heap.size + 3, 0, none⟩ c').heap[k]? = W.heap[k]? := by
  have hk : ∀ k, k ≠ w.heap.size + 1 → k ≠ w.heap.size + 2 → k ≠ w.heap.size + 3 → (((W.setCell ⟨w.heap.size + 1, 0, none⟩ a').setCell ⟨w.heap.size + 2, 0, none⟩ b').setCell ⟨w.heap.size + 3, 0, none⟩ c').heap[k]? = W.heap[k]? := fun k h1 h2 h3 => by
    rw [Below.heap_setCell _ _ _ _ h3, Below.heap_setCell _ _ _ _ h2, Below.heap_setCell _ _ _ _ h1]
  refine ⟨⟨((h.below.setCell (by simp) _).setCell (by simp) _).setCell (by simp) _, by have := h.size; simpa using this, ?_, ?_, ?_, ?_⟩, hk⟩
  · rw [hk _ (by omega) (by omega) (by omega)]; exact h.bx
  · rw [Below.heap_setCell _ _ _ _ (by simp), Below.heap_setCell _ _ _ _ (by simp)]
    simp [World.setCell, h.r0, Array.getElem?_modify]
  · rw [Below.heap_setCell _ _ _ _ (by simp)]
    simp [World.setCell, h.r1, Array.getElem?_modify]
  · simp [World.setCell, h.r2, Array.getElem?_modify]
end Go.Proofs.YtcmnijpcinmbbaaGreatDoor
