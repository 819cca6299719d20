/- A node's own block. -/
import Derived.Test.YthadeccnibnioaaGreatDoorJa
namespace Go.Proofs.YthadeccnibnioaaGreatDoor
open Go.RowKit
set_option linter.unusedVariables false
/-- A node's own block. -/
def Nb (w : World) (g : Nat) (k : Int) (v : Value) (tx : ByteArray) (n : Int) : Prop := w.heap[g]? = some (.cells #[.int .i64 k, v, .string tx, .int .i64 n] 52 (0, 0))
theorem Nb.below {w w' : World} {B g : Nat} {k : Int} {v : Value} {tx : ByteArray} {n : Int} (h : Nb w g k v tx n) (hb : Below B w w') (hB : g < B) : Nb w' g k v tx n := by
  unfold Nb; rw [hb.block g hB]; exact h
theorem Nb.lt {w : World} {g : Nat} {k : Int} {v : Value} {tx : ByteArray} {n : Int} (h : Nb w g k v tx n) : g < w.heap.size := (Array.getElem?_eq_some_iff.1 h).1
theorem Nb.alloc {w : World} {g : Nat} {k : Int} {v : Value} {tx : ByteArray} {n : Int} (h : Nb w g k v tx n) (o : Obj) : Nb (w.alloc o) g k v tx n := h.below ((Below.refl _ _).alloc (Nat.le_refl _) o) h.lt
theorem Nb.drew {w : World} {g : Nat} {k : Int} {v : Value} {tx : ByteArray} {n : Int} (h : Nb w g k v tx n) (m : Nat) : Nb (w.drewN m) g k v tx n := h
theorem Nb.other {w : World} {g : Nat} {k : Int} {v : Value} {tx : ByteArray} {n : Int} (h : Nb w g k v tx n) {p : Addr} (u : Value) (hp : p.block ≠ g) : Nb (w.setCell p u) g k v tx n := by
  unfold Nb; rw [Below.heap_setCell _ _ _ _ hp.symm]; exact h
theorem Nb.cells {w : World} {g : Nat} {k : Int} {v : Value} {tx : ByteArray} {n : Int} (h : Nb w g k v tx n) : (w.cell? ⟨g, 0, none⟩ = some (.int .i64 k) ∧ w.cell? ⟨g, 1, none⟩ = some v ∧ w.cell? ⟨g, 2, none⟩ = some (.string tx) ∧ w.cell? ⟨g, 3, none⟩ = some (.int .i64 n)) ∧ (w.frozen? ⟨g, 0, none⟩ = false ∧ w.frozen? ⟨g, 1, none⟩ = false ∧ w.frozen? ⟨g, 2, none⟩ = false ∧ w.frozen? ⟨g, 3, none⟩ = false) := by
  unfold Nb at h
  simp [World.cell?, World.frozen?, h]
theorem Nb.put1 {w : World} {g : Nat} {k : Int} {v : Value} {tx : ByteArray} {n : Int} (h : Nb w g k v tx n) (u : Value) : Nb (w.setCell ⟨g, 1, none⟩ u) g k u tx n := by
  unfold Nb at *; simp [World.setCell, Array.getElem?_modify, h]
theorem Nb.put2 {w : World} {g : Nat} {k : Int} {v : Value} {tx : ByteArray} {n : Int} (h : Nb w g k v tx n) (u : ByteArray) : Nb (w.setCell ⟨g, 2, none⟩ (.string u)) g k v u n := by
  unfold Nb at *; simp [World.setCell, Array.getElem?_modify, h]
theorem Nb.put3 {w : World} {g : Nat} {k : Int} {v : Value} {tx : ByteArray} {n : Int} (h : Nb w g k v tx n) (u : Int) : Nb (w.setCell ⟨g, 3, none⟩ (.int .i64 u)) g k v tx u := by
  unfold Nb at *; simp [World.setCell, Array.getElem?_modify, h]
theorem Nb.put0 {w : World} {g : Nat} {k : Int} {v : Value} {tx : ByteArray} {n : Int} (h : Nb w g k v tx n) (u : Int) : Nb (w.setCell ⟨g, 0, none⟩ (.int .i64 u)) g u v tx n := by
  unfold Nb at *; simp [World.setCell, Array.getElem?_modify, h]
theorem Nb.new (w : World) : Nb (w.alloc (.cells #[.int .i64 0, .slice none 0 0, .string ⟨#[]⟩, .int .i64 0] 52)) w.heap.size 0 (.slice none 0 0) ⟨#[]⟩ 0 := Array.getElem?_push_size
end Go.Proofs.YthadeccnibnioaaGreatDoor
