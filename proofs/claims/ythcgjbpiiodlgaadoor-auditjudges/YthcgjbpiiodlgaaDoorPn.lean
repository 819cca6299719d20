/- New blocks of cells. -/
import Derived.Test.YthcgjbpiiodlgaaDoorPa
namespace Go.Proofs.YthcgjbpiiodlgaaDoor
open Go.RowKit

theorem cell_new (w : World) (cs : Array Value) (t : TypeId) {i : Nat} {v : Value} (h : cs[i]? = some v) : (w.alloc (.cells cs t)).cell? ⟨w.heap.size, i, none⟩ = some v := by
  have e : (w.alloc (.cells cs t)).heap[w.heap.size]? = some (.cells cs t) := by show (w.heap.push _)[w.heap.size]? = _; simp
  generalize w.alloc (.cells cs t) = w' at e
  simp [World.cell?, e, h]
theorem ints_new (w : World) (zs : List Int) (t : TypeId) : IntsAt (w.alloc (.cells (zs.map (Value.int .i64)).toArray t)) (some ⟨w.heap.size, 0, none⟩) zs :=
  .inr ⟨_, _, rfl, fun j hj => by rw [Nat.zero_add]; exact cell_new _ _ _ (by simp [hj])⟩

/-- A line and where its numbers lie. -/
abbrev Lx := Ln × Option Addr × Nat
def lcells : List Lx → List Value
  | [] => []
  | x :: r => .string x.1.1 :: .slice x.2.1 x.1.2.length x.2.2 :: lcells r
theorem lcells_at : ∀ (X : List Lx) (i : Nat) (h : i < X.length), (lcells X)[i * 2]? = some (.string X[i].1.1) ∧ (lcells X)[i * 2 + 1]? = some (.slice X[i].2.1 X[i].1.2.length X[i].2.2)
  | [], i, h => by simp at h
  | x :: r, 0, _ => by simp [lcells]
  | x :: r, i + 1, h => by
    have := lcells_at r i (by simpa using h)
    rw [show (i + 1) * 2 = i * 2 + 2 from by omega]
    simpa [lcells] using this
def LxOk (w : World) (x : Lx) : Prop := IntsAt w x.2.1 x.1.2 ∧ x.1.2.length ≤ x.2.2 ∧ x.2.2 ≤ 9223372036854775807 ∧ x.1.1.size ≤ 9223372036854775807
theorem LxOk.keep {w w' : World} {x : Lx} (h : LxOk w x) (k : Keeps w w') : LxOk w' x := ⟨h.1.keep k, h.2⟩
theorem lines_of_cells {w : World} {b o : Nat} {X : List Lx} (hc : ∀ j u, (lcells X)[j]? = some u → w.cell? ⟨b, o + j, none⟩ = some u) (hx : ∀ x ∈ X, LxOk w x) : LnsAt w (some ⟨b, o, none⟩) (X.map Prod.fst) := by
  refine .inr ⟨b, o, rfl, fun i hi => ?_⟩
  have hi' : i < X.length := by simpa using hi
  obtain ⟨e0, e1⟩ := lcells_at X i hi'
  obtain ⟨h1, h2, h3, h4⟩ := hx X[i] (List.getElem_mem hi')
  simp only [List.getElem_map]
  exact ⟨hc _ _ e0, ⟨_, _, hc _ _ e1, h1, h2, h3⟩, h4⟩
theorem lines_new (w : World) (X : List Lx) (t : TypeId) (hx : ∀ x ∈ X, LxOk w x) : LnsAt (w.alloc (.cells (lcells X).toArray t)) (some ⟨w.heap.size, 0, none⟩) (X.map Prod.fst) :=
  lines_of_cells (fun j u hu => by rw [Nat.zero_add]; exact cell_new _ _ _ (by simpa using hu)) (fun x h => (hx x h).keep (Keeps.alloc _ _))
end Go.Proofs.YthcgjbpiiodlgaaDoor
