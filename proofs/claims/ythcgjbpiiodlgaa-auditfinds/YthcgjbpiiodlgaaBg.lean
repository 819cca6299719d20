/- A row of numbers of one's own, two neighbours exchanged. -/
import Derived.Test.YthcgjbpiiodlgaaBe
import Derived.Test.YthcgjbpiiodlgaaBc
namespace Go.Proofs.Ythcgjbpiiodlgaa
open Go.RowKit Mp
set_option linter.unusedVariables false

theorem heap_setC {w : World} {b i : Nat} {cs : Array Value} {T : TypeId} {fr : Nat × Nat} (hb : w.heap[b]? = some (.cells cs T fr)) (v : Value) :
    (w.setCell ⟨b, i, none⟩ v).heap[b]? = some (.cells (cs.setIfInBounds i v) T fr) := by
  simp [World.setCell, Array.getElem?_modify, hb]
/-- Numbers in a block of one's own. -/
def NmB (w : World) (g o : Nat) (z : List Int) : Prop := ∃ cur, w.heap[g]? = some (.cells cur 3 (0, 0)) ∧ ∀ k (hk : k < z.length), cur[o + k]? = some (.int .i64 z[k])
theorem NmB.cell {w : World} {g o : Nat} {z : List Int} (h : NmB w g o z) (k : Nat) (hk : k < z.length) : w.cell? ⟨g, o + k, none⟩ = some (.int .i64 z[k]) ∧ w.frozen? ⟨g, o + k, none⟩ = false := by
  obtain ⟨cur, h1, h2⟩ := h
  exact ⟨by simp [World.cell?, h1, h2 k hk], by simp [World.frozen?, h1]⟩
theorem NmB.ints {w : World} {g o : Nat} {z : List Int} (h : NmB w g o z) : IntsAt w (some ⟨g, o, none⟩) z := .inr ⟨g, o, rfl, fun k hk => (h.cell k hk).1⟩
theorem NmB.set {w : World} {g o : Nat} {z : List Int} (h : NmB w g o z) (k : Nat) (hk : k < z.length) (x : Int) : NmB (w.setCell ⟨g, o + k, none⟩ (.int .i64 x)) g o (z.set k x) := by
  obtain ⟨cur, h1, h2⟩ := h
  refine ⟨_, heap_setC h1 _, fun j hj => ?_⟩
  have hj' : j < z.length := by simpa using hj
  rw [Array.getElem?_setIfInBounds]
  have hsz := (Array.getElem?_eq_some_iff.1 (h2 k hk)).1
  by_cases e : k = j
  · subst e
    simp [hsz]
  · rw [if_neg (by omega), h2 j hj', List.getElem_set, if_neg e]
theorem NmB.of {w : World} {A : Option Addr} {n c : Nat} {z : List Int} (h : RwAt w 3 1 (.slice A n c) n (icells z)) (hn : n = z.length) (h0 : 0 < n) : ∃ g o, A = some ⟨g, o, none⟩ ∧ NmB w g o z := by
  rcases h.2 with ⟨-, h'⟩ | ⟨g, o, cap, cur, e, h2, h3, h4, h5, h6⟩
  · omega
  · injection e with e
    refine ⟨g, o, e, cur, h2, fun k hk => ?_⟩
    have : (icells z)[k]? = some (.int .i64 z[k]) := by simp [icells, hk]
    rw [← h6, List.getElem?_take, if_pos (by omega), List.getElem?_drop] at this
    simpa using this
end Go.Proofs.Ythcgjbpiiodlgaa
