/- Records in memory; what is wrong with them. -/
import Derived.Test.YtiofpimchbhfcabFi
import Derived.Deep.Onto
namespace Go.Proofs.Ytiofpimchbhfcab
open Go.RowKit

def rcells : List Rc → List Value
  | [] => []
  | r :: l => .string r.key :: .int .i64 r.num :: .int .i64 r.time :: rcells l
theorem rcells_len : ∀ l : List Rc, (rcells l).length = l.length * 3
  | [] => rfl
  | r :: l => by simp only [rcells, List.length_cons, rcells_len l]; omega
theorem rcells_append : ∀ (a b : List Rc), rcells (a ++ b) = rcells a ++ rcells b
  | [], b => rfl
  | r :: a, b => by simp only [List.cons_append, rcells, rcells_append a b]
theorem rcells_at : ∀ (l : List Rc) (i : Nat) (h : i < l.length), (rcells l)[i * 3]? = some (.string l[i].key) ∧ (rcells l)[i * 3 + 1]? = some (.int .i64 l[i].num) ∧ (rcells l)[i * 3 + 2]? = some (.int .i64 l[i].time)
  | [], i, h => by simp at h
  | r :: l, 0, _ => by simp [rcells]
  | r :: l, i + 1, h => by
    have := rcells_at l i (by simpa using h)
    rw [show (i + 1) * 3 = i * 3 + 3 from by omega]
    simpa [rcells] using this
theorem rcells_one (l : List Rc) : ∀ u ∈ rcells l, u.oneCell' = true := by
  induction l with
  | nil => simp [rcells]
  | cons r l ih =>
    intro u hu
    simp only [rcells, List.mem_cons] at hu
    rcases hu with rfl | rfl | rfl | hu
    · rfl
    · rfl
    · rfl
    · exact ih u hu

/-- Cells behind a slice. -/
def CsAt (w : World) (la : Option Addr) (cs : List Value) : Prop :=
  cs = [] ∨ ∃ b o, la = some ⟨b, o, none⟩ ∧ ∀ j u, cs[j]? = some u → w.cell? ⟨b, o + j, none⟩ = some u
theorem CsAt.keep {w w' : World} {la : Option Addr} {cs : List Value} (h : CsAt w la cs) (hb : Below w.heap.size w w') : CsAt w' la cs := by
  rcases h with h | ⟨b, o, rfl, hc⟩
  · exact .inl h
  · refine .inr ⟨b, o, rfl, fun j u hu => ?_⟩
    have := hc j u hu
    rcases Nat.lt_or_ge b w.heap.size with h' | h'
    · rw [hb.cell (p := ⟨b, o + j, none⟩) h']; exact this
    · simp [World.cell?, Array.getElem?_eq_none h'] at this
theorem CsAt.at {w : World} {la : Option Addr} {cs : List Value} (h : CsAt w la cs) (hne : cs ≠ []) : ∃ b o, la = some ⟨b, o, none⟩ ∧ ∀ j u, cs[j]? = some u → w.cell? ⟨b, o + j, none⟩ = some u := by
  rcases h with h | h
  · exact absurd h hne
  · exact h
theorem own_cs {w : World} {B e n cap m : Nat} {A : Option Addr} {cs : List Value} (h : w.ownsRow B e m (.slice A n cap) n cs) (hn : cs.length = n * m) : CsAt w A cs ∧ n ≤ cap := by
  rcases h.2 with ⟨h0, h1⟩ | ⟨g, cap', cur, h0, hb, hg, hle, hm, hs, ht⟩
  · subst h1
    exact ⟨.inl (List.eq_nil_of_length_eq_zero (by simpa using hn)), by omega⟩
  · simp at h0
    obtain ⟨rfl, rfl⟩ := h0
    refine ⟨.inr ⟨g, 0, rfl, fun j u hu => ?_⟩, hle⟩
    have hj : j < n * m := by
      rw [← hn]
      exact (List.getElem?_eq_some_iff.1 hu).1
    rw [Nat.zero_add, h.cellAt j hj, hu]
theorem rcs_at {w : World} {la : Option Addr} {L : List Rc} (h : CsAt w la (rcells L)) (k : Nat) (hk : k < L.length) : ∃ b o, la = some ⟨b, o, none⟩ ∧ w.cell? ⟨b, o + k * 3, none⟩ = some (.string L[k].key) ∧ w.cell? ⟨b, o + k * 3 + 1, none⟩ = some (.int .i64 L[k].num) ∧ w.cell? ⟨b, o + k * 3 + 2, none⟩ = some (.int .i64 L[k].time) := by
  obtain ⟨b, o, rfl, hc⟩ := h.at (by intro e; have := rcells_len L; rw [e] at this; simp at this; omega)
  obtain ⟨h0, h1, h2⟩ := rcells_at L k hk
  exact ⟨b, o, rfl, hc _ _ h0, by rw [Nat.add_assoc]; exact hc _ _ h1, by rw [Nat.add_assoc]; exact hc _ _ h2⟩

/-- An error, or none. -/
def errV (k : Nat) : Value := if k = 0 then .nilIface else .iface 54 (.int .i64 k)
theorem any_snoc {α : Type} (f : α → Bool) (l : List α) (k : Nat) (h : k < l.length) : (l.take (k + 1)).any f = ((l.take k).any f || f l[k]) := by
  rw [List.take_succ_eq_append_getElem h, List.any_append, List.any_cons, List.any_nil, Bool.or_false]
theorem any_at {α : Type} {f : α → Bool} {l : List α} (k : Nat) (h : k < l.length) (hf : f l[k] = true) : l.any f = true := List.any_eq_true.2 ⟨_, List.getElem_mem h, hf⟩

end Go.Proofs.Ytiofpimchbhfcab
