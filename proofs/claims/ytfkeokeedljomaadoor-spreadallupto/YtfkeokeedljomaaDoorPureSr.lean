/- Things spread in turn. Plain. -/
import Derived.Test.YtfkeokeedljomaaDoorPureSl
namespace Go.Proofs.YtfkeokeedljomaaDoor
set_option linter.unusedVariables false

section
variable {α : Type}
/-- What comes to worker j of m, of things in turn. -/
def rowP (m : Nat) (l : List α) (j : Nat) : List α := (List.range l.length).filterMap fun i => if i % m = j then l[i]? else none
theorem fm_congr {β : Type} {f g : β → Option α} : ∀ (l : List β), (∀ x ∈ l, f x = g x) → l.filterMap f = l.filterMap g
  | [], _ => rfl
  | x :: l, h => by rw [List.filterMap_cons, List.filterMap_cons, h x (by simp), fm_congr l (fun y hy => h y (by simp [hy]))]
theorem rowP_nil (m j : Nat) : rowP m ([] : List α) j = [] := rfl
theorem rowP_snoc (m : Nat) (l : List α) (x : α) (j : Nat) : rowP m (l ++ [x]) j = rowP m l j ++ if l.length % m = j then [x] else [] := by
  unfold rowP
  rw [List.length_append, List.length_singleton, List.range_succ, List.filterMap_append]
  rw [fm_congr (g := fun i => if i % m = j then l[i]? else none) (List.range l.length) (fun i hi => by
    have hi := List.mem_range.1 hi
    rw [List.getElem?_append_left hi])]
  congr 1
  · simp only [List.filterMap_cons, List.filterMap_nil]
    by_cases h : l.length % m = j
    · rw [if_pos h, if_pos h]; simp
    · rw [if_neg h, if_neg h]
theorem rowP_at (m : Nat) (hm : 0 < m) (j : Nat) (hj : j < m) : ∀ (l : List α) (q : Nat), (rowP m l j)[q]? = l[q * m + j]? := by
  refine snoc_rec (P := fun l => ∀ q, (rowP m l j)[q]? = l[q * m + j]?) (fun q => by simp [rowP_nil]) fun l x ih q => ?_
  have hlen : ∀ q, q < (rowP m l j).length ↔ q * m + j < l.length := fun q => by
    have h := ih q
    constructor
    · intro hq
      rw [List.getElem?_eq_getElem hq] at h
      exact (List.getElem?_eq_some_iff.1 h.symm).1
    · intro hq
      rw [List.getElem?_eq_getElem hq] at h
      exact (List.getElem?_eq_some_iff.1 h).1
  rw [rowP_snoc]
  by_cases h : l.length % m = j
  · rw [if_pos h]
    have hdm := Nat.div_add_mod l.length m
    have hq1 : l.length / m * m + j = l.length := by rw [Nat.mul_comm]; omega
    have e : (rowP m l j).length = l.length / m := by
      have h1 := hlen (l.length / m)
      have h2 : ¬ l.length / m < (rowP m l j).length := by rw [h1]; omega
      by_cases h0 : l.length / m = 0
      · omega
      · have h3 := hlen (l.length / m - 1)
        have h4 : (l.length / m - 1) * m + m = l.length / m * m := by
          rw [← Nat.succ_mul]; congr 1; omega
        have h5 : l.length / m - 1 < (rowP m l j).length := by rw [h3]; omega
        omega
    by_cases hq : q < l.length / m
    · rw [List.getElem?_append_left (by omega), ih, List.getElem?_append_left ((hlen q).1 (by omega))]
    · by_cases hq2 : q = l.length / m
      · subst hq2
        rw [hq1, List.getElem?_append_right (by omega), e, Nat.sub_self, List.getElem?_append_right (Nat.le_refl _), Nat.sub_self]
      · have h6 : (l.length / m + 1) * m ≤ q * m := Nat.mul_le_mul_right _ (by omega)
        rw [Nat.add_mul, Nat.one_mul] at h6
        rw [List.getElem?_eq_none (by rw [List.length_append, List.length_singleton]; omega), List.getElem?_eq_none (by rw [List.length_append, List.length_singleton]; omega)]
  · rw [if_neg h, List.append_nil, ih]
    by_cases hq : q * m + j < l.length
    · rw [List.getElem?_append_left hq]
    · have hne : q * m + j ≠ l.length := fun e => h (by rw [← e, Nat.mul_comm, Nat.mul_add_mod, Nat.mod_eq_of_lt hj])
      rw [List.getElem?_eq_none (by omega), List.getElem?_eq_none (by rw [List.length_append, List.length_singleton]; omega)]
theorem rowP_len (m : Nat) (hm : 0 < m) (j : Nat) (hj : j < m) (l : List α) (q : Nat) : q < (rowP m l j).length ↔ q * m + j < l.length := by
  have h := rowP_at m hm j hj l q
  constructor
  · intro hq
    rw [List.getElem?_eq_getElem hq] at h
    exact (List.getElem?_eq_some_iff.1 h.symm).1
  · intro hq
    rw [List.getElem?_eq_getElem hq] at h
    exact (List.getElem?_eq_some_iff.1 h).1
theorem rowP_le (m : Nat) (hm : 0 < m) (j : Nat) (hj : j < m) (l : List α) : (rowP m l j).length ≤ (rowP m l 0).length ∧ (rowP m l 0).length ≤ (rowP m l j).length + 1 ∧ (rowP m l j).length ≤ l.length := by
  have h1 := rowP_len m hm j hj l
  have h2 := rowP_len m hm 0 hm l
  have a1 := h1 (rowP m l j).length
  have a2 := h2 (rowP m l 0).length
  have a3 := h1 (rowP m l 0).length
  have a4 := h2 ((rowP m l j).length + 1)
  rw [Nat.add_mul, Nat.one_mul] at a4
  refine ⟨by omega, by omega, ?_⟩
  refine Nat.le_of_not_lt fun h => ?_
  have a5 := (h1 l.length).1 h
  have : l.length * 1 ≤ l.length * m := Nat.mul_le_mul_left _ hm
  omega
theorem flat_set {α : Type} (L : List (List α)) (j : Nat) (r : List α) (x : α) (hj : L[j]? = some r) : (L.set j (r ++ [x])).flatten.length = L.flatten.length + 1 := by
  induction L generalizing j with
  | nil => simp at hj
  | cons a L ih =>
    cases j with
    | zero => simp at hj; subst hj; simp; omega
    | succ j =>
      simp at hj
      have := ih j hj
      simp only [List.set_cons_succ, List.flatten_cons, List.length_append, this]; omega
/-- All of all lists. -/
def flat (L : List (List α)) : List α := L.flatten
end
end Go.Proofs.YtfkeokeedljomaaDoor
