/- Who uses whom, so far. -/
import Derived.Test.YtppkjiihmlphbaaGreatDoorPureJ
namespace Go.Proofs.YtppkjiihmlphbaaGreatDoor

def usTo (L : List Nd) (i : Int) (j : Nat) : List Int := ((List.range j).filter fun m => (L.getD m (sink 0)).fs.contains i).map fun (m : Nat) => (m : Int)
theorem usTo_zero (L : List Nd) (i : Int) : usTo L i 0 = [] := rfl
theorem usTo_all (L : List Nd) (i : Int) : usTo L i L.length = usP L i := rfl
theorem usTo_step {L : List Nd} {i : Int} {j : Nat} (h : j < L.length) : usTo L i (j + 1) = usTo L i j ++ (if L[j].fs.contains i then [(j : Int)] else []) := by
  unfold usTo
  rw [List.range_succ, List.filter_append, List.map_append]
  congr 1
  have : L.getD j (sink 0) = L[j] := by simp [List.getD, h]
  rw [List.filter_cons, List.filter_nil, this]
  split <;> rfl
theorem usTo_lt {L : List Nd} {i : Int} {j : Nat} : ∀ z ∈ usTo L i j, z < j := by
  intro z hz
  unfold usTo at hz
  simp at hz
  obtain ⟨m, hm, rfl⟩ := hz
  omega
theorem usTo_len (L : List Nd) (i : Int) (j : Nat) : (usTo L i j).length ≤ j := by
  unfold usTo; rw [List.length_map]
  exact Nat.le_trans (List.length_filter_le _ _) (by simp)

/-- Who uses node i among those ahead of j, and j itself by the first p of its numbers. -/
def rowP (L : List Nd) (j : Nat) (fs : List Int) (p : Nat) (i : Nat) : List Int := usTo L i j ++ (if (fs.take p).contains (i : Int) then [(j : Int)] else [])
theorem rowP_zero (L : List Nd) (j : Nat) (fs : List Int) (i : Nat) : rowP L j fs 0 i = usTo L i j := by simp [rowP]
theorem rowP_len (L : List Nd) (j : Nat) (fs : List Int) (p i : Nat) : (rowP L j fs p i).length ≤ j + 1 := by
  unfold rowP; rw [List.length_append]
  have := usTo_len L i j
  split <;> simp <;> omega
theorem rowP_end {L : List Nd} {j : Nat} (h : j < L.length) (i : Nat) : rowP L j L[j].fs L[j].fs.length i = usTo L i (j + 1) := by
  rw [usTo_step h, rowP, List.take_length]
theorem rowP_last {L : List Nd} {j : Nat} {fs : List Int} {p i : Nat} : (rowP L j fs p i = [] ∨ (rowP L j fs p i).getLast? ≠ some (j : Int)) ↔ (fs.take p).contains (i : Int) = false := by
  unfold rowP
  cases h : (fs.take p).contains (i : Int) with
  | true => simp
  | false =>
    simp only [Bool.false_eq_true, if_false, List.append_nil, iff_true]
    by_cases h0 : usTo L i j = []
    · exact .inl h0
    · right
      intro hh
      have := usTo_lt _ (List.mem_of_getLast? hh)
      omega
theorem rowP_same {L : List Nd} {j : Nat} {fs : List Int} {p x : Nat} (hp : p < fs.length) (hx : fs[p] = (x : Int)) (h : (fs.take p).contains (x : Int) = true) (i : Nat) : rowP L j fs (p + 1) i = rowP L j fs p i := by
  unfold rowP
  rw [List.take_succ_eq_append_getElem hp, hx]
  congr 1
  by_cases hi : i = x
  · subst hi; simp only [List.contains_append, h, Bool.true_or]
  · simp only [List.contains_append]
    have h2 : List.contains [(x : Int)] (i : Int) = false := by simp; omega
    rw [h2, Bool.or_false]
theorem rowP_more {L : List Nd} {j : Nat} {fs : List Int} {p x : Nat} (hp : p < fs.length) (hx : fs[p] = (x : Int)) (h : (fs.take p).contains (x : Int) = false) (i : Nat) :
    rowP L j fs (p + 1) i = if i = x then rowP L j fs p x ++ [(j : Int)] else rowP L j fs p i := by
  unfold rowP
  rw [List.take_succ_eq_append_getElem hp, hx]
  by_cases hi : i = x
  · subst hi
    simp only [List.contains_append, h, Bool.false_or]
    simp
  · rw [if_neg hi]
    congr 1
    simp only [List.contains_append]
    have h2 : List.contains [(x : Int)] (i : Int) = false := by simp; omega
    rw [h2, Bool.or_false]

theorem all_at {L : List Nd} (h : allP [] L = 0) : ∀ (j : Nat) (hj : j < L.length), nodeP (L.take j) L[j] = 0 := by
  intro j hj
  have e : L = L.take j ++ (L[j] :: L.drop (j + 1)) := by rw [← List.drop_eq_getElem_cons hj, List.take_append_drop]
  rw [e, allP_append] at h
  by_cases h1 : allP [] (L.take j) = 0
  · rw [if_pos h1, List.nil_append, allP] at h
    by_cases h2 : nodeP (L.take j) L[j] = 0
    · exact h2
    · rw [if_neg h2] at h; exact absurd h h2
  · rw [if_neg h1] at h; exact absurd h h1
theorem from_at {A : List Nd} {fs : List Int} (h : fromP A fs = 0) : ∀ x ∈ fs, 0 ≤ x ∧ x < A.length := by
  induction fs with
  | nil => simp
  | cons f r ih =>
    intro x hx
    rw [fromP] at h
    by_cases h1 : fromOne A f = 0
    · rw [if_pos h1] at h
      rcases List.mem_cons.1 hx with rfl | hx
      · unfold fromOne at h1
        split at h1
        · simp at h1
        · omega
      · exact ih h x hx
    · rw [if_neg h1] at h; exact absurd h h1
theorem node_from {A : List Nd} {nd : Nd} (h : nodeP A nd = 0) : nd.fs.length ≤ 4 ∧ (∀ x ∈ nd.fs, 0 ≤ x ∧ x < A.length) ∧ 1 ≤ nd.k ∧ nd.k ≤ 10 ∧ ownP nd = 0 ∧ inLo nd.k ≤ nd.fs.length ∧ (nd.fs.length : Int) ≤ inHi nd.k := by
  unfold nodeP at h
  split at h
  · simp at h
  · split at h
    · simp at h
    · rename_i h1 h2
      have hh : inHi nd.k ≤ 4 := by unfold inHi; split <;> (try split) <;> omega
      split at h
      · rename_i h3; exact ⟨by omega, from_at h3, by omega, by omega, h, by omega, by omega⟩
      · rename_i h3; exact absurd h h3
theorem job_from {L : List Nd} (h : jobP L = 0) (j : Nat) (hj : j < L.length) : L[j].fs.length ≤ 4 ∧ ∀ x ∈ L[j].fs, 0 ≤ x ∧ x < j := by
  have h1 := all_at (job_ok h).2.1 j hj
  obtain ⟨h2, h3, -⟩ := node_from h1
  refine ⟨h2, fun x hx => ?_⟩
  have := h3 x hx
  simp at this
  omega
end Go.Proofs.YtppkjiihmlphbaaGreatDoor
