/- Who is told at each turn; the greatest that is left, and who has the least, found by walking through. Plain. -/
import Derived.Test.YtfkeokeedljomaaDoorPureSl
namespace Go.Proofs.YtfkeokeedljomaaDoor
set_option linter.unusedVariables false
set_option linter.unusedSimpArgs false

theorem who_at (ld : Nat → Int) (m n : Nat) : ∀ (C : List Nat), C.Nodup → (∀ x ∈ C, x < n) → ∀ (t : Nat) (x : Nat), C[t]? = some x → (givs ld m n C).2[x]? = some (argmin (givs ld m n (C.take t)).1) := by
  refine snoc_rec (fun _ _ t x h => by simp at h) (fun C y ih hnd hlt t x h => ?_)
  have hnd' := List.nodup_append.1 hnd
  have ih := ih hnd'.1 (fun z hz => hlt z (by simp [hz]))
  have hl := (givs_len ld m n C).2
  rw [givs_snoc]
  unfold giv
  simp only
  by_cases ht : t < C.length
  · rw [List.getElem?_append_left ht] at h
    have hx := List.mem_of_getElem? h
    have hne : y ≠ x := fun e => hnd'.2.2 x hx y (by simp) e.symm
    rw [List.getElem?_set_ne hne, ih t x h, List.take_append_of_le_length (by omega)]
  · have ht2 : t = C.length := by
      have := (List.getElem?_eq_some_iff.1 h).1
      rw [List.length_append, List.length_singleton] at this; omega
    subst ht2
    rw [List.getElem?_append_right (Nat.le_refl _), Nat.sub_self] at h
    simp at h
    subst h
    have := hlt y (by simp)
    rw [List.take_append_of_le_length (Nat.le_refl _), List.take_length, List.getElem?_set]
    simp [hl, this]
/-- What is found among the first i that are not done: the one with the greatest load, of equal ones the first. -/
def Pk (ld : Nat → Int) (dn : Nat → Prop) (i : Nat) (a : Option Nat) : Prop :=
  (a = none ∧ ∀ x < i, dn x) ∨ ∃ y, a = some y ∧ y < i ∧ ¬ dn y ∧ ∀ x < i, ¬ dn x → x = y ∨ ah ld y x
theorem Pk.zero (ld : Nat → Int) (dn : Nat → Prop) : Pk ld dn 0 none := .inl ⟨rfl, fun x hx => by omega⟩
theorem Pk.done {ld : Nat → Int} {dn : Nat → Prop} {i : Nat} {a : Option Nat} (h : Pk ld dn i a) (hd : dn i) : Pk ld dn (i + 1) a := by
  rcases h with ⟨h1, h2⟩ | ⟨y, h1, h2, h3, h4⟩
  · refine .inl ⟨h1, fun x hx => ?_⟩
    by_cases e : x = i
    · subst e; exact hd
    · exact h2 x (by omega)
  · refine .inr ⟨y, h1, by omega, h3, fun x hx hx2 => ?_⟩
    by_cases e : x = i
    · subst e; exact absurd hd hx2
    · exact h4 x (by omega) hx2
theorem Pk.first {ld : Nat → Int} {dn : Nat → Prop} {i : Nat} (h : Pk ld dn i none) (hd : ¬ dn i) : Pk ld dn (i + 1) (some i) := by
  rcases h with ⟨h1, h2⟩ | ⟨y, h1, -⟩
  · refine .inr ⟨i, rfl, by omega, hd, fun x hx hx2 => ?_⟩
    by_cases e : x = i
    · exact .inl e
    · exact absurd (h2 x (by omega)) hx2
  · cases h1
theorem Pk.more {ld : Nat → Int} {dn : Nat → Prop} {i y : Nat} (h : Pk ld dn i (some y)) (hd : ¬ dn i) (hl : ld i > ld y) : Pk ld dn (i + 1) (some i) := by
  rcases h with ⟨h1, h2⟩ | ⟨z, h1, h2, h3, h4⟩
  · cases h1
  · injection h1 with h1
    subst h1
    have hi : ah ld i y := .inl hl
    refine .inr ⟨i, rfl, by omega, hd, fun x hx hx2 => ?_⟩
    by_cases e : x = i
    · exact .inl e
    · rcases h4 x (by omega) hx2 with e2 | e2
      · subst e2; exact .inr hi
      · exact .inr (ah_trans hi e2)
theorem Pk.less {ld : Nat → Int} {dn : Nat → Prop} {i y : Nat} (h : Pk ld dn i (some y)) (hl : ¬ ld i > ld y) : Pk ld dn (i + 1) (some y) := by
  rcases h with ⟨h1, h2⟩ | ⟨z, h1, h2, h3, h4⟩
  · cases h1
  · injection h1 with h1
    subst h1
    refine .inr ⟨y, rfl, by omega, h3, fun x hx hx2 => ?_⟩
    by_cases e : x = i
    · subst e
      exact .inr (by unfold ah; omega)
    · exact h4 x (by omega) hx2
theorem Pk.end_ {ld : Nat → Int} {C : List Nat} {n t : Nat} {a : Option Nat} (hC : Bk ld 0 C) (hn : C.length = n) (ht : t < n) (h : Pk ld (fun x => x ∈ C.take t) n a) : ∃ x, C[t]? = some x ∧ a = some x := by
  have htl : t < C.length := by omega
  have hnd : C.Nodup := hC.1.nodup_iff.2 (List.nodup_range' ..)
  have hsplit : C = C.take t ++ C[t] :: C.drop (t + 1) := by rw [← List.drop_eq_getElem_cons htl, List.take_append_drop]
  have hnt : C[t] ∉ C.take t := fun hm => by
    rw [hsplit] at hnd
    exact (List.nodup_append.1 hnd).2.2 _ hm _ List.mem_cons_self rfl
  have hlt : C[t] < n := by have := hC.mem (List.getElem_mem htl); omega
  rcases h with ⟨h1, h2⟩ | ⟨y, h1, h2, h3, h4⟩
  · exact absurd (h2 _ hlt) hnt
  · refine ⟨C[t], List.getElem?_eq_getElem htl, ?_⟩
    rw [h1]
    congr 1
    rcases h4 _ hlt hnt with e | e
    · exact e.symm
    · have hy : y ∈ C := hC.1.mem_iff.2 (List.mem_range'_1.2 (by omega))
      have hs := hC.2
      rw [hsplit] at hy hs
      rcases List.mem_append.1 hy with k | k
      · exact absurd k h3
      · rcases List.mem_cons.1 k with k | k
        · exact k
        · have := (List.pairwise_cons.1 (List.pairwise_append.1 hs).2.1).1 y k
          exact absurd this (ah_asymm e)
/-- The first of the least among so many. -/
def Am (H : List Int) (i w : Nat) : Prop := w < i ∧ (∀ j < i, H.getD w 0 ≤ H.getD j 0) ∧ ∀ j < w, H.getD w 0 < H.getD j 0
theorem Am.one (H : List Int) : Am H 1 0 := ⟨by omega, fun j hj => by rw [show j = 0 from by omega]; exact Int.le_refl _, fun j hj => by omega⟩
theorem Am.yes {H : List Int} {i w : Nat} (h : Am H i w) (hl : H.getD i 0 < H.getD w 0) : Am H (i + 1) i := by
  obtain ⟨h1, h2, h3⟩ := h
  refine ⟨by omega, fun j hj => ?_, fun j hj => ?_⟩
  · by_cases e : j = i
    · subst e; exact Int.le_refl _
    · have := h2 j (by omega); omega
  · have := h2 j hj; omega
theorem Am.no {H : List Int} {i w : Nat} (h : Am H i w) (hl : ¬ H.getD i 0 < H.getD w 0) : Am H (i + 1) w := by
  obtain ⟨h1, h2, h3⟩ := h
  refine ⟨by omega, fun j hj => ?_, h3⟩
  by_cases e : j = i
  · subst e; omega
  · exact h2 j (by omega)
theorem Am.end_ {H : List Int} {w : Nat} (h : Am H H.length w) : w = argmin H := by
  obtain ⟨h1, h2, h3⟩ := h
  have hne : H ≠ [] := by intro e; subst e; simp at h1
  have a1 := argmin_lt H hne
  rcases Nat.lt_trichotomy w (argmin H) with k | k | k
  · have := argmin_first H w k
    have := h2 _ a1
    omega
  · exact k
  · have := h3 _ k
    have := argmin_le H w h1
    omega
def dnL (C : List Nat) (n t : Nat) : List Bool := (List.range n).map fun x => decide (x ∈ C.take t)
theorem dnL_len (C : List Nat) (n t : Nat) : (dnL C n t).length = n := by simp [dnL]
theorem dnL_at (C : List Nat) (n t x : Nat) (hx : x < n) : (dnL C n t)[x]? = some (decide (x ∈ C.take t)) := by simp [dnL, hx]
theorem dnL_zero (C : List Nat) (n : Nat) : dnL C n 0 = List.replicate n false := by
  unfold dnL
  rw [List.eq_replicate_iff]
  refine ⟨by simp, fun x hx => ?_⟩
  obtain ⟨j, -, rfl⟩ := List.mem_map.1 hx
  simp
theorem dnL_set (C : List Nat) (n t y : Nat) (h : C[t]? = some y) : (dnL C n t).set y true = dnL C n (t + 1) := by
  obtain ⟨ht, rfl⟩ := List.getElem?_eq_some_iff.1 h
  apply List.ext_getElem?
  intro j
  by_cases hj : j < n
  · rw [dnL_at C n (t + 1) j hj, List.take_succ_eq_append_getElem ht]
    by_cases e : C[t] = j
    · rw [e, List.getElem?_set]
      simp [dnL_len, hj]
    · rw [List.getElem?_set_ne e, dnL_at C n t j hj]
      have e2 : j ≠ C[t] := fun k => e k.symm
      congr 1
      rw [decide_eq_decide, List.mem_append, List.mem_singleton]
      exact ⟨.inl, fun h => h.resolve_right e2⟩
  · rw [List.getElem?_eq_none (by rw [List.length_set, dnL_len]; omega), List.getElem?_eq_none (by rw [dnL_len]; omega)]
end Go.Proofs.YtfkeokeedljomaaDoor
