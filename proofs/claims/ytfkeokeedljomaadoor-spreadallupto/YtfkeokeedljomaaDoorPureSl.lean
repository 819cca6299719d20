/- Each load to who has the least so far. Plain. -/
import Derived.Test.YtfkeokeedljomaaDoorPureSp
import Derived.Test.YtfkeokeedljomaaDoorPureSg
namespace Go.Proofs.YtfkeokeedljomaaDoor
set_option linter.unusedVariables false

/-- The least of so many first. -/
def minL : List Int → Int → Int
  | [], m => m
  | x :: l, m => minL l (min m x)
theorem minL_le : ∀ (l : List Int) (m : Int), minL l m ≤ m ∧ ∀ x ∈ l, minL l m ≤ x
  | [], m => ⟨Int.le_refl _, by simp⟩
  | x :: l, m => by
    obtain ⟨h1, h2⟩ := minL_le l (min m x)
    refine ⟨by simp only [minL]; omega, fun y hy => ?_⟩
    rcases List.mem_cons.1 hy with rfl | hy
    · simp only [minL]; omega
    · exact h2 y hy
theorem minL_mem : ∀ (l : List Int) (m : Int), minL l m = m ∨ minL l m ∈ l
  | [], m => .inl rfl
  | x :: l, m => by
    simp only [minL, List.mem_cons]
    rcases minL_mem l (min m x) with h | h
    · rw [h]
      rcases Int.le_total m x with k | k
      · exact .inl (by omega)
      · exact .inr (.inl (by omega))
    · exact .inr (.inr h)
theorem minL_snoc (l : List Int) (m x : Int) : minL (l ++ [x]) m = min (minL l m) x := by
  induction l generalizing m with
  | nil => rfl
  | cons y l ih => exact ih _
/-- The least of a row that has one at least is where its first least is. -/
theorem minL_argmin (H : List Int) (x : Int) (l : List Int) (h : H = x :: l) : minL l x = H.getD (argmin H) 0 := by
  have hne : H ≠ [] := by rw [h]; simp
  have h1 := argmin_lt H hne
  have hg : H.getD (argmin H) 0 ∈ H := by rw [List.getD_eq_getElem?_getD, List.getElem?_eq_getElem h1]; exact List.getElem_mem _
  have hle : minL l x ≤ H.getD (argmin H) 0 := by
    rw [h] at hg ⊢
    obtain ⟨k1, k2⟩ := minL_le l x
    rcases List.mem_cons.1 hg with e | e
    · rw [e]; exact k1
    · exact k2 _ e
  have hge : H.getD (argmin H) 0 ≤ minL l x := by
    have hm : minL l x ∈ H := by
      rw [h]
      rcases minL_mem l x with e | e
      · rw [e]; simp
      · exact List.mem_cons_of_mem _ e
    obtain ⟨i, hi, e⟩ := List.getElem_of_mem hm
    have := argmin_le H i hi
    rw [List.getD_eq_getElem?_getD (i := i), List.getElem?_eq_getElem hi, e] at this
    exact this
  omega

/-- What all have, and who got which: one load more. -/
def giv (ld : Nat → Int) (s : List Int × List Nat) (at_ : Nat) : List Int × List Nat := (s.1.set (argmin s.1) (s.1.getD (argmin s.1) 0 + ld at_), s.2.set at_ (argmin s.1))
def givs (ld : Nat → Int) (m n : Nat) (C : List Nat) : List Int × List Nat := C.foldl (giv ld) (List.replicate m 0, List.replicate n 0)
theorem givs_snoc (ld : Nat → Int) (m n : Nat) (C : List Nat) (x : Nat) : givs ld m n (C ++ [x]) = giv ld (givs ld m n C) x := by unfold givs; rw [List.foldl_append]; rfl
theorem snoc_rec {α : Type} {P : List α → Prop} (h0 : P []) (h1 : ∀ C x, P C → P (C ++ [x])) : ∀ C, P C := fun C => by
  have : ∀ D : List α, P D.reverse := fun D => by
    induction D with
    | nil => exact h0
    | cons x D ih => rw [List.reverse_cons]; exact h1 _ _ ih
  have h := this C.reverse
  rwa [List.reverse_reverse] at h
theorem givs_len (ld : Nat → Int) (m n : Nat) (C : List Nat) : (givs ld m n C).1.length = m ∧ (givs ld m n C).2.length = n := by
  refine snoc_rec (P := fun C => (givs ld m n C).1.length = m ∧ (givs ld m n C).2.length = n) (by simp [givs]) (fun C x ih => ?_) C
  rw [givs_snoc]; unfold giv; simpa using ih
theorem givs_bd (ld : Nat → Int) (m n : Nat) (hm : 0 < m) (B : Int) : ∀ (C : List Nat), (∀ x ∈ C, 0 ≤ ld x ∧ ld x ≤ B) → ∀ y ∈ (givs ld m n C).1, 0 ≤ y ∧ y ≤ B * C.length := by
  refine snoc_rec ?_ ?_
  · intro _ y hy; simp [givs] at hy; simp; omega
  · intro C x ih hB
    have ih := ih (fun y hy => hB y (by simp [hy]))
    have hx := hB x (by simp)
    rw [givs_snoc]
    unfold giv
    intro y hy
    have hl := (givs_len ld m n C).1
    have hal := argmin_lt (givs ld m n C).1 (by intro e; rw [e] at hl; simp at hl; omega)
    have e1 : B * ((C ++ [x]).length : Int) = B * (C.length : Int) + B := by
      rw [List.length_append]
      push_cast
      rw [Int.mul_add]; simp
    rw [e1]
    rcases List.mem_or_eq_of_mem_set hy with h | h
    · have := ih y h; omega
    · subst h
      have := ih _ (List.getElem_mem hal)
      rw [List.getD_eq_getElem?_getD, List.getElem?_eq_getElem hal]
      simp only [Option.getD_some]
      omega
end Go.Proofs.YtfkeokeedljomaaDoor
