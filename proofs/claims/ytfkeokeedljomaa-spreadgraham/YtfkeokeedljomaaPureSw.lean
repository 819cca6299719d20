/- What each worker gets, by any way; Graham's bound for what Least answers. Plain. -/
import Derived.Test.YtfkeokeedljomaaPureSl
namespace Go.Proofs.Ytfkeokeedljomaa
set_option linter.unusedVariables false
set_option linter.unusedSimpArgs false

def addP (S : List Int) (k : Nat) (x : Int) : List Int := S.set k (S.getD k 0 + x)
def accP (m : Nat) (q : List (Nat × Int)) : List Int := q.foldl (fun S p => addP S p.1 p.2) (List.replicate m 0)
theorem accP_snoc (m : Nat) (q : List (Nat × Int)) (p : Nat × Int) : accP m (q ++ [p]) = addP (accP m q) p.1 p.2 := by unfold accP; rw [List.foldl_append]; rfl
theorem accP_len (m : Nat) (q : List (Nat × Int)) : (accP m q).length = m := by
  refine snoc_rec (P := fun q => (accP m q).length = m) (by simp [accP]) (fun q p ih => ?_) q
  rw [accP_snoc]; unfold addP; rw [List.length_set]; exact ih
theorem accP_at (m : Nat) (k : Nat) (hk : k < m) (q : List (Nat × Int)) : (accP m q).getD k 0 = ((q.filter fun p => p.1 == k).map (·.2)).sum := by
  refine snoc_rec (P := fun q => (accP m q).getD k 0 = ((q.filter fun p => p.1 == k).map (·.2)).sum) ?_ (fun q p ih => ?_) q
  · simp [accP, List.getD_eq_getElem?_getD, hk]
  · rw [accP_snoc, List.filter_append, List.map_append, List.sum_append, ← ih]
    have hl := accP_len m q
    unfold addP
    by_cases e : p.1 = k
    · subst e
      simp [List.getD_eq_getElem?_getD, List.getElem?_set, hl, hk]
    · simp [List.getD_eq_getElem?_getD, List.getElem?_set, e]
theorem sum_perm {a b : List Int} (h : a.Perm b) : a.sum = b.sum := by
  induction h with
  | nil => rfl
  | cons x _ ih => simp [ih]
  | swap x y l => simp; omega
  | trans _ _ h1 h2 => exact h1.trans h2
theorem accP_perm (m : Nat) {q q' : List (Nat × Int)} (h : q.Perm q') : accP m q = accP m q' := by
  apply List.ext_getElem?
  intro k
  by_cases hk : k < m
  · have e := accP_at m k hk q
    have e' := accP_at m k hk q'
    have hs := sum_perm ((h.filter fun p => p.1 == k).map (·.2))
    rw [List.getD_eq_getElem?_getD, List.getElem?_eq_getElem (by rw [accP_len]; exact hk)] at e e'
    rw [List.getElem?_eq_getElem (by rw [accP_len]; exact hk), List.getElem?_eq_getElem (by rw [accP_len]; exact hk)]
    congr 1
    simp only [Option.getD_some] at e e'
    omega
  · rw [List.getElem?_eq_none (by rw [accP_len]; omega), List.getElem?_eq_none (by rw [accP_len]; omega)]
/-- What comes to each, where things 0 to i go to ks. -/
def waP (ld : Nat → Int) (m : Nat) (ks : List Nat) (i : Nat) : List Int := accP m ((List.range i).map fun x => (ks.getD x 0, ld x))
theorem waP_succ (ld : Nat → Int) (m : Nat) (ks : List Nat) (i : Nat) : waP ld m ks (i + 1) = addP (waP ld m ks i) (ks.getD i 0) (ld i) := by
  unfold waP
  rw [List.range_succ, List.map_append, List.map_cons, List.map_nil, accP_snoc]
theorem waP_more (ld : Nat → Int) (m : Nat) (ks : List Nat) (k i : Nat) (h : i ≤ ks.length) : waP ld m (ks ++ [k]) i = waP ld m ks i := by
  unfold waP
  congr 1
  refine List.map_congr_left fun x hx => ?_
  have := List.mem_range.1 hx
  rw [List.getD_eq_getElem?_getD, List.getElem?_append_left (by omega), ← List.getD_eq_getElem?_getD]
theorem waP_len (ld : Nat → Int) (m : Nat) (ks : List Nat) (i : Nat) : (waP ld m ks i).length = m := accP_len _ _
theorem waP_bd (ld : Nat → Int) (m : Nat) (ks : List Nat) (B : Int) : ∀ (i : Nat), (∀ x < i, 0 ≤ ld x ∧ ld x ≤ B) → (0 ≤ B) → ∀ y ∈ waP ld m ks i, 0 ≤ y ∧ y ≤ B * i := by
  intro i
  induction i with
  | zero => intro _ _ y hy; simp [waP, accP] at hy; simp; omega
  | succ i ih =>
    intro h hB y hy
    have ih := ih (fun x hx => h x (by omega)) hB
    have hx := h i (by omega)
    rw [waP_succ] at hy
    have e1 : B * ((i + 1 : Nat) : Int) = B * (i : Int) + B := by push_cast; rw [Int.mul_add]; simp
    rw [e1]
    unfold addP at hy
    rcases List.mem_or_eq_of_mem_set hy with h2 | h2
    · have := ih y h2; omega
    · subst h2
      by_cases hk : ks.getD i 0 < (waP ld m ks i).length
      · have := ih _ (List.getElem_mem hk)
        rw [List.getD_eq_getElem?_getD (l := waP ld m ks i), List.getElem?_eq_getElem hk]
        simp only [Option.getD_some]; omega
      · rw [List.getD_eq_getElem?_getD (l := waP ld m ks i), List.getElem?_eq_none (by omega)]
        have : 0 ≤ B * (i : Int) := Int.mul_nonneg hB (by omega)
        simp only [Option.getD_none]; omega
/-- The greatest of all, and 0. -/
def mxP : List Int → Int → Int
  | [], m => m
  | x :: l, m => mxP l (if x > m then x else m)
theorem mxP_snoc (l : List Int) (x m : Int) : mxP (l ++ [x]) m = if x > mxP l m then x else mxP l m := by
  induction l generalizing m with
  | nil => rfl
  | cons y l ih => exact ih _
theorem mxP_ge : ∀ (l : List Int) (m : Int), m ≤ mxP l m ∧ ∀ x ∈ l, x ≤ mxP l m
  | [], m => ⟨Int.le_refl _, by simp⟩
  | x :: l, m => by
    obtain ⟨h1, h2⟩ := mxP_ge l (if x > m then x else m)
    simp only [mxP]
    generalize mxP l (if x > m then x else m) = z at *
    have h3 : m ≤ z ∧ x ≤ z := by
      by_cases h : x > m
      · rw [if_pos h] at h1; omega
      · rw [if_neg h] at h1; omega
    refine ⟨h3.1, fun y hy => ?_⟩
    rcases List.mem_cons.1 hy with rfl | hy
    · exact h3.2
    · exact h2 y hy
theorem mxP_mem : ∀ (l : List Int) (m : Int), mxP l m = m ∨ mxP l m ∈ l
  | [], m => .inl rfl
  | x :: l, m => by
    simp only [mxP, List.mem_cons]
    rcases mxP_mem l (if x > m then x else m) with h | h
    · rw [h]
      split
      · exact .inr (.inl rfl)
      · exact .inl rfl
    · exact .inr (.inr h)
/-- Who is told. -/
theorem givs_who (ld : Nat → Int) (m n : Nat) (hm : 0 < m) (C : List Nat) : ∀ y ∈ (givs ld m n C).2, y < m := by
  refine snoc_rec (P := fun C => ∀ y ∈ (givs ld m n C).2, y < m) ?_ (fun C x ih => ?_) C
  · intro y hy; simp [givs] at hy; omega
  · intro y hy
    rw [givs_snoc] at hy
    unfold giv at hy
    rcases List.mem_or_eq_of_mem_set hy with h | h
    · exact ih y h
    · subst h
      have hl := (givs_len ld m n C).1
      have := argmin_lt (givs ld m n C).1 (by intro e; rw [e] at hl; simp at hl; omega)
      omega
theorem givs_acc (ld : Nat → Int) (m n : Nat) : ∀ (C : List Nat), C.Nodup → (∀ x ∈ C, x < n) → (givs ld m n C).1 = accP m (C.map fun x => ((givs ld m n C).2.getD x 0, ld x)) := by
  refine snoc_rec (fun _ _ => by simp [givs, accP]) (fun C x ih hnd hlt => ?_)
  have hnd' := List.nodup_append.1 hnd
  have ih := ih hnd'.1 (fun y hy => hlt y (by simp [hy]))
  have hl := (givs_len ld m n C).2
  rw [givs_snoc, List.map_append, List.map_cons, List.map_nil, accP_snoc]
  unfold giv
  simp only
  have e1 : (C.map fun y => (((givs ld m n C).2.set x (argmin (givs ld m n C).1)).getD y 0, ld y)) = C.map fun y => ((givs ld m n C).2.getD y 0, ld y) := by
    refine List.map_congr_left fun y hy => ?_
    have hne : x ≠ y := fun e => hnd'.2.2 y hy x (by simp) e.symm
    rw [List.getD_eq_getElem?_getD, List.getElem?_set_ne hne, ← List.getD_eq_getElem?_getD]
  have e2 : ((givs ld m n C).2.set x (argmin (givs ld m n C).1)).getD x 0 = argmin (givs ld m n C).1 := by
    have := hlt x (by simp)
    rw [List.getD_eq_getElem?_getD, List.getElem?_set]
    simp [hl, this]
  rw [e1, e2, ← ih]
  rfl
theorem givs_lpt (ld : Nat → Int) (m n : Nat) : ∀ (C : List Nat), (lptM m (C.map ld)).map List.sum = (givs ld m n C).1 := by
  refine snoc_rec (by simp [lptM, givs]) (fun C x ih => ?_)
  rw [givs_snoc]
  unfold giv
  simp only
  rw [← ih]
  have e : lptM m ((C ++ [x]).map ld) = giveM (lptM m (C.map ld)) (ld x) := by unfold lptM; rw [List.map_append, List.foldl_append]; rfl
  rw [e]
  unfold giveM
  rw [List.map_set]
  congr 1
  rw [List.sum_cons, List.getD_eq_getElem?_getD, List.getD_eq_getElem?_getD, List.getElem?_map]
  cases (lptM m (C.map ld))[argmin ((lptM m (C.map ld)).map List.sum)]? with
  | none => simp
  | some s => simp; omega
theorem pair_anti {ld : Nat → Int} {C D : List Nat} (h : C.Perm D) (hc : C.Pairwise (ah ld)) (hd : D.Pairwise (ah ld)) : C = D :=
  List.Perm.eq_of_pairwise (fun a b _ _ h1 h2 => absurd h2 (ah_asymm h1)) hc hd h
theorem Bk.uniq {ld : Nat → Int} {C D : List Nat} (hc : Bk ld 0 C) (hd : Bk ld 0 D) (hl : C.length = D.length) : C = D :=
  pair_anti (hc.1.trans (by rw [hl]; exact hd.1.symm)) hc.2 hd.2
theorem graham_fin {ld : Nat → Int} {m n : Nat} (hm : 0 < m) {C : List Nat} (hC : Bk ld 0 C) (hn : C.length = n) (h0 : ∀ x < n, 0 ≤ ld x) {ks : List Nat} (hks : ∀ k ∈ ks, k < m) (hkl : ks.length = n) :
    3 * (m : Int) * mxP (waP ld m (givs ld m n C).2 n) 0 ≤ (4 * (m : Int) - 1) * mxP (waP ld m ks n) 0 := by
  have hperm : (List.range n).Perm C := by rw [List.range_eq_range']; rw [← hn]; exact hC.1.symm
  have hnd : C.Nodup := hC.1.nodup_iff.2 (List.nodup_range' ..)
  have hlt : ∀ x ∈ C, x < n := fun x hx => by have := hC.mem hx; omega
  have hb0 := (mxP_ge (waP ld m ks n) 0).1
  have key : ∀ s ∈ lptM m ((C.map fun x => (ld x, ks.getD x 0)).map (·.1)), 3 * (m : Int) * s.sum ≤ (4 * (m : Int) - 1) * mxP (waP ld m ks n) 0 := by
    refine lpt_inv hm hb0 _ ?_ ?_ ?_
    · intro q hq
      obtain ⟨x, hx, rfl⟩ := List.mem_map.1 hq
      refine ⟨?_, h0 x (hlt x hx)⟩
      have := hlt x hx
      rw [List.getD_eq_getElem?_getD, List.getElem?_eq_getElem (by omega)]
      exact hks _ (List.getElem_mem _)
    · rw [List.pairwise_map]
      exact hC.2.imp fun h => by unfold ah at h; simp only; omega
    · intro j
      have e : (ofW j (C.map fun x => (ld x, ks.getD x 0))).sum = (((C.map fun x => (ks.getD x 0, ld x)).filter fun p => p.1 == j).map (·.2)).sum := by
        unfold ofW
        rw [List.filter_map, List.filter_map, List.map_map, List.map_map]
        rfl
      rw [e]
      by_cases hj : j < m
      · have h1 := accP_at m j hj (C.map fun x => (ks.getD x 0, ld x))
        rw [← h1, ← accP_perm m (hperm.map fun x => (ks.getD x 0, ld x))]
        have hl := waP_len ld m ks n
        have h2 := (mxP_ge (waP ld m ks n) 0).2 ((waP ld m ks n)[j]'(by omega)) (List.getElem_mem _)
        show (waP ld m ks n).getD j 0 ≤ _
        rw [List.getD_eq_getElem?_getD, List.getElem?_eq_getElem (by omega)]
        exact h2
      · have : ((C.map fun x => (ks.getD x 0, ld x)).filter fun p => p.1 == j) = [] := by
          rw [List.filter_eq_nil_iff]
          intro p hp
          obtain ⟨x, hx, rfl⟩ := List.mem_map.1 hp
          have := hlt x hx
          have h3 : ks.getD x 0 < m := by
            rw [List.getD_eq_getElem?_getD, List.getElem?_eq_getElem (by omega)]
            exact hks _ (List.getElem_mem _)
          simp only [beq_iff_eq]; omega
        rw [this]; simpa using hb0
  rw [List.map_map] at key
  have key2 : ∀ y ∈ (givs ld m n C).1, 3 * (m : Int) * y ≤ (4 * (m : Int) - 1) * mxP (waP ld m ks n) 0 := by
    rw [← givs_lpt]
    intro y hy
    obtain ⟨s, hs, rfl⟩ := List.mem_map.1 hy
    exact key s hs
  have hsame : waP ld m (givs ld m n C).2 n = (givs ld m n C).1 := by
    rw [givs_acc ld m n C hnd hlt]
    exact accP_perm m (hperm.map fun x => ((givs ld m n C).2.getD x 0, ld x))
  rw [hsame]
  rcases mxP_mem (givs ld m n C).1 0 with h | h
  · rw [h, Int.mul_zero]
    exact Int.mul_nonneg (by omega) hb0
  · exact key2 _ h
end Go.Proofs.Ytfkeokeedljomaa
