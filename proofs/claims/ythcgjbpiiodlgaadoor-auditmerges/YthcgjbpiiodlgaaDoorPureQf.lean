/- Lines that are right. -/
import Derived.Test.YthcgjbpiiodlgaaDoorPureQe
namespace Go.Proofs.YthcgjbpiiodlgaaDoor
open Mp
set_option linter.unusedVariables false

/-- Lines against which Check has nothing. -/
structure LOk (L : List Lne) : Prop where
  len : L.length ≤ 400
  ris : Ris L
  one : ∀ l ∈ L, l.2 ≠ [] ∧ l.2.length ≤ 400
theorem lineE_ok : ∀ (L : List Lne) (p : Option ByteArray), lineE p L = 0 → (∀ k, p = some k → ∀ l ∈ L, kb k < kb l.1) ∧ Ris L ∧ ∀ l ∈ L, l.2 ≠ [] ∧ l.2.length ≤ 400
  | [], p, _ => ⟨by simp, List.Pairwise.nil, by simp⟩
  | l :: L, p, h => by
    unfold lineE at h
    split at h
    · cases h
    · rename_i h1
      split at h
      · cases h
      · rename_i h2
        split at h
        · cases h
        · rename_i h3
          obtain ⟨i1, i2, i3⟩ := lineE_ok L (some l.1) h
          have hp : ∀ k, p = some k → kb k < kb l.1 := fun k hk => Decidable.byContradiction fun hn => h2 ⟨k, hk, hn⟩
          refine ⟨fun k hk x hx => ?_, List.pairwise_cons.2 ⟨fun x hx => i1 l.1 rfl x hx, i2⟩, fun x hx => ?_⟩
          · rcases List.mem_cons.1 hx with rfl | hx
            · exact hp k hk
            · exact kb_trans (hp k hk) (i1 l.1 rfl x hx)
          · rcases List.mem_cons.1 hx with rfl | hx
            · exact ⟨h3, by omega⟩
            · exact i3 x hx
theorem lines_ok {L : List Lne} (h : linesE L = 0) : LOk L := by
  unfold linesE at h
  split at h
  · cases h
  · obtain ⟨_, h2, h3⟩ := lineE_ok L none h
    exact ⟨by omega, h2, h3⟩
theorem lineE_good : ∀ (L : List Lne) (p : Option ByteArray), Ris L → (∀ k, p = some k → ∀ l ∈ L, kb k < kb l.1) → (∀ l ∈ L, l.2 ≠ [] ∧ l.2.length ≤ 400) → lineE p L = 0
  | [], p, _, _, _ => rfl
  | l :: L, p, h1, h2, h3 => by
    obtain ⟨p1, p2⟩ := List.pairwise_cons.1 h1
    obtain ⟨q1, q2⟩ := h3 l (by simp)
    have hp : ¬ ∃ k, p = some k ∧ ¬ kb k < kb l.1 := fun ⟨k, e, hn⟩ => hn (h2 k e l (by simp))
    unfold lineE
    rw [if_neg (by omega), if_neg hp, if_neg q1]
    exact lineE_good L (some l.1) p2 (fun k e x hx => by injection e with e; subst e; exact p1 x hx) (fun x hx => h3 x (by simp [hx]))
theorem lines_good {L : List Lne} (h : LOk L) : linesE L = 0 := by
  unfold linesE
  rw [if_neg (by have := h.len; omega)]
  exact lineE_good L none h.ris (by simp) h.one
/-- Lines that rise, each with a number, are wrong by their size alone. -/
theorem lineE_four : ∀ (L : List Lne) (p : Option ByteArray), Ris L → (∀ k, p = some k → ∀ l ∈ L, kb k < kb l.1) → (∀ l ∈ L, l.2 ≠ []) → lineE p L = 0 ∨ lineE p L = 4
  | [], p, _, _, _ => .inl rfl
  | l :: L, p, h1, h2, h3 => by
    obtain ⟨p1, p2⟩ := List.pairwise_cons.1 h1
    have hp : ¬ ∃ k, p = some k ∧ ¬ kb k < kb l.1 := fun ⟨k, e, hn⟩ => hn (h2 k e l (by simp))
    unfold lineE
    by_cases h4 : 400 < l.2.length
    · rw [if_pos h4]; exact .inr rfl
    · rw [if_neg h4, if_neg hp, if_neg (h3 l (by simp))]
      exact lineE_four L (some l.1) p2 (fun k e x hx => by injection e with e; subst e; exact p1 x hx) (fun x hx => h3 x (by simp [hx]))
theorem lines_four {L : List Lne} (h1 : Ris L) (h3 : ∀ l ∈ L, l.2 ≠ []) : linesE L = 0 ∨ linesE L = 4 := by
  unfold linesE
  by_cases h : 400 < L.length
  · rw [if_pos h]; exact .inr rfl
  · rw [if_neg h]; exact lineE_four L none h1 (by simp) h3
theorem getD_mem {L : List Lne} {k : ByteArray} (h : getD L k ≠ []) : (k, getD L k) ∈ L := by
  unfold getD at h ⊢
  cases e : Mp.get L k with
  | none => rw [e] at h; exact absurd rfl h
  | some v => exact get_mem e
theorem getD_len {L : List Lne} (h : LOk L) (k : ByteArray) : (getD L k).length ≤ 400 := by
  by_cases e : getD L k = []
  · rw [e]; simp
  · exact (h.one _ (getD_mem e)).2
theorem merge_ne : ∀ (a b : List Lne), (∀ l ∈ a, l.2 ≠ []) → (∀ l ∈ b, l.2 ≠ []) → ∀ l ∈ mergeP a b, l.2 ≠ []
  | [], b, h1, h2 => by rw [nil_merge]; exact h2
  | x :: A, [], h1, h2 => by rw [merge_nil]; exact h1
  | x :: A, y :: B, h1, h2 => by
    rw [mergeP]
    split
    · intro l hl
      rcases List.mem_cons.1 hl with rfl | hl
      · exact h1 _ (by simp)
      · exact merge_ne A (y :: B) (fun z hz => h1 z (by simp [hz])) h2 l hl
    · split
      · intro l hl
        rcases List.mem_cons.1 hl with rfl | hl
        · have := h1 x (by simp)
          simp [this]
        · exact merge_ne A B (fun z hz => h1 z (by simp [hz])) (fun z hz => h2 z (by simp [hz])) l hl
      · intro l hl
        rcases List.mem_cons.1 hl with rfl | hl
        · exact h2 _ (by simp)
        · exact merge_ne (x :: A) B h1 (fun z hz => h2 z (by simp [hz])) l hl
termination_by a b => a.length + b.length
/-- Merge by keys: each key's numbers of both. -/
theorem merge_by : ∀ (a b : List Lne), Ris a → Ris b → mergeP a b = (keysOf (mergeP a b)).map fun k => (k, getD a k ++ getD b k)
  | [], b, h1, h2 => by
    rw [nil_merge, keysOf, List.map_map]
    conv => lhs; rw [← List.map_id b]
    refine List.map_congr_left fun l hl => ?_
    simp [getD, get_of_mem h2 hl, Mp.get]
  | x :: A, [], h1, h2 => by
    rw [merge_nil, keysOf, List.map_map]
    conv => lhs; rw [← List.map_id (x :: A)]
    refine List.map_congr_left fun l hl => ?_
    have e1 : getD (x :: A) l.1 = l.2 := by unfold getD; rw [get_of_mem h1 hl]; rfl
    show l = (l.1, getD (x :: A) l.1 ++ getD [] l.1)
    rw [e1, show getD ([] : List Lne) l.1 = [] from rfl, List.append_nil]
  | x :: A, y :: B, h1, h2 => by
    obtain ⟨p1, p2⟩ := List.pairwise_cons.1 h1
    obtain ⟨q1, q2⟩ := List.pairwise_cons.1 h2
    rw [mergeP]
    by_cases h : kb x.1 < kb y.1
    · have hg : ∀ l ∈ y :: B, kb x.1 < kb l.1 := by
        intro l hl
        rcases List.mem_cons.1 hl with rfl | hl
        · exact h
        · exact kb_trans h (q1 l hl)
      have ih := merge_by A (y :: B) p2 h2
      rw [if_pos h, keysOf, List.map_cons, List.map_cons, getD_head, getD_less hg, List.append_nil]
      congr 1
      conv => lhs; rw [ih]
      exact List.map_congr_left fun k hk => by rw [getD_tail (keys_gt p1 hg k hk)]
    · by_cases he : x.1 = y.1
      · have hg : ∀ l ∈ B, kb x.1 < kb l.1 := by rw [he]; exact q1
        have ih := merge_by A B p2 q2
        have e2 : getD (y :: B) x.1 = y.2 := by rw [he]; exact getD_head y B
        rw [if_neg h, if_pos he, keysOf, List.map_cons, List.map_cons, getD_head, e2]
        congr 1
        conv => lhs; rw [ih]
        exact List.map_congr_left fun k hk => by
          have hk' := keys_gt p1 hg k hk
          rw [getD_tail hk', getD_tail (by rw [← he]; exact hk')]
      · have hlt : kb y.1 < kb x.1 := by
          rcases kb_tri x.1 y.1 with h' | h' | h'
          · exact absurd h' h
          · exact absurd h' he
          · exact h'
        have hw : ∀ l ∈ x :: A, kb y.1 < kb l.1 := by
          intro l hl
          rcases List.mem_cons.1 hl with rfl | hl
          · exact hlt
          · exact kb_trans hlt (p1 l hl)
        have ih := merge_by (x :: A) B h1 q2
        rw [if_neg h, if_neg he, keysOf, List.map_cons, List.map_cons, getD_head, getD_less hw, List.nil_append]
        congr 1
        conv => lhs; rw [ih]
        exact List.map_congr_left fun k hk => by rw [getD_tail (keys_gt hw q1 k hk)]
termination_by a b => a.length + b.length
end Go.Proofs.YthcgjbpiiodlgaaDoor
