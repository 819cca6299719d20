/- What package audit answers, plain: Merge, Less; lines cut in two. -/
import Derived.Test.YthcgjbpiiodlgaaDoorPureQa
namespace Go.Proofs.YthcgjbpiiodlgaaDoor
open Mp
set_option linter.unusedVariables false

/-- The document's Merge, of lines that rise. -/
def mergeP : List Lne → List Lne → List Lne
  | [], b => b
  | x :: A, [] => x :: A
  | x :: A, y :: B =>
    if kb x.1 < kb y.1 then x :: mergeP A (y :: B)
    else if x.1 = y.1 then (x.1, x.2 ++ y.2) :: mergeP A B
    else y :: mergeP (x :: A) B
termination_by A B => A.length + B.length
theorem merge_nil (A : List Lne) : mergeP A [] = A := by cases A <;> simp [mergeP]
theorem nil_merge (A : List Lne) : mergeP [] A = A := by cases A <;> simp [mergeP]
/-- How many numbers lines have. -/
def manyP (L : List Lne) : Nat := (L.map fun l => l.2.length).sum
/-- The document's Prefix, of lines that rise. -/
def prefQ (a b : List Lne) : Prop := ∀ l ∈ a, ∃ v, Mp.get b l.1 = some v ∧ l.2 <+: v
/-- The first k of each, the others of each; lines without numbers are none. -/
def cutA (k : Nat) (L : List Lne) : List Lne := (L.map fun l => (l.1, l.2.take k)).filter fun l => !l.2.isEmpty
def cutB (k : Nat) (L : List Lne) : List Lne := (L.map fun l => (l.1, l.2.drop k)).filter fun l => !l.2.isEmpty
theorem cutA_zero (L : List Lne) : cutA 0 L = [] := by simp [cutA]
theorem cutB_zero {L : List Lne} (h : ∀ l ∈ L, l.2 ≠ []) : cutB 0 L = L := by
  simp only [cutB, List.drop_zero]
  rw [show (L.map fun l => (l.1, l.2)) = L from by simp]
  rw [List.filter_eq_self]
  intro l hl
  simp [h l hl]
theorem cutA_cons (k : Nat) (hk : 0 < k) (l : Lne) (L : List Lne) (h : l.2 ≠ []) : cutA k (l :: L) = (l.1, l.2.take k) :: cutA k L := by
  unfold cutA
  rw [List.map_cons, List.filter_cons_of_pos]
  simp [h]; omega
theorem cutB_cons_long (k : Nat) (l : Lne) (L : List Lne) (h : k < l.2.length) : cutB k (l :: L) = (l.1, l.2.drop k) :: cutB k L := by
  unfold cutB
  rw [List.map_cons, List.filter_cons_of_pos]
  simp; omega
theorem cutB_cons_short (k : Nat) (l : Lne) (L : List Lne) (h : l.2.length ≤ k) : cutB k (l :: L) = cutB k L := by
  unfold cutB
  rw [List.map_cons, List.filter_cons_of_neg]
  simp; omega
theorem cutB_keys {k : Nat} {L : List Lne} {y : Lne} (h : y ∈ cutB k L) : ∃ l ∈ L, l.1 = y.1 := by
  unfold cutB at h
  rw [List.mem_filter, List.mem_map] at h
  obtain ⟨⟨l, hl, rfl⟩, -⟩ := h
  exact ⟨l, hl, rfl⟩
theorem merge_head (x : Lne) (A B : List Lne) (h : ∀ y ∈ B, kb x.1 < kb y.1) : mergeP (x :: A) B = x :: mergeP A B := by
  cases B with
  | nil => rw [merge_nil, merge_nil]
  | cons y B => rw [mergeP, if_pos (h y (by simp))]
/-- Both halves together are the whole. -/
theorem merge_cut (k : Nat) (hk : 0 < k) : ∀ (L : List Lne), Ris L → (∀ l ∈ L, l.2 ≠ []) → mergeP (cutA k L) (cutB k L) = L
  | [], _, _ => by simp [cutA, cutB, mergeP]
  | l :: L, hr, h => by
    obtain ⟨h1, h2⟩ := List.pairwise_cons.1 hr
    have ih := merge_cut k hk L h2 (fun x hx => h x (by simp [hx]))
    rw [cutA_cons k hk l L (h l (by simp))]
    by_cases hl : k < l.2.length
    · rw [cutB_cons_long k l L hl, mergeP, if_neg (kb_irr _), if_pos rfl, ih]
      simp
    · rw [cutB_cons_short k l L (by omega)]
      rw [merge_head _ _ _ (fun y hy => by obtain ⟨z, hz, e⟩ := cutB_keys hy; rw [← e]; exact h1 z hz), ih]
      rw [List.take_of_length_le (by omega)]
theorem merge_cut0 {L : List Lne} (h : ∀ l ∈ L, l.2 ≠ []) : mergeP (cutA 0 L) (cutB 0 L) = L := by
  rw [cutA_zero, cutB_zero h, nil_merge]
/-- A beginning of each: something is missing, or nothing is wrong. -/
theorem judge_cut (k : Nat) (hk : 0 < k) : ∀ (L : List Lne), (∀ l ∈ L, l.2 ≠ []) →
    (judgeP L (cutA k L)).1 = if ∃ l ∈ L, k < l.2.length then 1 else 0
  | [], _ => by simp [cutA, judgeP]
  | l :: L, h => by
    have ih := judge_cut k hk L (fun x hx => h x (by simp [hx]))
    rw [cutA_cons k hk l L (h l (by simp)), judgeP, if_neg (kb_irr _), if_pos rfl]
    by_cases hl : k < l.2.length
    · have e : wrongP l.2 (l.2.take k) = (1, (l.2.take k).length) := by
        have h3 : l.2 = l.2.take k ++ l.2[k] :: l.2.drop (k + 1) := by simp
        exact Eq.trans (congrArg (fun z => wrongP z (l.2.take k)) h3) (wrong_short _ _ _)
      rw [e, if_neg (fun h7 : (1 : Nat) = 0 => by omega), if_pos ⟨l, by simp, hl⟩]
    · rw [List.take_of_length_le (by omega), wrong_self]
      rw [if_pos rfl, ih]
      have e2 : (∃ x ∈ l :: L, k < x.2.length) ↔ ∃ x ∈ L, k < x.2.length := by simp [hl]
      by_cases h5 : ∃ x ∈ L, k < x.2.length
      · rw [if_pos h5, if_pos (e2.2 h5)]
      · rw [if_neg h5, if_neg (fun h6 => h5 (e2.1 h6))]
theorem judge_cut0 {L : List Lne} (h : ∀ l ∈ L, l.2 ≠ []) : (judgeP L (cutA 0 L)).1 = if ∃ l ∈ L, 0 < l.2.length then 1 else 0 := by
  rw [cutA_zero]
  cases L with
  | nil => simp [judgeP]
  | cons l L =>
    rw [judgeP, wrong_nil (h l (by simp))]
    have := List.length_pos_iff.2 (h l (by simp))
    simp [this]
theorem many_cut (k : Nat) : ∀ (L : List Lne), manyP (cutA k L) = (L.map fun l => min k l.2.length).sum
  | [] => by simp [cutA, manyP]
  | l :: L => by
    have ih := many_cut k L
    by_cases h0 : l.2.take k = []
    · have e : cutA k (l :: L) = cutA k L := by
        unfold cutA
        rw [List.map_cons, List.filter_cons_of_neg (by rw [h0]; simp)]
      have h1 : min k l.2.length = 0 := by rw [← List.length_take, h0]; rfl
      rw [e, ih, List.map_cons, List.sum_cons, h1, Nat.zero_add]
    · have e : cutA k (l :: L) = (l.1, l.2.take k) :: cutA k L := by
        unfold cutA
        rw [List.map_cons, List.filter_cons_of_pos (by simpa using h0)]
      rw [e]
      simp only [manyP, List.map_cons, List.sum_cons, List.length_take] at ih ⊢
      rw [ih]
theorem get_of_mem {L : List Lne} (hr : Ris L) {l : Lne} (h : l ∈ L) : Mp.get L l.1 = some l.2 := by
  induction L with
  | nil => cases h
  | cons p L ih =>
    obtain ⟨h1, h2⟩ := List.pairwise_cons.1 hr
    rcases List.mem_cons.1 h with rfl | h
    · simp [Mp.get]
    · have h3 : p.1 ≠ l.1 := fun e => kb_irr p.1 (by have := h1 l h; rw [← e] at this; exact this)
      rw [Mp.get, if_neg h3]
      exact ih h2 h
theorem pref_cut (k : Nat) {L : List Lne} (hr : Ris L) : prefQ (cutA k L) L := by
  intro l hl
  unfold cutA at hl
  rw [List.mem_filter, List.mem_map] at hl
  obtain ⟨⟨x, hx, rfl⟩, -⟩ := hl
  exact ⟨x.2, get_of_mem hr hx, List.take_prefix _ _⟩
end Go.Proofs.YthcgjbpiiodlgaaDoor
