/- The document's Judge goes by two places. -/
import Derived.Test.YthcgjbpiiodlgaaDoorPureQf
namespace Go.Proofs.YthcgjbpiiodlgaaDoor
open Mp
set_option linter.unusedVariables false

/-- What lies ahead of the second place is below what the first place has. -/
def JInv (W G : List Lne) (i k : Nat) : Prop := ∀ j (hj : j < G.length), j < k → ∀ (hi : i < W.length), kb G[j].1 < kb W[i].1
theorem jinv_zero (W G : List Lne) : JInv W G 0 0 := fun j hj h => by omega
theorem ris_lt {L : List Lne} (h : Ris L) {i j : Nat} (hi : i < L.length) (hj : j < L.length) (hij : i < j) : kb L[i].1 < kb L[j].1 := List.pairwise_iff_getElem.1 h i j hi hj hij
theorem getD_at {L : List Lne} (hr : Ris L) {k : Nat} (hk : k < L.length) : getD L L[k].1 = L[k].2 := by
  unfold getD; rw [get_of_mem hr (List.getElem_mem hk)]; rfl
theorem getD_no {L : List Lne} {key : ByteArray} (h : ∀ j (hj : j < L.length), L[j].1 ≠ key) : getD L key = [] := by
  unfold getD
  have : Mp.get L key = none := get_none.2 fun q hq => by
    obtain ⟨j, hj, rfl⟩ := List.getElem_of_mem hq
    exact h j hj
  rw [this]; rfl
theorem jinv_next {W G : List Lne} (hW : Ris W) {i k : Nat} (hi : i < W.length) (h : JInv W G i k) : JInv W G (i + 1) k := fun j hj hk hi2 => kb_trans (h j hj hk hi) (ris_lt hW hi hi2 (by omega))
theorem jinv_both {W G : List Lne} (hW : Ris W) {i k : Nat} (hi : i < W.length) (hk : k < G.length) (e : G[k].1 = W[i].1) (h : JInv W G i k) : JInv W G (i + 1) (k + 1) := fun j hj hk2 hi2 => by
  by_cases e2 : j = k
  · subst e2; rw [e]; exact ris_lt hW hi hi2 (by omega)
  · exact jinv_next hW hi h j hj (by omega) hi2
theorem judge_end {W G : List Lne} {i k : Nat} (hi : W.length ≤ i) (hk : G.length ≤ k) : judgeP (W.drop i) (G.drop k) = (0, ByteArray.empty, 0) := by
  rw [List.drop_of_length_le hi, List.drop_of_length_le hk]; simp [judgeP]
theorem judge_out {W G : List Lne} {i k : Nat} (hk : k < G.length) (h : W.length ≤ i ∨ ∃ hi : i < W.length, kb G[k].1 < kb W[i].1) : judgeP (W.drop i) (G.drop k) = (3, G[k].1, 0) := by
  rw [List.drop_eq_getElem_cons hk]
  rcases h with h | ⟨hi, h⟩
  · rw [List.drop_of_length_le h, judgeP]
  · rw [List.drop_eq_getElem_cons hi, judgeP, if_pos h]
theorem judge_same {W G : List Lne} (hG : Ris G) {i k : Nat} (hi : i < W.length) (hk : k < G.length) (e : G[k].1 = W[i].1) :
    judgeP (W.drop i) (G.drop k) = if (wrongP W[i].2 (getD G W[i].1)).1 = 0 then judgeP (W.drop (i + 1)) (G.drop (k + 1)) else ((wrongP W[i].2 (getD G W[i].1)).1, W[i].1, (wrongP W[i].2 (getD G W[i].1)).2) := by
  rw [← e, getD_at hG hk, e, List.drop_eq_getElem_cons hk, List.drop_eq_getElem_cons hi, judgeP, if_neg (by rw [e]; exact kb_irr _), if_pos e]
theorem judge_miss {W G : List Lne} (hG : Ris G) {i k : Nat} (hi : i < W.length) (hI : JInv W G i k) (h : ∀ hk : k < G.length, kb W[i].1 < kb G[k].1) :
    judgeP (W.drop i) (G.drop k) = if (wrongP W[i].2 (getD G W[i].1)).1 = 0 then judgeP (W.drop (i + 1)) (G.drop k) else ((wrongP W[i].2 (getD G W[i].1)).1, W[i].1, (wrongP W[i].2 (getD G W[i].1)).2) := by
  have hg : getD G W[i].1 = [] := by
    refine getD_no fun j hj e => ?_
    by_cases hjk : j < k
    · have := hI j hj hjk hi
      rw [e] at this; exact kb_irr _ this
    · have h1 := h (by omega)
      by_cases e2 : j = k
      · subst e2; rw [e] at h1; exact kb_irr _ h1
      · have := kb_trans h1 (ris_lt hG (by omega) hj (by omega))
        rw [e] at this; exact kb_irr _ this
  rw [hg]
  by_cases hk : k < G.length
  · rw [List.drop_eq_getElem_cons hk, List.drop_eq_getElem_cons hi, judgeP, if_neg (fun h2 => kb_irr _ (kb_trans h2 (h hk))), if_neg (fun e => by have := h hk; rw [e] at this; exact kb_irr _ this)]
  · rw [List.drop_of_length_le (show G.length ≤ k by omega), List.drop_eq_getElem_cons hi, judgeP]
/-- The numbers up to a place, each at least as often among the others. -/
def crJ (w g : List Int) (a j : Nat) : Bool := ((g.drop a).take (j - a)).all fun x => decide ((g.drop a).count x ≤ (w.drop a).count x)
theorem cr_zero (w g : List Int) (a : Nat) : crJ w g a a = true := by simp [crJ]
theorem cr_step (w g : List Int) (a j : Nat) (ha : a ≤ j) (hj : j < g.length) : crJ w g a (j + 1) = (crJ w g a j && decide ((g.drop a).count g[j] ≤ (w.drop a).count g[j])) := by
  unfold crJ
  rw [show j + 1 - a = (j - a) + 1 from by omega, List.take_succ_eq_append_getElem (by simp; omega), List.all_append]
  have e : a + (j - a) = j := by omega
  simp [List.getElem_drop, e]
theorem cr_all (w g : List Int) (a : Nat) (ha : a ≤ g.length) : crJ w g a g.length = crossP (w.drop a) (g.drop a) := by
  unfold crJ crossP
  rw [List.take_of_length_le (by simp)]
end Go.Proofs.YthcgjbpiiodlgaaDoor
