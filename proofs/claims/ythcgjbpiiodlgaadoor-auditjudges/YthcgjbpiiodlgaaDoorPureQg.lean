/- What audit's outright laws say, plain. -/
import Derived.Test.YthcgjbpiiodlgaaDoorPureQf
import Derived.Test.YthcgjbpiiodlgaaDoorPureP
namespace Go.Proofs.YthcgjbpiiodlgaaDoor
open Mp
set_option linter.unusedVariables false

theorem fst_mem : ∀ {b : List Lne}, Ris b → ∀ {l : Lne}, l ∈ b → fstP l.1 b = some l
  | [], _, l, h => by cases h
  | x :: b, hr, l, h => by
    obtain ⟨h1, h2⟩ := List.pairwise_cons.1 hr
    unfold fstP
    rcases List.mem_cons.1 h with rfl | h
    · rw [if_pos rfl]
    · have h3 : x.1 ≠ l.1 := fun e => kb_irr x.1 (by have := h1 l h; rw [← e] at this; exact this)
      rw [if_neg h3]
      exact fst_mem h2 h
theorem pref_of {a b : List Lne} (hr : Ris b) (h : ∀ l ∈ a, ∃ m ∈ b, m.1 = l.1 ∧ l.2 <+: m.2) : prefP a b = true := by
  unfold prefP
  rw [List.all_eq_true]
  intro l hl
  obtain ⟨m, hm, e, hp⟩ := h l hl
  unfold oneP
  rw [← e, fst_mem hr hm]
  simpa using hp
theorem many_app (A B : List Lne) : manyP (A ++ B) = manyP A + manyP B := by simp [manyP]
theorem many_cons (l : Lne) (L : List Lne) : manyP (l :: L) = l.2.length + manyP L := by simp [manyP]

/-- One line of many is another one. -/
theorem parts_at {L : List Lne} {i : Nat} (h : i < L.length) : L = L.take i ++ L[i] :: L.drop (i + 1) := by simp
theorem set_parts {L : List Lne} {i : Nat} (h : i < L.length) (x : Lne) : L.set i x = L.take i ++ x :: L.drop (i + 1) := List.set_eq_take_append_cons_drop.trans (if_pos h)
theorem ris_parts {A B : List Lne} {l x : Lne} (h : Ris (A ++ l :: B)) (e : x.1 = l.1) : Ris (A ++ x :: B) := by
  unfold Ris at h ⊢
  rw [List.pairwise_append, List.pairwise_cons] at h ⊢
  obtain ⟨h1, ⟨h2, h3⟩, h4⟩ := h
  refine ⟨h1, ⟨fun y hy => by rw [e]; exact h2 y hy, h3⟩, fun a ha y hy => ?_⟩
  rcases List.mem_cons.1 hy with rfl | hy
  · rw [e]; exact h4 a ha l (by simp)
  · exact h4 a ha y (by simp [hy])
theorem ris_gone {A B : List Lne} {l : Lne} (h : Ris (A ++ l :: B)) : Ris (A ++ B) := by
  unfold Ris at h ⊢
  rw [List.pairwise_append, List.pairwise_cons] at h
  rw [List.pairwise_append]
  exact ⟨h.1, h.2.1.2, fun a ha y hy => h.2.2 a ha y (by simp [hy])⟩
theorem ok_set {L : List Lne} (h : LOk L) {i : Nat} (hi : i < L.length) {z : List Int} (h1 : z ≠ []) (h2 : z.length ≤ 400) : LOk (L.set i (L[i].1, z)) := by
  refine ⟨by simpa using h.len, ?_, fun l hl => ?_⟩
  · rw [set_parts hi]
    have h' := h.ris
    rw [parts_at hi] at h'
    exact ris_parts h' rfl
  · rcases List.mem_or_eq_of_mem_set hl with hl | rfl
    · exact h.one l hl
    · exact ⟨h1, h2⟩
theorem ok_erase {L : List Lne} (h : LOk L) {i : Nat} (hi : i < L.length) : LOk (L.take i ++ L.drop (i + 1)) := by
  refine ⟨?_, ?_, fun l hl => h.one l ?_⟩
  · have := h.len; simp; omega
  · have h' := h.ris
    rw [parts_at hi] at h'
    exact ris_gone h'
  · rcases List.mem_append.1 hl with hl | hl
    · exact List.mem_of_mem_take hl
    · exact List.mem_of_mem_drop hl
theorem judge_set {L : List Lne} {i : Nat} (hi : i < L.length) (z : List Int) (h : (wrongP L[i].2 z).1 ≠ 0) : judgeP L (L.set i (L[i].1, z)) = ((wrongP L[i].2 z).1, L[i].1, (wrongP L[i].2 z).2) := by
  rw [set_parts hi]
  have := judge_turn (L.take i) L[i].1 L[i].2 z (L.drop (i + 1)) (L.drop (i + 1)) h
  rw [← this]
  congr 1
  exact parts_at hi
theorem judge_erase {L : List Lne} (h : LOk L) {i : Nat} (hi : i < L.length) : judgeP L (L.take i ++ L.drop (i + 1)) = (1, L[i].1, 0) := by
  have h' := h.ris
  rw [parts_at hi] at h'
  have h2 := (List.pairwise_cons.1 (List.pairwise_append.1 h').2.1).1
  have := judge_gone (L.take i) L[i].1 L[i].2 (L.drop (i + 1)) (L.drop (i + 1)) (h.one _ (List.getElem_mem hi)).1 h2
  rw [← this]
  congr 1
  exact parts_at hi
theorem wrong_take (w : List Int) (k : Nat) (h : k < w.length) : wrongP w (w.take k) = (1, k) := by
  have h3 : w = w.take k ++ w[k] :: w.drop (k + 1) := by simp
  have h4 : (w.take k).length = k := by simp; omega
  have := wrong_short (w.take k) w[k] (w.drop (k + 1))
  rw [← h3, h4] at this
  exact this
/-- Less and Judge of what lacks its last numbers. -/
theorem set_less {L : List Lne} (h : LOk L) {i : Nat} (hi : i < L.length) {k : Nat} (h0 : 0 < k) (hk : k < L[i].2.length) :
    LOk (L.set i (L[i].1, L[i].2.take k)) ∧ prefP (L.set i (L[i].1, L[i].2.take k)) L = true ∧ manyP L = manyP (L.set i (L[i].1, L[i].2.take k)) + (L[i].2.length - k) ∧ judgeP L (L.set i (L[i].1, L[i].2.take k)) = (1, L[i].1, k) := by
  have hl := (h.one _ (List.getElem_mem hi)).2
  refine ⟨ok_set h hi (fun e => ?_) (by simp; omega), pref_of h.ris (fun l hl => ?_), ?_, ?_⟩
  · have : (L[i].2.take k).length = 0 := by rw [e]; rfl
    rw [List.length_take] at this; omega
  · rcases List.mem_or_eq_of_mem_set hl with hl | rfl
    · exact ⟨l, hl, rfl, List.prefix_refl _⟩
    · exact ⟨L[i], List.getElem_mem hi, rfl, List.take_prefix _ _⟩
  · rw [set_parts hi, many_app, many_cons]
    conv => lhs; rw [parts_at hi, many_app, many_cons]
    simp only [List.length_take]
    omega
  · rw [judge_set hi _ (by rw [wrong_take _ _ hk]; simp), wrong_take _ _ hk]

/-- What the law's own closure makes: one line's numbers are others, or it is not there. -/
def turnP (L : List Lne) (i : Nat) (z : List Int) : List Lne := if z = [] then L.take i ++ L.drop (i + 1) else L.set i ((L[i]?.getD (ByteArray.empty, [])).1, z)
def turnJ (L : List Lne) (i : Nat) (z : List Int) (j : Nat) : List Lne :=
  if j ≤ i then L.take j else L.take i ++ (if z = [] then [] else [((L[i]?.getD (ByteArray.empty, [])).1, z)]) ++ (L.drop (i + 1)).take (j - (i + 1))
theorem turn_zero (L : List Lne) (i : Nat) (z : List Int) : turnJ L i z 0 = [] := by simp [turnJ]
theorem turn_other {L : List Lne} {i : Nat} (z : List Int) {j : Nat} (hj : j < L.length) (h : j ≠ i) : turnJ L i z (j + 1) = turnJ L i z j ++ [L[j]] := by
  unfold turnJ
  by_cases h1 : j < i
  · rw [if_pos (show j + 1 ≤ i by omega), if_pos (show j ≤ i by omega), List.take_succ_eq_append_getElem hj]
  · rw [if_neg (show ¬ j + 1 ≤ i by omega), if_neg (show ¬ j ≤ i by omega), show j + 1 - (i + 1) = (j - (i + 1)) + 1 from by omega, List.take_succ_eq_append_getElem (by simp; omega), ← List.append_assoc]
    congr 2
    have e : i + 1 + (j - (i + 1)) = j := by omega
    simp only [List.getElem_drop, e]
theorem turn_none {L : List Lne} {i : Nat} {j : Nat} (h : j = i) : turnJ L i [] (j + 1) = turnJ L i [] j := by
  unfold turnJ
  subst h
  rw [if_neg (show ¬ j + 1 ≤ j by omega), if_pos (Nat.le_refl j)]
  simp
theorem turn_one {L : List Lne} {i : Nat} {z : List Int} (hz : z ≠ []) {j : Nat} (hj : j < L.length) (h : j = i) : turnJ L i z (j + 1) = turnJ L i z j ++ [(L[j].1, z)] := by
  unfold turnJ
  subst h
  rw [if_neg (show ¬ j + 1 ≤ j by omega), if_pos (Nat.le_refl j), if_neg hz]
  simp [hj]
theorem turn_all {L : List Lne} {i : Nat} (hi : i < L.length) (z : List Int) : turnJ L i z L.length = turnP L i z := by
  unfold turnJ turnP
  rw [if_neg (show ¬ L.length ≤ i by omega)]
  have h0 : (L.drop (i + 1)).take (L.length - (i + 1)) = L.drop (i + 1) := List.take_of_length_le (by simp)
  rw [h0]
  by_cases hz : z = []
  · rw [if_pos hz, if_pos hz]; simp
  · rw [if_neg hz, if_neg hz, set_parts hi]; simp
theorem turn_len (L : List Lne) (i : Nat) (z : List Int) (j : Nat) : (turnJ L i z j).length ≤ j := by
  unfold turnJ
  split
  · simp; omega
  · split <;> simp <;> omega
/-- Each of the three ways. -/
theorem finds_long {L : List Lne} (h : LOk L) {i : Nat} (hi : i < L.length) (x : Int) (hx : L[i].2.length < 400) : LOk (turnP L i (L[i].2 ++ [x])) ∧ judgeP L (turnP L i (L[i].2 ++ [x])) = (2, L[i].1, L[i].2.length) := by
  have e : turnP L i (L[i].2 ++ [x]) = L.set i (L[i].1, L[i].2 ++ [x]) := by
    unfold turnP; rw [if_neg (by simp)]; simp [hi]
  rw [e]
  have hw := wrong_long L[i].2 x []
  exact ⟨ok_set h hi (by simp) (by simp; omega), by rw [judge_set hi _ (by rw [hw]; simp), hw]⟩
theorem finds_short {L : List Lne} (h : LOk L) {i : Nat} (hi : i < L.length) : LOk (turnP L i (L[i].2.take (L[i].2.length - 1))) ∧ judgeP L (turnP L i (L[i].2.take (L[i].2.length - 1))) = (1, L[i].1, L[i].2.length - 1) := by
  obtain ⟨h1, h2⟩ := h.one _ (List.getElem_mem hi)
  have hp := List.length_pos_iff.2 h1
  by_cases h3 : L[i].2.length = 1
  · have e : turnP L i (L[i].2.take (L[i].2.length - 1)) = L.take i ++ L.drop (i + 1) := by
      unfold turnP; rw [if_pos (by rw [h3]; simp)]
    rw [e, h3]
    exact ⟨ok_erase h hi, judge_erase h hi⟩
  · have hne : L[i].2.take (L[i].2.length - 1) ≠ [] := fun e => by
      have : (L[i].2.take (L[i].2.length - 1)).length = 0 := by rw [e]; rfl
      simp at this; omega
    have e : turnP L i (L[i].2.take (L[i].2.length - 1)) = L.set i (L[i].1, L[i].2.take (L[i].2.length - 1)) := by
      unfold turnP; rw [if_neg hne]; simp [hi]
    rw [e]
    have hw := wrong_take L[i].2 (L[i].2.length - 1) (by omega)
    exact ⟨ok_set h hi hne (by simp; omega), by rw [judge_set hi _ (by rw [hw]; simp), hw]⟩
theorem swap_parts {w : List Int} {j : Nat} (hj : j + 1 < w.length) : w = w.take j ++ w[j] :: w[j + 1] :: w.drop (j + 2) ∧ (w.set j w[j + 1]).set (j + 1) w[j] = w.take j ++ w[j + 1] :: w[j] :: w.drop (j + 2) := by
  refine ⟨by simp, ?_⟩
  apply List.ext_getElem
  · simp; omega
  · intro n h1 h2
    simp only [List.getElem_set]
    rw [List.getElem_append]
    simp only [List.length_take]
    have hm : min j w.length = j := by omega
    by_cases c1 : j + 1 = n
    · subst c1
      rw [if_pos rfl, dif_neg (by omega)]
      simp [hm]
    · rw [if_neg c1]
      by_cases c2 : j = n
      · subst c2
        rw [if_pos rfl, dif_neg (by omega)]
        simp [hm]
      · rw [if_neg c2]
        by_cases c3 : n < j
        · rw [dif_pos (by omega)]; simp
        · rw [dif_neg (by omega)]
          obtain ⟨q, rfl⟩ : ∃ q, n = j + 2 + q := ⟨n - (j + 2), by omega⟩
          have e : j + 2 + q - min j w.length = q + 2 := by omega
          simp only [e, List.getElem_cons_succ, List.getElem_drop]
theorem finds_swap {L : List Lne} (h : LOk L) {i : Nat} (hi : i < L.length) {j : Nat} (hj : j + 1 < L[i].2.length) (hne : L[i].2[j] ≠ L[i].2[j + 1]) :
    LOk (turnP L i ((L[i].2.set j L[i].2[j + 1]).set (j + 1) L[i].2[j])) ∧ judgeP L (turnP L i ((L[i].2.set j L[i].2[j + 1]).set (j + 1) L[i].2[j])) = (4, L[i].1, j) := by
  obtain ⟨h1, h2⟩ := h.one _ (List.getElem_mem hi)
  have hz : (L[i].2.set j L[i].2[j + 1]).set (j + 1) L[i].2[j] ≠ [] := fun e => by
    have : ((L[i].2.set j L[i].2[j + 1]).set (j + 1) L[i].2[j]).length = 0 := by rw [e]; rfl
    rw [List.length_set, List.length_set] at this; omega
  have e : turnP L i ((L[i].2.set j L[i].2[j + 1]).set (j + 1) L[i].2[j]) = L.set i (L[i].1, (L[i].2.set j L[i].2[j + 1]).set (j + 1) L[i].2[j]) := by
    unfold turnP; rw [if_neg hz]; simp [hi]
  rw [e]
  have hw : wrongP L[i].2 ((L[i].2.set j L[i].2[j + 1]).set (j + 1) L[i].2[j]) = (4, j) := by
    obtain ⟨p1, p2⟩ := swap_parts hj
    have := wrong_swap (L[i].2.take j) L[i].2[j] L[i].2[j + 1] (L[i].2.drop (j + 2)) hne
    rw [← p1, ← p2] at this
    rw [this]
    simp; omega
  exact ⟨ok_set h hi hz (by simp; omega), by rw [judge_set hi _ (by rw [hw]; simp), hw]⟩

/-- Lines cut in two. -/
theorem cut_mem {f : List Int → List Int} {L : List Lne} {l : Lne} (h : l ∈ (L.map fun l => (l.1, f l.2)).filter fun l => !l.2.isEmpty) : ∃ x ∈ L, l = (x.1, f x.2) ∧ l.2 ≠ [] := by
  rw [List.mem_filter, List.mem_map] at h
  obtain ⟨⟨x, hx, rfl⟩, h2⟩ := h
  exact ⟨x, hx, rfl, by simpa using h2⟩
theorem cut_ris (f : List Int → List Int) {L : List Lne} (h : Ris L) : Ris ((L.map fun l => (l.1, f l.2)).filter fun l => !l.2.isEmpty) := by
  unfold Ris at h ⊢
  refine List.Pairwise.filter _ ?_
  rw [List.pairwise_map]
  exact h
theorem cut_len (f : List Int → List Int) (L : List Lne) : ((L.map fun l => (l.1, f l.2)).filter fun l => !l.2.isEmpty).length ≤ L.length := by
  have := List.length_filter_le (fun l : Lne => !l.2.isEmpty) (L.map fun l => (l.1, f l.2))
  simpa using this
theorem ok_cutA {L : List Lne} (h : LOk L) (k : Nat) : LOk (cutA k L) := by
  refine ⟨Nat.le_trans (cut_len (·.take k) L) h.len, cut_ris (·.take k) h.ris, fun l hl => ?_⟩
  obtain ⟨x, hx, rfl, h2⟩ := cut_mem (f := (·.take k)) hl
  have := (h.one x hx).2
  exact ⟨h2, by simp; omega⟩
theorem ok_cutB {L : List Lne} (h : LOk L) (k : Nat) : LOk (cutB k L) := by
  refine ⟨Nat.le_trans (cut_len (·.drop k) L) h.len, cut_ris (·.drop k) h.ris, fun l hl => ?_⟩
  obtain ⟨x, hx, rfl, h2⟩ := cut_mem (f := (·.drop k)) hl
  have := (h.one x hx).2
  exact ⟨h2, by simp; omega⟩
theorem cut_pref {L : List Lne} (h : LOk L) (k : Nat) : prefP (cutA k L) L = true := by
  refine pref_of h.ris (fun l hl => ?_)
  obtain ⟨x, hx, rfl, h2⟩ := cut_mem (f := (·.take k)) hl
  exact ⟨x, hx, rfl, List.take_prefix _ _⟩
theorem cut_merge {L : List Lne} (h : LOk L) (k : Nat) : mergeP (cutA k L) (cutB k L) = L := by
  rcases Nat.eq_zero_or_pos k with rfl | hk
  · exact merge_cut0 (fun l hl => (h.one l hl).1)
  · exact merge_cut k hk L h.ris (fun l hl => (h.one l hl).1)
/-- How many are left. -/
def leftP (k : Nat) (L : List Lne) : Nat := (L.map fun l => l.2.length - min k l.2.length).sum
theorem left_take {k : Nat} {L : List Lne} {j : Nat} (hj : j < L.length) : leftP k (L.take (j + 1)) = leftP k (L.take j) + (L[j].2.length - min k L[j].2.length) := by
  unfold leftP
  rw [List.take_succ_eq_append_getElem hj, List.map_append, List.sum_append]; simp
theorem left_le (k : Nat) : ∀ (L : List Lne), leftP k L ≤ manyP L
  | [] => by simp [leftP, manyP]
  | l :: L => by
    have := left_le k L
    simp only [leftP, manyP, List.map_cons, List.sum_cons] at this ⊢
    omega
theorem left_many (k : Nat) : ∀ (L : List Lne), manyP L = manyP (cutA k L) + leftP k L
  | [] => by simp [leftP, manyP, cutA]
  | l :: L => by
    have ih := left_many k L
    rw [many_cut] at ih ⊢
    simp only [leftP, manyP, List.map_cons, List.sum_cons] at ih ⊢
    omega
theorem left_pos (k : Nat) : ∀ (L : List Lne), 0 < leftP k L ↔ ∃ l ∈ L, k < l.2.length
  | [] => by simp [leftP]
  | l :: L => by
    have ih := left_pos k L
    have e : leftP k (l :: L) = (l.2.length - min k l.2.length) + leftP k L := by simp [leftP]
    rw [e]
    constructor
    · intro h
      by_cases h1 : k < l.2.length
      · exact ⟨l, by simp, h1⟩
      · obtain ⟨x, hx, h2⟩ := ih.1 (by omega)
        exact ⟨x, by simp [hx], h2⟩
    · rintro ⟨x, hx, h2⟩
      rcases List.mem_cons.1 hx with rfl | hx
      · omega
      · have := ih.2 ⟨x, hx, h2⟩
        omega
theorem cut_judge {L : List Lne} (h : LOk L) (k : Nat) : (judgeP L (cutA k L)).1 = if 0 < leftP k L then 1 else 0 := by
  have e : (judgeP L (cutA k L)).1 = if ∃ l ∈ L, k < l.2.length then 1 else 0 := by
    rcases Nat.eq_zero_or_pos k with rfl | hk
    · exact judge_cut0 (fun l hl => (h.one l hl).1)
    · exact judge_cut k hk L (fun l hl => (h.one l hl).1)
  rw [e]
  by_cases c : 0 < leftP k L
  · rw [if_pos c, if_pos ((left_pos k L).1 c)]
  · rw [if_neg c, if_neg (fun h => c ((left_pos k L).2 h))]
theorem cutA_take {k : Nat} {L : List Lne} {j : Nat} (hj : j < L.length) : cutA k (L.take (j + 1)) = cutA k (L.take j) ++ if L[j].2.take k = [] then [] else [(L[j].1, L[j].2.take k)] := by
  unfold cutA
  rw [List.take_succ_eq_append_getElem hj, List.map_append, List.filter_append]
  congr 1
  by_cases h : L[j].2.take k = []
  · rw [if_pos h]; simp [h]
  · rw [if_neg h]; simp [h]
theorem cutB_take {k : Nat} {L : List Lne} {j : Nat} (hj : j < L.length) : cutB k (L.take (j + 1)) = cutB k (L.take j) ++ if L[j].2.drop k = [] then [] else [(L[j].1, L[j].2.drop k)] := by
  unfold cutB
  rw [List.take_succ_eq_append_getElem hj, List.map_append, List.filter_append]
  congr 1
  by_cases h : L[j].2.drop k = []
  · rw [if_pos h]; simp [h]
  · rw [if_neg h]; simp [h]
end Go.Proofs.YthcgjbpiiodlgaaDoor
