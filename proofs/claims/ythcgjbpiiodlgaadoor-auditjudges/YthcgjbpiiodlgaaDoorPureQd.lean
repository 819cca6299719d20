/- What the program does with numbers, plain. -/
import Derived.Test.YthcgjbpiiodlgaaDoorPureQb
namespace Go.Proofs.YthcgjbpiiodlgaaDoor
open Mp
set_option linter.unusedVariables false

theorem lcp_of : ∀ (w g : List Int) (j : Nat), j ≤ w.length → j ≤ g.length → w.take j = g.take j → (j = w.length ∨ j = g.length ∨ w[j]? ≠ g[j]?) → lcpP w g = j
  | [], g, j, h1, h2, h3, h4 => by simp at h1; subst h1; unfold lcpP; rfl
  | x :: w, [], j, h1, h2, h3, h4 => by simp at h2; subst h2; rfl
  | x :: w, y :: g, 0, h1, h2, h3, h4 => by
    have : x ≠ y := by
      rcases h4 with h | h | h
      · simp at h
      · simp at h
      · intro e; apply h; simp [e]
    simp [lcpP, this]
  | x :: w, y :: g, j + 1, h1, h2, h3, h4 => by
    simp only [List.take_succ_cons, List.cons.injEq] at h3
    obtain ⟨rfl, h3⟩ := h3
    have := lcp_of w g j (by simpa using h1) (by simpa using h2) h3 (by simpa using h4)
    simp [lcpP, this]
theorem count_snoc (l : List Int) (k : Nat) (h : k < l.length) (x : Int) : (l.take (k + 1)).count x = (l.take k).count x + if l[k] = x then 1 else 0 := by
  rw [List.take_succ_eq_append_getElem h, List.count_append, List.count_singleton]
  simp
theorem count_take_le (l : List Int) (k : Nat) (x : Int) : (l.take k).count x ≤ l.count x := (List.take_sublist k l).count_le x
def bagN (l : List Int) (k : Nat) : Int → Int := fun x => ((l.take k).count x : Int)
def bagT (w g : List Int) (k : Nat) : Int → Int := fun x => (w.count x : Int) - ((g.take k).count x : Int)
theorem cross_yes {w g : List Int} (h : ∀ x, (g.take g.length).count x ≤ w.count x) : crossP w g = true := by
  unfold crossP
  rw [List.all_eq_true]
  intro x _
  have := h x
  rw [List.take_length] at this
  simpa using this
theorem cross_no {w g : List Int} {k : Nat} (hk : k < g.length) (h : w.count g[k] < (g.take (k + 1)).count g[k]) : crossP w g = false := by
  unfold crossP
  rw [List.all_eq_false]
  refine ⟨g[k], List.getElem_mem hk, ?_⟩
  have := count_take_le g (k + 1) g[k]
  simp; omega
/-- What the program says of one key's numbers. -/
def jdgP (w g : List Int) : Nat × Nat := if w = [] then (3, 0) else wrongP w g
/-- A key's numbers: none where it is none. -/
def getD (L : List Lne) (k : ByteArray) : List Int := (Mp.get L k).getD []
/-- The first key of which something is wrong. -/
def judgeK (W G : List Lne) : List ByteArray → Nat × ByteArray × Nat
  | [] => (0, ByteArray.empty, 0)
  | k :: K => if (jdgP (getD W k) (getD G k)).1 = 0 then judgeK W G K else ((jdgP (getD W k) (getD G k)).1, k, (jdgP (getD W k) (getD G k)).2)
theorem judgeK_congr {W G W2 G2 : List Lne} : ∀ {K : List ByteArray}, (∀ k ∈ K, getD W k = getD W2 k ∧ getD G k = getD G2 k) → judgeK W G K = judgeK W2 G2 K
  | [], _ => rfl
  | k :: K, h => by
    obtain ⟨h1, h2⟩ := h k (by simp)
    rw [judgeK, judgeK, h1, h2, judgeK_congr (fun x hx => h x (by simp [hx]))]
def keysOf (L : List Lne) : List ByteArray := L.map (·.1)
theorem getD_head (l : Lne) (L : List Lne) : getD (l :: L) l.1 = l.2 := by simp [getD, Mp.get]
theorem getD_tail {l : Lne} {L : List Lne} {k : ByteArray} (h : kb l.1 < kb k) : getD (l :: L) k = getD L k := by
  have : l.1 ≠ k := fun e => kb_irr k (by rw [e] at h; exact h)
  simp [getD, Mp.get, this]
theorem getD_less {L : List Lne} {k : ByteArray} (h : ∀ l ∈ L, kb k < kb l.1) : getD L k = [] := by
  have : Mp.get L k = none := get_none.2 fun q hq e => kb_irr k (by have := h q hq; rw [e] at this; exact this)
  simp [getD, this]
theorem mem_mergeP : ∀ (a b : List Lne) (q : Lne), q ∈ mergeP a b → (∃ l ∈ a, l.1 = q.1) ∨ ∃ l ∈ b, l.1 = q.1
  | [], b, q, h => by rw [nil_merge] at h; exact .inr ⟨q, h, rfl⟩
  | x :: A, [], q, h => by rw [merge_nil] at h; exact .inl ⟨q, h, rfl⟩
  | x :: A, y :: B, q, h => by
    rw [mergeP] at h
    split at h
    · rcases List.mem_cons.1 h with rfl | h
      · exact .inl ⟨q, by simp, rfl⟩
      · rcases mem_mergeP A (y :: B) q h with ⟨l, hl, e⟩ | h
        · exact .inl ⟨l, by simp [hl], e⟩
        · exact .inr h
    · split at h
      · rcases List.mem_cons.1 h with rfl | h
        · exact .inl ⟨x, by simp, rfl⟩
        · rcases mem_mergeP A B q h with ⟨l, hl, e⟩ | ⟨l, hl, e⟩
          · exact .inl ⟨l, by simp [hl], e⟩
          · exact .inr ⟨l, by simp [hl], e⟩
      · rcases List.mem_cons.1 h with rfl | h
        · exact .inr ⟨q, by simp, rfl⟩
        · rcases mem_mergeP (x :: A) B q h with h | ⟨l, hl, e⟩
          · exact .inl h
          · exact .inr ⟨l, by simp [hl], e⟩
termination_by a b => a.length + b.length
theorem keys_gt {a b : List Lne} {c : ByteArray} (h1 : ∀ l ∈ a, kb c < kb l.1) (h2 : ∀ l ∈ b, kb c < kb l.1) : ∀ k ∈ keysOf (mergeP a b), kb c < kb k := by
  intro k hk
  obtain ⟨q, hq, rfl⟩ := List.mem_map.1 hk
  rcases mem_mergeP _ _ _ hq with ⟨l, hl, e⟩ | ⟨l, hl, e⟩
  · rw [← e]; exact h1 l hl
  · rw [← e]; exact h2 l hl
/-- The program's Judge is the document's, of lines that rise. -/
theorem judgeK_is : ∀ (W G : List Lne), Ris W → Ris G → (∀ l ∈ W, l.2 ≠ []) → judgeK W G (keysOf (mergeP W G)) = judgeP W G
  | [], [], _, _, _ => by simp [mergeP, keysOf, judgeK, judgeP]
  | [], g :: G, _, _, _ => by
    rw [nil_merge, keysOf, List.map_cons, judgeK, judgeP]
    simp [getD, Mp.get, jdgP]
  | w :: W, [], hW, _, h0 => by
    obtain ⟨p1, p2⟩ := List.pairwise_cons.1 hW
    have ih := judgeK_is W [] p2 List.Pairwise.nil (fun l hl => h0 l (by simp [hl]))
    rw [merge_nil] at ih ⊢
    have e1 : jdgP w.2 [] = wrongP w.2 [] := by unfold jdgP; rw [if_neg (h0 w (by simp))]
    rw [keysOf, List.map_cons, judgeK, getD_head, show getD ([] : List Lne) w.1 = [] from rfl, judgeP, e1]
    split
    · rw [← ih]
      refine judgeK_congr fun k hk => ⟨getD_tail ?_, rfl⟩
      obtain ⟨q, hq, rfl⟩ := List.mem_map.1 hk
      exact p1 q hq
    · rfl
  | w :: W, g :: G, hW, hG, h0 => by
    obtain ⟨p1, p2⟩ := List.pairwise_cons.1 hW
    obtain ⟨q1, q2⟩ := List.pairwise_cons.1 hG
    have hw0 := h0 w (by simp)
    rw [mergeP, judgeP]
    by_cases h1 : kb w.1 < kb g.1
    · have n1 : ¬ kb g.1 < kb w.1 := fun h => kb_irr _ (kb_trans h h1)
      have n2 : ¬ g.1 = w.1 := fun e => kb_irr w.1 (by rw [e] at h1; exact h1)
      have hg : ∀ l ∈ g :: G, kb w.1 < kb l.1 := by
        intro l hl
        rcases List.mem_cons.1 hl with rfl | hl
        · exact h1
        · exact kb_trans h1 (q1 l hl)
      have e1 : jdgP w.2 [] = wrongP w.2 [] := by unfold jdgP; rw [if_neg hw0]
      have ih := judgeK_is W (g :: G) p2 hG (fun l hl => h0 l (by simp [hl]))
      rw [if_pos h1, if_neg n1, if_neg n2, keysOf, List.map_cons, judgeK, getD_head, getD_less hg, e1]
      split
      · rw [← ih]
        exact judgeK_congr fun k hk => ⟨getD_tail (keys_gt p1 hg k hk), rfl⟩
      · rfl
    · by_cases h2 : w.1 = g.1
      · have n1 : ¬ kb g.1 < kb w.1 := by rw [h2]; exact kb_irr _
        have hg : ∀ l ∈ G, kb w.1 < kb l.1 := by rw [h2]; exact q1
        have e1 : jdgP w.2 g.2 = wrongP w.2 g.2 := by unfold jdgP; rw [if_neg hw0]
        have ih := judgeK_is W G p2 q2 (fun l hl => h0 l (by simp [hl]))
        have e2 : getD (g :: G) w.1 = g.2 := by rw [h2]; exact getD_head g G
        rw [if_neg h1, if_pos h2, if_neg n1, if_pos h2.symm, keysOf, List.map_cons, judgeK, getD_head, e2, e1]
        split
        · rw [← ih]
          exact judgeK_congr fun k hk => ⟨getD_tail (keys_gt p1 hg k hk), getD_tail (by rw [← h2]; exact keys_gt p1 hg k hk)⟩
        · rfl
      · have h3 : kb g.1 < kb w.1 := by
          rcases kb_tri w.1 g.1 with h | h | h
          · exact absurd h h1
          · exact absurd h h2
          · exact h
        have hw : ∀ l ∈ w :: W, kb g.1 < kb l.1 := by
          intro l hl
          rcases List.mem_cons.1 hl with rfl | hl
          · exact h3
          · exact kb_trans h3 (p1 l hl)
        rw [if_neg h1, if_neg h2, if_pos h3, keysOf, List.map_cons, judgeK, getD_less hw]
        simp [jdgP]
termination_by W G => W.length + G.length
end Go.Proofs.YthcgjbpiiodlgaaDoor
