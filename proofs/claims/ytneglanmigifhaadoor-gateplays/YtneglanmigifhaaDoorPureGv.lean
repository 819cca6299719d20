/- Gates that are filled, and emptied, plain. -/
import Derived.Test.YtneglanmigifhaaDoorPureGu
namespace Go.Proofs.YtneglanmigifhaaDoor
variable {α : Type}
theorem lnB_snoc (f : Nat → α) (m : Nat) : lnB f 0 m 0 ++ [.one (f m)] = lnB f 0 (m + 1) 0 := by
  simp only [lnB_many, Nat.sub_zero]
  rw [show List.range' 0 (m + 1) = List.range' 0 m ++ [m] by rw [List.range'_concat]; simp]
  rw [List.map_append]; rfl
theorem lnB_len (f : Nat → α) (a b s : Nat) : (lnB f a b s).length = a + b - s := by simp [lnB]
theorem lnA_len (f : Nat → α) (c : Int) (a b : Nat) : (lnA f c a b 0).length = a + b + 1 := by simp [lnA]; omega
theorem lnA_bar (f : Nat → α) (c : Int) (a : Nat) : lnB f 0 a 0 ++ [.bar c] = lnA f c a 0 0 := by
  simp [lnB, lnA]
theorem lnA_snoc (f : Nat → α) (c : Int) (a b : Nat) : lnA f c a b 0 ++ [.one (f (a + b))] = lnA f c a (b + 1) 0 := by
  unfold lnA
  rw [show List.range' a (b + 1) = List.range' a b ++ [a + b] by rw [List.range'_concat]; simp]
  simp
theorem putG_at {g : Gt α} {i : Nat} (hi : i < g.ws.length) (x : It α) (j : Nat) : (putG g i x).ws.getD j [] = if j = i then g.ws.getD i [] ++ [x] else g.ws.getD j [] := by
  unfold putG; exact getD_set _ _ _ _ _ hi
theorem putG_len (g : Gt α) (i : Nat) (x : It α) : (putG g i x).ws.length = g.ws.length := by simp [putG]
/-- m j records wait at input j. -/
def Fil (g : Gt α) (f : Nat → α) (n : Nat) (m : Nat → Nat) : Prop := g.ws.length = n ∧ g.nx = 0 ∧ ∀ j, j < n → g.ws.getD j [] = lnB f 0 (m j) 0
theorem Fil.push {g : Gt α} {f : Nat → α} {n : Nat} {m : Nat → Nat} (h : Fil g f n m) {i : Nat} (hi : i < n) : Fil (putG g i (.one (f (m i)))) f n (upN m i) := by
  obtain ⟨h1, h2, h3⟩ := h
  refine ⟨by rw [putG_len]; exact h1, h2, fun j hj => ?_⟩
  rw [putG_at (by omega)]
  unfold upN
  by_cases e : j = i
  · rw [if_pos e, if_pos e, h3 i hi, lnB_snoc]
  · rw [if_neg e, if_neg e]; exact h3 j hj
theorem Fil.stB {g : Gt α} {f : Nat → α} {n : Nat} {m : Nat → Nat} (h : Fil g f n m) (h0 : 0 < n) : StB g f n (fun _ => 0) m (fun _ => 0) := by
  obtain ⟨h1, h2, h3⟩ := h
  exact ⟨h1, by omega, fun i hi => ⟨h3 i hi, by omega⟩⟩
theorem Fil.ext {g : Gt α} {f : Nat → α} {n : Nat} {m m' : Nat → Nat} (h : Fil g f n m) (e : ∀ j, j < n → m j = m' j) : Fil g f n m' := ⟨h.1, h.2.1, fun j hj => by rw [← e j hj]; exact h.2.2 j hj⟩
theorem StB.ext {g : Gt α} {f : Nat → α} {n : Nat} {a b s s' : Nat → Nat} (h : StB g f n a b s) (e : ∀ j, j < n → s j = s' j) : StB g f n a b s' := ⟨h.1, h.2.1, fun j hj => by rw [← e j hj]; exact h.2.2 j hj⟩
/-- Nothing waits. -/
theorem stB_empty {g : Gt α} {f : Nat → α} {n : Nat} {a b s : Nat → Nat} (h : StB g f n a b s) (hs : ∀ i, i < n → s i = a i + b i) : takeG g = none ∧ manyG g = 0 := by
  obtain ⟨h1, h2, h3⟩ := h
  have he : ∀ i, i < n → g.ws.getD i [] = [] := fun i hi => by rw [(h3 i hi).1, lnB_end f (by rw [hs i hi]; omega)]
  refine ⟨takeG_no (t := g.nx) (by rw [Nat.mod_eq_of_lt (by omega)]) (fun j hj => by rw [he _ (by rw [h1]; exact Nat.mod_lt _ (by omega))]; rfl), ?_⟩
  rw [← manyK_end g (Nat.le_refl _)]
  have : ∀ k, k ≤ n → manyK g.ws k = 0 := by
    intro k
    induction k with
    | zero => intro _; simp [manyK]
    | succ k ih => intro hk; rw [manyK_next _ (by omega), ih (by omega), he k (by omega)]; rfl
  exact this _ (by omega)
/-- Records, a barrier, more of them, at the inputs ahead of i. -/
def Ali (g : Gt α) (f : Nat → α) (c : Int) (n i : Nat) (a b : Nat → Nat) : Prop := g.ws.length = n ∧ g.last.length = n ∧ g.nx = 0 ∧ (∀ j, j < i → g.ws.getD j [] = lnA f c (a j) (b j) 0) ∧ ∀ j, i ≤ j → j < n → g.ws.getD j [] = [] ∧ g.last.getD j 0 = 0
/-- k records came to input i. -/
def AliK (g : Gt α) (f : Nat → α) (c : Int) (n i k : Nat) (a b : Nat → Nat) : Prop := g.ws.length = n ∧ g.last.length = n ∧ g.nx = 0 ∧ (∀ j, j < i → g.ws.getD j [] = lnA f c (a j) (b j) 0) ∧ (∀ j, i < j → j < n → g.ws.getD j [] = [] ∧ g.last.getD j 0 = 0) ∧
  (k ≤ a i ∧ g.ws.getD i [] = lnB f 0 k 0 ∧ g.last.getD i 0 = 0 ∨ a i < k ∧ g.ws.getD i [] = lnA f c (a i) (k - a i) 0)
theorem Ali.start {g : Gt α} {f : Nat → α} {c : Int} {n i : Nat} {a b : Nat → Nat} (h : Ali g f c n i a b) (hi : i < n) : AliK g f c n i 0 a b := by
  obtain ⟨h1, h2, h3, h4, h5⟩ := h
  refine ⟨h1, h2, h3, h4, fun j hj hn => h5 j (by omega) hn, .inl ⟨Nat.zero_le _, ?_, (h5 i (Nat.le_refl _) hi).2⟩⟩
  rw [(h5 i (Nat.le_refl _) hi).1]; simp [lnB]
theorem AliK.push {g : Gt α} {f : Nat → α} {c : Int} {n i k : Nat} {a b : Nat → Nat} (h : AliK g f c n i k a b) (hi : i < n) (hk : k ≠ a i) : AliK (putG g i (.one (f k))) f c n i (k + 1) a b := by
  obtain ⟨h1, h2, h3, h4, h5, h6⟩ := h
  refine ⟨by rw [putG_len]; exact h1, h2, h3, fun j hj => by rw [putG_at (by omega), if_neg (by omega)]; exact h4 j hj, fun j hj hn => by rw [putG_at (by omega), if_neg (by omega)]; exact h5 j hj hn, ?_⟩
  rw [putG_at (by omega), if_pos rfl]
  rcases h6 with ⟨q1, q2, q3⟩ | ⟨q1, q2⟩
  · exact .inl ⟨by omega, by rw [q2, lnB_snoc], q3⟩
  · refine .inr ⟨by omega, ?_⟩
    have := lnA_snoc f c (a i) (k - a i)
    rw [show a i + (k - a i) = k by omega, show k - a i + 1 = k + 1 - a i by omega] at this
    rw [q2, this]
/-- The barrier came. -/
theorem AliK.bar {g : Gt α} {f : Nat → α} {c : Int} {n i : Nat} {a b : Nat → Nat} (h : AliK g f c n i (a i) a b) (hi : i < n) : (g.ws.getD i [] = lnB f 0 (a i) 0 ∧ g.last.getD i 0 = 0) ∧ AliK (putG (lastG (putG g i (.bar c)) i c) i (.one (f (a i)))) f c n i (a i + 1) a b ∧ (b i = 0 → Ali (lastG (putG g i (.bar c)) i c) f c n (i + 1) a b) := by
  obtain ⟨h1, h2, h3, h4, h5, h6⟩ := h
  have h6 : g.ws.getD i [] = lnB f 0 (a i) 0 ∧ g.last.getD i 0 = 0 := by rcases h6 with ⟨q1, q2, q3⟩ | ⟨q1, q2⟩; exact ⟨q2, q3⟩; omega
  have hl : (lastG (putG g i (.bar c)) i c).ws = (putG g i (.bar c)).ws := rfl
  have hll : ∀ j, (lastG (putG g i (.bar c)) i c).last.getD j 0 = if j = i then c else g.last.getD j 0 := fun j => by
    unfold lastG putG; exact getD_set _ _ _ _ _ (by simp only; omega)
  have hlen : (lastG (putG g i (.bar c)) i c).last.length = n := by simp [lastG, putG, h2]
  have hlw : (lastG (putG g i (.bar c)) i c).ws.length = n := by rw [hl, putG_len]; exact h1
  refine ⟨h6, ⟨by rw [putG_len]; exact hlw, hlen, h3, fun j hj => by rw [putG_at (by omega), if_neg (by omega), hl, putG_at (by omega), if_neg (by omega)]; exact h4 j hj, fun j hj hn => ⟨by rw [putG_at (by omega), if_neg (by omega), hl, putG_at (by omega), if_neg (by omega)]; exact (h5 j hj hn).1, by
    show (lastG (putG g i (.bar c)) i c).last.getD j 0 = 0
    rw [hll, if_neg (by omega)]; exact (h5 j hj hn).2⟩, .inr ⟨by omega, ?_⟩⟩, fun hb => ⟨hlw, hlen, h3, fun j hj => ?_, fun j hj hn => ⟨by rw [hl, putG_at (by omega), if_neg (by omega)]; exact (h5 j (by omega) hn).1, by rw [hll, if_neg (by omega)]; exact (h5 j (by omega) hn).2⟩⟩⟩
  · rw [putG_at (by omega), if_pos rfl, hl, putG_at (by omega), if_pos rfl, h6.1, lnA_bar, show a i + 1 - a i = 0 + 1 by omega, ← lnA_snoc]; rfl
  · rw [hl, putG_at (by omega)]
    by_cases e : j = i
    · rw [if_pos e, h6.1, lnA_bar, e, hb]
    · rw [if_neg e]; exact h4 j (by omega)
theorem AliK.done {g : Gt α} {f : Nat → α} {c : Int} {n i k : Nat} {a b : Nat → Nat} (h : AliK g f c n i k a b) (hk : k = a i + b i) (hb : b i ≠ 0) : Ali g f c n (i + 1) a b := by
  obtain ⟨h1, h2, h3, h4, h5, h6⟩ := h
  refine ⟨h1, h2, h3, fun j hj => ?_, fun j hj hn => h5 j (by omega) hn⟩
  by_cases e : j = i
  · subst e
    rcases h6 with ⟨q1, q2, q3⟩ | ⟨q1, q2⟩
    · omega
    · rw [q2, hk, Nat.add_sub_cancel_left]
  · exact h4 j (by omega)
theorem AliK.len {g : Gt α} {f : Nat → α} {c : Int} {n i k : Nat} {a b : Nat → Nat} (h : AliK g f c n i k a b) : (g.ws.getD i []).length ≤ k + 1 := by
  obtain ⟨h1, h2, h3, h4, h5, h6⟩ := h
  rcases h6 with ⟨q1, q2, q3⟩ | ⟨q1, q2⟩
  · rw [q2, lnB_len]; omega
  · rw [q2, lnA_len]; omega
theorem Ali.stA {g : Gt α} {f : Nat → α} {c : Int} {n : Nat} {a b : Nat → Nat} (h : Ali g f c n n a b) (h0 : 0 < n) : StA g f c n a b (fun _ => 0) := by
  obtain ⟨h1, h2, h3, h4, h5⟩ := h
  exact ⟨h1, by omega, fun i hi => ⟨h4 i hi, Nat.zero_le _⟩⟩
end Go.Proofs.YtneglanmigifhaaDoor
