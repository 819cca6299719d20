/- Plain facts on where groups begin, and who has them: no program in sight. -/
namespace Go.Proofs.Ytiofpimchbhfcaa

/-- The first group of worker i of p: i times 16, by p, rounded up. -/
def bgn (p i : Int) : Int := (i * 16 + p - 1) / p
/-- Who has group g among p. -/
def who (p g : Int) : Int := g * p / 16

theorem sixteen {p : Int} (h1 : 1 ≤ p) (h2 : p ≤ 16) : p = 1 ∨ p = 2 ∨ p = 3 ∨ p = 4 ∨ p = 5 ∨ p = 6 ∨ p = 7 ∨ p = 8 ∨ p = 9 ∨ p = 10 ∨ p = 11 ∨ p = 12 ∨ p = 13 ∨ p = 14 ∨ p = 15 ∨ p = 16 := by omega

theorem mul_lo (g p : Int) (h1 : 0 ≤ g) (h2 : 0 ≤ p) : 0 ≤ g * p := Int.mul_nonneg h1 h2
theorem mul_hi (g p : Int) (h2 : g ≤ 16) (h3 : 0 ≤ p) (h4 : p ≤ 16) : g * p ≤ 256 := by
  have := Int.mul_le_mul h2 h4 h3 (by omega : (0 : Int) ≤ 16)
  omega

theorem bgn_zero {p : Int} (h1 : 1 ≤ p) (h2 : p ≤ 16) : bgn p 0 = 0 := by
  unfold bgn; rcases sixteen h1 h2 with rfl | rfl | rfl | rfl | rfl | rfl | rfl | rfl | rfl | rfl | rfl | rfl | rfl | rfl | rfl | rfl <;> rfl
theorem bgn_end {p : Int} (h1 : 1 ≤ p) (h2 : p ≤ 16) : bgn p p = 16 := by
  unfold bgn; rcases sixteen h1 h2 with rfl | rfl | rfl | rfl | rfl | rfl | rfl | rfl | rfl | rfl | rfl | rfl | rfl | rfl | rfl | rfl <;> rfl
theorem bgn_step {p i : Int} (h1 : 1 ≤ p) (h2 : p ≤ 16) (h3 : 0 ≤ i) (h4 : i < p) :
    0 ≤ bgn p i ∧ bgn p (i + 1) ≤ 16 ∧ bgn p i < bgn p (i + 1) ∧ 16 / p ≤ bgn p (i + 1) - bgn p i ∧ bgn p (i + 1) - bgn p i ≤ 16 / p + 1 := by
  unfold bgn; rcases sixteen h1 h2 with rfl | rfl | rfl | rfl | rfl | rfl | rfl | rfl | rfl | rfl | rfl | rfl | rfl | rfl | rfl | rfl <;> omega
theorem who_of {p i g : Int} (h1 : 1 ≤ p) (h2 : p ≤ 16) (h3 : 0 ≤ i) (h4 : i < p) (h5 : bgn p i ≤ g) (h6 : g < bgn p (i + 1)) : who p g = i := by
  revert h5 h6; unfold bgn who; rcases sixteen h1 h2 with rfl | rfl | rfl | rfl | rfl | rfl | rfl | rfl | rfl | rfl | rfl | rfl | rfl | rfl | rfl | rfl <;> omega
theorem part_bd {p : Int} (h1 : 1 ≤ p) (h2 : p ≤ 16) : 1 ≤ 16 / p ∧ 16 / p ≤ 16 := by
  rcases sixteen h1 h2 with rfl | rfl | rfl | rfl | rfl | rfl | rfl | rfl | rfl | rfl | rfl | rfl | rfl | rfl | rfl | rfl <;> omega
theorem who_bd {p g : Int} (h1 : 1 ≤ p) (h2 : p ≤ 16) (h3 : 0 ≤ g) (h4 : g < 16) : 0 ≤ who p g ∧ who p g < p := by
  unfold who; rcases sixteen h1 h2 with rfl | rfl | rfl | rfl | rfl | rfl | rfl | rfl | rfl | rfl | rfl | rfl | rfl | rfl | rfl | rfl <;> omega
theorem who_nest {p g : Int} (h1 : 1 ≤ p) (h2 : p ≤ 8) : who (2 * p) g / 2 = who p g := by
  unfold who; rcases sixteen h1 (by omega) with rfl | rfl | rfl | rfl | rfl | rfl | rfl | rfl | rfl | rfl | rfl | rfl | rfl | rfl | rfl | rfl <;> omega

/-- What moves, of the first k groups, where p workers become q: the group, who had it, who gets it. -/
def mvs (p q : Int) : Nat → List (Int × Int × Int)
  | 0 => []
  | k + 1 => if who p k = who q k then mvs p q k else mvs p q k ++ [((k : Int), who p k, who q k)]
theorem mvs_le (p q : Int) : ∀ k, (mvs p q k).length ≤ k
  | 0 => Nat.le_refl _
  | k + 1 => by
    have := mvs_le p q k
    unfold mvs; split <;> simp <;> omega
theorem mvs_same (p : Int) : ∀ k, mvs p p k = []
  | 0 => rfl
  | k + 1 => by unfold mvs; rw [if_pos rfl]; exact mvs_same p k
theorem mvs_swap (p q : Int) : ∀ k, mvs q p k = (mvs p q k).map fun m => (m.1, m.2.2, m.2.1)
  | 0 => rfl
  | k + 1 => by
    have h := mvs_swap p q k
    unfold mvs
    by_cases e : who p k = who q k
    · rw [if_pos e, if_pos e.symm, h]
    · rw [if_neg e, if_neg (fun x => e x.symm), h]; simp
theorem mvs_ne (p q : Int) : ∀ k m, m ∈ mvs p q k → m.2.1 ≠ m.2.2
  | 0, m, h => by simp [mvs] at h
  | k + 1, m, h => by
    unfold mvs at h
    by_cases e : who p k = who q k
    · rw [if_pos e] at h; exact mvs_ne p q k m h
    · rw [if_neg e] at h
      rcases List.mem_append.1 h with h | h
      · exact mvs_ne p q k m h
      · simp at h; subst h; exact e
theorem mvs_keep {p q : Int} {k : Nat} (e : who p k = who q k) : mvs p q (k + 1) = mvs p q k := by
  show (if who p k = who q k then mvs p q k else mvs p q k ++ [((k : Int), who p k, who q k)]) = _
  rw [if_pos e]
theorem mvs_more {p q : Int} {k : Nat} (e : who p k ≠ who q k) : mvs p q (k + 1) = mvs p q k ++ [((k : Int), who p k, who q k)] := by
  show (if who p k = who q k then mvs p q k else mvs p q k ++ [((k : Int), who p k, who q k)]) = _
  rw [if_neg e]
theorem mvs_12 : (mvs 1 2 16).length = 8 := by decide

end Go.Proofs.Ytiofpimchbhfcaa
