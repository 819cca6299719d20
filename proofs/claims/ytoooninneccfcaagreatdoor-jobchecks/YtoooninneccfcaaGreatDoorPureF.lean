/- Natural numbers as words of 32 bits, the lowest first. -/
namespace Go.Proofs.YtoooninneccfcaaGreatDoor

def nv : List Nat → Nat
  | [] => 0
  | a :: l => a + 4294967296 * nv l

theorem nv_cons (a : Nat) (l : List Nat) : nv (a :: l) = a + 4294967296 * nv l := by rw [nv]
theorem nv_nil : nv [] = 0 := by rw [nv]

theorem nv_append (l r : List Nat) : nv (l ++ r) = nv l + 4294967296 ^ l.length * nv r := by
  induction l with
  | nil => simp [nv_nil]
  | cons a l ih =>
    rw [List.cons_append, nv_cons, nv_cons, ih, List.length_cons, Nat.pow_succ, Nat.mul_add, Nat.mul_comm (4294967296 ^ l.length) 4294967296, Nat.mul_assoc]
    omega
theorem nv_snoc (l : List Nat) (x : Nat) : nv (l ++ [x]) = nv l + 4294967296 ^ l.length * x := by
  rw [nv_append, nv_cons, nv_nil]; simp

theorem nv_lt (l : List Nat) (h : ∀ a ∈ l, a < 4294967296) : nv l < 4294967296 ^ l.length := by
  induction l with
  | nil => simp [nv_nil]
  | cons a l ih =>
    have h1 := h a (by simp)
    have h2 := ih (fun x hx => h x (by simp [hx]))
    rw [nv_cons, List.length_cons, Nat.pow_succ]
    generalize 4294967296 ^ l.length = p at h2
    omega

theorem nv_set (l : List Nat) (k x : Nat) (hk : k < l.length) : nv (l.set k x) + 4294967296 ^ k * l[k] = nv l + 4294967296 ^ k * x := by
  induction l generalizing k with
  | nil => simp at hk
  | cons a l ih =>
    cases k with
    | zero => simp only [List.set_cons_zero, nv_cons, List.getElem_cons_zero, Nat.pow_zero, Nat.one_mul]; omega
    | succ k =>
      have := ih k (by simpa using hk)
      simp only [List.set_cons_succ, nv_cons, List.getElem_cons_succ]
      have e : ∀ y, 4294967296 ^ (k + 1) * y = 4294967296 * (4294967296 ^ k * y) := by
        intro y; rw [Nat.pow_succ, Nat.mul_comm (4294967296 ^ k) 4294967296, Nat.mul_assoc]
      rw [e, e]
      omega

theorem nv_zeros (n : Nat) : nv (List.replicate n 0) = 0 := by
  induction n with
  | zero => rfl
  | succ n ih => rw [List.replicate_succ, nv_cons, ih]

theorem nv_take_succ (l : List Nat) (i : Nat) (hi : i < l.length) : nv (l.take (i + 1)) = nv (l.take i) + 4294967296 ^ i * l[i] := by
  rw [List.take_succ_eq_append_getElem hi, nv_snoc, List.length_take, Nat.min_eq_left (by omega)]

/-- The words of a number, no 0 at the end. -/
def wl (n : Nat) : List Nat := if h : n = 0 then [] else n % 4294967296 :: wl (n / 4294967296)
termination_by n
decreasing_by omega

theorem wl_zero : wl 0 = [] := by rw [wl, dif_pos rfl]
theorem wl_pos {n : Nat} (h : n ≠ 0) : wl n = n % 4294967296 :: wl (n / 4294967296) := by rw [wl, dif_neg h]
theorem wl_step (a m : Nat) (ha : a < 4294967296) (h : a ≠ 0 ∨ m ≠ 0) : wl (a + 4294967296 * m) = a :: wl m := by
  have e1 : (a + 4294967296 * m) % 4294967296 = a := by omega
  have e2 : (a + 4294967296 * m) / 4294967296 = m := by omega
  rw [wl_pos (by omega), e1, e2]
theorem nv_wl (n : Nat) : nv (wl n) = n := by
  induction n using Nat.strongRecOn with
  | _ n ih =>
    by_cases h : n = 0
    · subst h; rw [wl_zero, nv_nil]
    · rw [wl_pos h, nv_cons, ih _ (by omega)]; omega
theorem wl_lt (n : Nat) : ∀ a ∈ wl n, a < 4294967296 := by
  induction n using Nat.strongRecOn with
  | _ n ih =>
    by_cases h : n = 0
    · subst h; rw [wl_zero]; simp
    · rw [wl_pos h]
      intro a ha
      rcases List.mem_cons.1 ha with rfl | ha
      · omega
      · exact ih _ (by omega) a ha

def trimL : List Nat → List Nat
  | [] => []
  | a :: l => if trimL l = [] ∧ a = 0 then [] else a :: trimL l

theorem trim_wl (l : List Nat) (h : ∀ a ∈ l, a < 4294967296) : trimL l = wl (nv l) := by
  induction l with
  | nil => rw [nv_nil, wl_zero]; rfl
  | cons a l ih =>
    have h2 := ih (fun x hx => h x (by simp [hx]))
    have ha := h a (by simp)
    rw [nv_cons]
    unfold trimL
    by_cases hz : nv l = 0
    · have e : trimL l = [] := by rw [h2, hz, wl_zero]
      by_cases h0 : a = 0
      · rw [if_pos ⟨e, h0⟩, h0, hz]; exact wl_zero.symm
      · rw [if_neg (fun h => h0 h.2), wl_step a _ ha (.inl h0), h2]
    · have e : trimL l ≠ [] := by rw [h2, wl_pos hz]; simp
      rw [if_neg (fun h => e h.1), wl_step a _ ha (.inr hz), h2]
theorem trim_zero (l : List Nat) : trimL (l ++ [0]) = trimL l := by
  induction l with
  | nil => simp [trimL]
  | cons a l ih => rw [List.cons_append]; unfold trimL; rw [ih]
theorem trim_keep (l : List Nat) (x : Nat) (hx : x ≠ 0) : trimL (l ++ [x]) = l ++ [x] := by
  induction l with
  | nil => simp [trimL, hx]
  | cons a l ih => rw [List.cons_append]; unfold trimL; rw [ih]; simp

end Go.Proofs.YtoooninneccfcaaGreatDoor
