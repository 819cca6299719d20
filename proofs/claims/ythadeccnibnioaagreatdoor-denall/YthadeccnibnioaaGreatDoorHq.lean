
/- Natural numbers as words of 32 bits, the lowest first. -/
namespace Go.Proofs.YthadeccnibnioaaGreatDoor

def nv : List Nat → Nat
  | [] => 0
  | a :: l => a + 4294967296 * nv l

theorem nv_cons (a : Nat) (l : List Nat) : nv (a :: l) = a + 4294967296 * nv l := by rw [nv]
theorem nv_nil : nv [] = 0 := by rw [nv]

theorem nv_append (l r : List Nat) : nv (l ++ r) = nv l + 4294967296 ^ l.length * nv r := by
  induction l with
  | nil => simp [nv_nil]
  | cons a l ih =>
    rw [List.cons_append, nv_cons, nv_cons, ih, List.length_cons, Nat.pow_succ, Nat.mul_add, Nat.mul_comm (4294967296 ^ l.length) 4294967296, Nat.mul_assoc]
    omega
theorem nv_snoc (l : List Nat) (x : Nat) : nv (l ++ [x]) = nv l + 4294967296 ^ l.length * x := by
  rw [nv_append, nv_cons, nv_nil]; simp

theorem nv_set (l : List Nat) (k x : Nat) (hk : k < l.length) : nv (l.set k x) + 4294967296 ^ k * l[k] = nv l + 4294967296 ^ k * x := by
  induction l generalizing k with
  | nil => simp at hk
  | cons a l ih =>
    cases k with
    | zero => simp only [List.set_cons_zero, nv_cons, List.getElem_cons_zero, Nat.pow_zero, Nat.one_mul]; omega
    | succ k =>
      have := ih k (by simpa using hk)
      simp only [List.set_cons_succ, nv_cons, List.getElem_cons_succ]
      have e : ∀ y, 4294967296 ^ (k + 1) * y = 4294967296 * (4294967296 ^ k * y) := by
        intro y; rw [Nat.pow_succ, Nat.mul_comm (4294967296 ^ k) 4294967296, Nat.mul_assoc]
      rw [e, e]
      omega

theorem nv_zeros (n : Nat) : nv (List.replicate n 0) = 0 := by
  induction n with
  | zero => rfl
  | succ n ih => rw [List.replicate_succ, nv_cons, ih]

theorem nv_take_succ (l : List Nat) (i : Nat) (hi : i < l.length) : nv (l.take (i + 1)) = nv (l.take i) + 4294967296 ^ i * l[i] := by
  rw [List.take_succ_eq_append_getElem hi, nv_snoc, List.length_take, Nat.min_eq_left (by omega)]

/-- The words of a number, no 0 at the end. -/
def wl (n : Nat) : List Nat := if h : n = 0 then [] else n % 4294967296 :: wl (n / 4294967296)
termination_by n
decreasing_by omega

theorem wl_zero : wl 0 = [] := by rw [wl, dif_pos rfl]
theorem wl_pos {n : Nat} (h : n ≠ 0) : wl n = n % 4294967296 :: wl (n / 4294967296) := by rw [wl, dif_neg h]
theorem wl_step (a m : Nat) (ha : a < 4294967296) (h : a ≠ 0 ∨ m ≠ 0) : wl (a + 4294967296 * m) = a :: wl m := by
  have e1 : (a + 4294967296 * m) % 4294967296 = a := by omega
  have e2 : (a + 4294967296 * m) / 4294967296 = m := by omega
  rw [wl_pos (by omega), e1, e2]
theorem nv_wl (n : Nat) : nv (wl n) = n := by
  induction n using Nat.strongRecOn with
  | _ n ih =>
    by_cases h : n = 0
    · subst h; rw [wl_zero, nv_nil]
    · rw [wl_pos h, nv_cons, ih _ (by omega)]; omega
theorem wl_lt (n : Nat) : ∀ a ∈ wl n, a < 4294967296 := by
  induction n using Nat.strongRecOn with
  | _ n ih =>
    by_cases h : n = 0
    · subst h; rw [wl_zero]; simp
    · rw [wl_pos h]
      intro a ha
      rcases List.mem_cons.1 ha with rfl | ha
      · omega
      · exact ih _ (by omega) a ha

def trimL : List Nat → List Nat
  | [] => []
  | a :: l => if trimL l = [] ∧ a = 0 then [] else a :: trimL l

theorem trim_wl (l : List Nat) (h : ∀ a ∈ l, a < 4294967296) : trimL l = wl (nv l) := by
  induction l with
  | nil => rw [nv_nil, wl_zero]; rfl
  | cons a l ih =>
    have h2 := ih (fun x hx => h x (by simp [hx]))
    have ha := h a (by simp)
    rw [nv_cons]
    unfold trimL
    by_cases hz : nv l = 0
    · have e : trimL l = [] := by rw [h2, hz, wl_zero]
      by_cases h0 : a = 0
      · rw [if_pos ⟨e, h0⟩, h0, hz]; exact wl_zero.symm
      · rw [if_neg (fun h => h0 h.2), wl_step a _ ha (.inl h0), h2]
    · have e : trimL l ≠ [] := by rw [h2, wl_pos hz]; simp
      rw [if_neg (fun h => e h.1), wl_step a _ ha (.inr hz), h2]
theorem trim_zero (l : List Nat) : trimL (l ++ [0]) = trimL l := by
  induction l with
  | nil => simp [trimL]
  | cons a l ih => rw [List.cons_append]; unfold trimL; rw [ih]
theorem trim_keep (l : List Nat) (x : Nat) (hx : x ≠ 0) : trimL (l ++ [x]) = l ++ [x] := by
  induction l with
  | nil => simp [trimL, hx]
  | cons a l ih => rw [List.cons_append]; unfold trimL; rw [ih]; simp

end Go.Proofs.YthadeccnibnioaaGreatDoor

/- Sums, products and quotients of words of 32 bits, step by step. -/
namespace Go.Proofs.YthadeccnibnioaaGreatDoor

def wd (l : List Nat) (i : Nat) : Nat := l.getD i 0
def Wds (l : List Nat) : Prop := ∀ a ∈ l, a < 4294967296

theorem wd_get {l : List Nat} {i : Nat} (h : i < l.length) : wd l i = l[i] := by simp [wd, List.getD, h]
theorem wd_lt {l : List Nat} (h : Wds l) (i : Nat) : wd l i < 4294967296 := by
  by_cases hi : i < l.length
  · rw [wd_get hi]; exact h _ (List.getElem_mem hi)
  · simp [wd, List.getD, List.getElem?_eq_none (Nat.le_of_not_lt hi)]
theorem Wds.set {l : List Nat} (h : Wds l) (i : Nat) {x : Nat} (hx : x < 4294967296) : Wds (l.set i x) := by
  intro a ha
  rcases List.mem_or_eq_of_mem_set ha with h' | h'
  · exact h a h'
  · omega
theorem Wds.zeros (n : Nat) : Wds (List.replicate n 0) := by
  intro a ha; have := (List.mem_replicate.1 ha).2; omega
theorem wd_set_ne {l : List Nat} {i j x : Nat} (h : i ≠ j) : wd (l.set i x) j = wd l j := by
  simp [wd, List.getD, h]
theorem wd_zeros (n i : Nat) : wd (List.replicate n 0) i = 0 := by
  simp only [wd, List.getD, List.getElem?_replicate]; split <;> rfl

theorem nv_take_step (l : List Nat) (i : Nat) : nv (l.take (i + 1)) = nv (l.take i) + 4294967296 ^ i * wd l i := by
  by_cases h : i < l.length
  · rw [nv_take_succ l i h, wd_get h]
  · have e : wd l i = 0 := by simp [wd, List.getD, List.getElem?_eq_none (Nat.le_of_not_lt h)]
    rw [e, List.take_of_length_le (by omega), List.take_of_length_le (by omega)]; rfl

theorem nv_put {l : List Nat} {k : Nat} (x : Nat) (hk : k < l.length) : nv (l.set k x) + 4294967296 ^ k * wd l k = nv l + 4294967296 ^ k * x := by
  rw [wd_get hk]; exact nv_set l k x hk

theorem pow_step (k y : Nat) : 4294967296 ^ (k + 1) * y = 4294967296 ^ k * (4294967296 * y) := by rw [Nat.pow_succ, Nat.mul_assoc]

/-- A sum, so far. -/
structure AddI (a b r : List Nat) (i c : Nat) : Prop where
  len : r.length = a.length + 1
  wds : Wds r
  car : c ≤ 1
  zero : ∀ j, i ≤ j → wd r j = 0
  val : nv r + 4294967296 ^ i * c = nv (a.take i) + nv (b.take i)

theorem AddI.start (a b : List Nat) : AddI a b (List.replicate (a.length + 1) 0) 0 0 :=
  ⟨by simp, Wds.zeros _, by omega, fun j _ => wd_zeros _ j, by rw [nv_zeros]; rfl⟩

theorem AddI.step {a b r : List Nat} {i c : Nat} (h : AddI a b r i c) (ha : Wds a) (hb : Wds b) (hi : i < a.length) :
    AddI a b (r.set i ((c + wd a i + wd b i) % 4294967296)) (i + 1) ((c + wd a i + wd b i) / 4294967296) := by
  have h1 := wd_lt ha i
  have h2 := wd_lt hb i
  have hc := h.car
  have hl := h.len
  refine ⟨by simpa using h.len, h.wds.set i (Nat.mod_lt _ (by omega)), by omega, fun j hj => ?_, ?_⟩
  · rw [wd_set_ne (by omega)]; exact h.zero j (by omega)
  · have hp := nv_put (l := r) ((c + wd a i + wd b i) % 4294967296) (show i < r.length by omega)
    rw [h.zero i (by omega)] at hp
    have hv := h.val
    rw [pow_step, nv_take_step, nv_take_step]
    generalize 4294967296 ^ i = p at *
    generalize hs : c + wd a i + wd b i = s at *
    have e : p * s = p * (4294967296 * (s / 4294967296)) + p * (s % 4294967296) := by rw [← Nat.mul_add, Nat.div_add_mod]
    have e2 : p * s = p * c + p * wd a i + p * wd b i := by rw [← hs, Nat.mul_add, Nat.mul_add]
    rw [Nat.mul_zero] at hp
    omega

theorem AddI.done {a b r : List Nat} {c : Nat} (h : AddI a b r a.length c) (hb : b.length ≤ a.length) : Wds (r.set a.length c) ∧ nv (r.set a.length c) = nv a + nv b := by
  have hc := h.car
  have hl := h.len
  refine ⟨h.wds.set _ (by omega), ?_⟩
  have hp := nv_put (l := r) c (show a.length < r.length by omega)
  have hv := h.val
  rw [h.zero _ (Nat.le_refl _)] at hp
  rw [List.take_of_length_le (Nat.le_refl _), List.take_of_length_le hb] at hv
  omega

/-- A product, so far: rows done, and of this row the words done. -/
structure MulI (a b r : List Nat) (i j c : Nat) : Prop where
  len : r.length = a.length + b.length
  wds : Wds r
  car : c < 4294967296
  zero : ∀ k, i + b.length ≤ k → wd r k = 0
  val : nv r + 4294967296 ^ (i + j) * c = nv (a.take i) * nv b + 4294967296 ^ i * wd a i * nv (b.take j)

theorem MulI.start (a b : List Nat) : MulI a b (List.replicate (a.length + b.length) 0) 0 0 0 :=
  ⟨by simp, Wds.zeros _, by omega, fun j _ => wd_zeros _ j, by rw [nv_zeros]; simp [nv_nil]⟩

theorem MulI.step {a b r : List Nat} {i j c : Nat} (h : MulI a b r i j c) (ha : Wds a) (hb : Wds b) (hi : i < a.length) (hj : j < b.length) :
    MulI a b (r.set (i + j) ((c + (wd a i * wd b j + wd r (i + j))) % 4294967296)) i (j + 1) ((c + (wd a i * wd b j + wd r (i + j))) / 4294967296) := by
  have h1 := wd_lt ha i
  have h2 := wd_lt hb j
  have h3 := wd_lt h.wds (i + j)
  have hc := h.car
  have hl := h.len
  have hm : wd a i * wd b j ≤ 4294967295 * 4294967295 := Nat.mul_le_mul (by omega) (by omega)
  refine ⟨by simpa using h.len, h.wds.set _ (Nat.mod_lt _ (by omega)), by omega, fun k hk => ?_, ?_⟩
  · rw [wd_set_ne (by omega)]; exact h.zero k hk
  · have hp := nv_put (l := r) ((c + (wd a i * wd b j + wd r (i + j))) % 4294967296) (show i + j < r.length by omega)
    have hv := h.val
    rw [show i + (j + 1) = (i + j) + 1 by omega, pow_step, nv_take_step]
    have e3 : 4294967296 ^ i * wd a i * (nv (b.take j) + 4294967296 ^ j * wd b j) = 4294967296 ^ i * wd a i * nv (b.take j) + 4294967296 ^ (i + j) * (wd a i * wd b j) := by
      rw [Nat.mul_add, Nat.pow_add, Nat.mul_assoc, Nat.mul_assoc, Nat.mul_assoc]
      congr 2
      rw [← Nat.mul_assoc, Nat.mul_comm (wd a i) (4294967296 ^ j), Nat.mul_assoc]
    rw [e3]
    generalize 4294967296 ^ (i + j) = p at *
    generalize wd a i * wd b j = m at *
    generalize 4294967296 ^ i * wd a i * nv (b.take j) = y at *
    generalize nv (a.take i) * nv b = z at *
    generalize wd r (i + j) = q at *
    generalize hs : c + (m + q) = s at *
    have e : p * s = p * (4294967296 * (s / 4294967296)) + p * (s % 4294967296) := by rw [← Nat.mul_add, Nat.div_add_mod]
    have e2 : p * s = p * c + (p * m + p * q) := by rw [← hs, Nat.mul_add, Nat.mul_add]
    omega

theorem MulI.row {a b r : List Nat} {i c : Nat} (h : MulI a b r i b.length c) (hi : i < a.length) : MulI a b (r.set (i + b.length) c) (i + 1) 0 0 := by
  have hl := h.len
  refine ⟨by simpa using h.len, h.wds.set _ h.car, by omega, fun k hk => ?_, ?_⟩
  · rw [wd_set_ne (by omega)]; exact h.zero k (by omega)
  · have hp := nv_put (l := r) c (show i + b.length < r.length by omega)
    have hv := h.val
    rw [h.zero _ (Nat.le_refl _), Nat.mul_zero, Nat.add_zero] at hp
    rw [List.take_of_length_le (Nat.le_refl _), ← hp] at hv
    rw [nv_take_step, Nat.add_mul, hv, List.take_zero, nv_nil, Nat.mul_zero, Nat.mul_zero]

theorem MulI.done {a b r : List Nat} (h : MulI a b r a.length 0 0) : nv r = nv a * nv b := by
  have hv := h.val
  rw [List.take_of_length_le (Nat.le_refl _)] at hv
  simpa [nv_nil] using hv

/-- A quotient by one word, so far: from above down to word i. -/
structure SmI (a q : List Nat) (d i r : Nat) : Prop where
  len : q.length = a.length
  wds : Wds q
  rest : r < d
  zero : ∀ k, k < i → wd q k = 0
  val : nv q * d + 4294967296 ^ i * r + nv (a.take i) = nv a

theorem SmI.start (a : List Nat) {d : Nat} (hd : 0 < d) : SmI a (List.replicate a.length 0) d a.length 0 :=
  ⟨by simp, Wds.zeros _, hd, fun j _ => wd_zeros _ j, by rw [nv_zeros, List.take_of_length_le (Nat.le_refl _)]; simp⟩

theorem SmI.step {a q : List Nat} {d i r : Nat} (h : SmI a q d (i + 1) r) (ha : Wds a) (hd : d < 4294967296) (hi : i < a.length) :
    SmI a (q.set i ((r * 4294967296 + wd a i) / d)) d i ((r * 4294967296 + wd a i) % d) := by
  have h1 := wd_lt ha i
  have hr := h.rest
  have hl := h.len
  have hq : (r * 4294967296 + wd a i) / d < 4294967296 := by
    rw [Nat.div_lt_iff_lt_mul (by omega)]
    have : (r + 1) * 4294967296 ≤ d * 4294967296 := Nat.mul_le_mul (by omega) (Nat.le_refl _)
    rw [Nat.mul_comm 4294967296 d]; omega
  refine ⟨by simpa using h.len, h.wds.set _ hq, Nat.mod_lt _ (by omega), fun k hk => ?_, ?_⟩
  · rw [wd_set_ne (by omega)]; exact h.zero k (by omega)
  · have hp := nv_put (l := q) ((r * 4294967296 + wd a i) / d) (show i < q.length by omega)
    rw [h.zero i (by omega), Nat.mul_zero, Nat.add_zero] at hp
    have hv := h.val
    rw [pow_step, nv_take_step] at hv
    rw [hp, Nat.add_mul]
    generalize hs : r * 4294967296 + wd a i = s at *
    have e : 4294967296 ^ i * s = 4294967296 ^ i * (s / d) * d + 4294967296 ^ i * (s % d) := by
      rw [Nat.mul_assoc, ← Nat.mul_add, Nat.mul_comm (s / d) d, Nat.div_add_mod]
    have e2 : 4294967296 ^ i * s = 4294967296 ^ i * (4294967296 * r) + 4294967296 ^ i * wd a i := by rw [← hs, Nat.mul_add, Nat.mul_comm 4294967296 r]
    omega

theorem SmI.done {a q : List Nat} {d r : Nat} (h : SmI a q d 0 r) : nv q = nv a / d ∧ r = nv a % d := by
  have hv := h.val
  have hr := h.rest
  simp only [List.take_zero, nv_nil, Nat.pow_zero, Nat.one_mul, Nat.add_zero] at hv
  have e : nv a = r + d * nv q := by rw [Nat.mul_comm d]; omega
  constructor
  · rw [e, Nat.add_mul_div_left _ _ (by omega), Nat.div_eq_of_lt hr]; omega
  · rw [e, Nat.add_mul_mod_self_left, Nat.mod_eq_of_lt hr]

theorem wl_len_le (n k : Nat) (h : n < 4294967296 ^ k) : (wl n).length ≤ k := by
  induction k generalizing n with
  | zero => simp at h; subst h; rw [wl_zero]; simp
  | succ k ih =>
    by_cases h0 : n = 0
    · subst h0; rw [wl_zero]; simp
    · rw [wl_pos h0, List.length_cons]
      have := ih (n / 4294967296) (by rw [Nat.div_lt_iff_lt_mul (by omega), Nat.mul_comm]; rw [Nat.pow_succ] at h; omega)
      omega
theorem wds_wl (n : Nat) : Wds (wl n) := wl_lt n
end Go.Proofs.YthadeccnibnioaaGreatDoor
