/- Longest first is nearly best (Graham). Plain mathematics. -/
import Derived.Below
namespace Go.Proofs.YtfkeokeedljomaaDoor
set_option linter.unusedVariables false

/-- The first of the least. -/
def argmin : List Int → Nat
  | [] => 0
  | x :: l => if l = [] then 0 else if x ≤ l.getD (argmin l) 0 then 0 else argmin l + 1
theorem argmin_lt : ∀ l : List Int, l ≠ [] → argmin l < l.length
  | [], h => absurd rfl h
  | x :: l, _ => by
    unfold argmin
    split
    · simp
    · split
      · simp
      · rename_i h1 h2
        have := argmin_lt l h1
        simp; omega
theorem argmin_le : ∀ (l : List Int) (i : Nat), i < l.length → l.getD (argmin l) 0 ≤ l.getD i 0
  | [], i, h => by simp at h
  | x :: l, i, h => by
    unfold argmin
    by_cases h1 : l = []
    · subst h1
      simp at h
      subst h
      simp
    · rw [if_neg h1]
      by_cases h2 : x ≤ l.getD (argmin l) 0
      · rw [if_pos h2]
        cases i with
        | zero => exact Int.le_refl _
        | succ i =>
          have := argmin_le l i (by simpa using h)
          simp only [List.getD_cons_zero, List.getD_cons_succ]
          omega
      · rw [if_neg h2]
        cases i with
        | zero => simp only [List.getD_cons_zero, List.getD_cons_succ]; omega
        | succ i =>
          have := argmin_le l i (by simpa using h)
          simp only [List.getD_cons_succ]
          exact this
theorem argmin_first : ∀ (l : List Int) (i : Nat), i < argmin l → l.getD (argmin l) 0 < l.getD i 0
  | [], i, h => by simp [argmin] at h
  | x :: l, i, h => by
    unfold argmin at h ⊢
    by_cases h1 : l = []
    · rw [if_pos h1] at h; omega
    · rw [if_neg h1] at h ⊢
      by_cases h2 : x ≤ l.getD (argmin l) 0
      · rw [if_pos h2] at h; omega
      · rw [if_neg h2] at h ⊢
        cases i with
        | zero => simp only [List.getD_cons_zero, List.getD_cons_succ]; omega
        | succ i =>
          have := argmin_first l i (by omega)
          simp only [List.getD_cons_succ]
          exact this
/-- What each has so far; one load more, to who has the least. -/
def giveM (ms : List (List Int)) (x : Int) : List (List Int) := ms.set (argmin (ms.map List.sum)) (x :: ms.getD (argmin (ms.map List.sum)) [])
def lptM (m : Nat) (l : List Int) : List (List Int) := l.foldl giveM (List.replicate m [])
theorem giveM_len (ms : List (List Int)) (x : Int) : (giveM ms x).length = ms.length := by unfold giveM; simp
theorem lptM_len (m : Nat) : ∀ (l : List Int) (ms : List (List Int)), ms.length = m → (l.foldl giveM ms).length = m
  | [], ms, h => h
  | x :: l, ms, h => lptM_len m l (giveM ms x) (by rw [giveM_len, h])
/-- A sum over all. -/
def tot (w : Int → Int) (ms : List (List Int)) : Int := (ms.map (fun l => (l.map w).sum)).sum
theorem tot_set (w : Int → Int) (x : Int) : ∀ (ms : List (List Int)) (i : Nat), i < ms.length → tot w (ms.set i (x :: ms.getD i [])) = tot w ms + w x
  | [], i, h => by simp at h
  | l :: ms, 0, _ => by simp [tot]; omega
  | l :: ms, i + 1, h => by
    have := tot_set w x ms i (by simpa using h)
    unfold tot at *
    simp only [List.set_cons_succ, List.map_cons, List.sum_cons, List.getD_cons_succ] at *
    omega
theorem tot_give (w : Int → Int) {ms : List (List Int)} (h : ms ≠ []) (x : Int) : tot w (giveM ms x) = tot w ms + w x := by
  unfold giveM
  refine tot_set w x ms _ ?_
  have := argmin_lt (ms.map List.sum) (by simpa using h)
  simpa using this
/-- What lies in a way of giving out: which load, to whom. -/
def ofW (k : Nat) (l : List (Int × Nat)) : List Int := (l.filter (fun p => p.2 == k)).map (·.1)
theorem ofW_tot (w : Int → Int) (m : Nat) : ∀ l : List (Int × Nat), (∀ p ∈ l, p.2 < m) → ((List.range m).map (fun k => ((ofW k l).map w).sum)).sum = (l.map (fun p => w p.1)).sum
  | [], _ => by
    have : ∀ n : Nat, ((List.range n).map (fun k => ((ofW k []).map w).sum)).sum = 0 := by
      intro n
      induction n with
      | zero => rfl
      | succ n ih => rw [List.range_succ, List.map_append, List.sum_append, ih]; simp [ofW]
    rw [this]; rfl
  | p :: l, h => by
    have ih := ofW_tot w m l (fun q hq => h q (by simp [hq]))
    have hp := h p (by simp)
    have key : ∀ n : Nat, ((List.range n).map (fun k => ((ofW k (p :: l)).map w).sum)).sum = ((List.range n).map (fun k => ((ofW k l).map w).sum)).sum + (if p.2 < n then w p.1 else 0) := by
      intro n
      induction n with
      | zero => simp
      | succ n ih2 =>
        rw [List.range_succ, List.map_append, List.sum_append, ih2, List.map_append, List.sum_append]
        simp only [List.map_cons, List.map_nil, List.sum_cons, List.sum_nil]
        have e : ((ofW n (p :: l)).map w).sum = ((ofW n l).map w).sum + (if p.2 = n then w p.1 else 0) := by
          unfold ofW
          rw [List.filter_cons]
          by_cases hn : p.2 = n
          · simp [hn]; omega
          · have : (p.2 == n) = false := by simpa using hn
            rw [this]; simp [hn]
        rw [e]
        by_cases h1 : p.2 < n
        · have e1 : ¬ p.2 = n := by omega
          have e2 : p.2 < n + 1 := by omega
          rw [if_pos h1, if_neg e1, if_pos e2]; omega
        · by_cases h2 : p.2 = n
          · have e2 : p.2 < n + 1 := by omega
            rw [if_neg h1, if_pos h2, if_pos e2]; omega
          · have e2 : ¬ p.2 < n + 1 := by omega
            rw [if_neg h1, if_neg h2, if_neg e2]; omega
    rw [key m, if_pos hp, ih, List.map_cons, List.sum_cons]; omega
/-- Few great ones: at most two lie with one, and a great one alone. -/
def wt (B p x : Int) : Int := if B - p < x then 2 else 1
theorem wt_le {B p : Int} (h3 : B < 3 * p) (hp : 0 ≤ p) : ∀ l : List Int, (∀ x ∈ l, p ≤ x) → l.sum ≤ B → (l.map (wt B p)).sum ≤ 2
  | [], _, _ => by simp
  | [x], h, hs => by simp [wt]; split <;> omega
  | [x, y], h, hs => by
    have hx := h x (by simp); have hy := h y (by simp)
    simp at hs
    simp [wt]
    rw [if_neg (by omega), if_neg (by omega)]; omega
  | x :: y :: z :: l, h, hs => by
    have hx := h x (by simp); have hy := h y (by simp); have hz := h z (by simp)
    have hl : 0 ≤ l.sum := by
      have : ∀ l : List Int, (∀ x ∈ l, 0 ≤ x) → 0 ≤ l.sum := by
        intro l
        induction l with
        | nil => intro _; simp
        | cons a l ih => intro h; rw [List.sum_cons]; have := h a (by simp); have := ih (fun b hb => h b (by simp [hb])); omega
      exact this l (fun a ha => by have := h a (by simp [ha]); omega)
    simp at hs; omega
theorem wt_ge {B p : Int} (hpB : p ≤ B) : ∀ l : List Int, B < l.sum + p → 2 ≤ (l.map (wt B p)).sum
  | [], h => by simp at h; omega
  | [x], h => by simp at h; simp [wt]; rw [if_pos (by omega)]; omega
  | x :: y :: l, h => by
    have hw : ∀ a, 1 ≤ wt B p a := fun a => by unfold wt; split <;> omega
    have hl : ∀ l : List Int, 0 ≤ (l.map (wt B p)).sum := by
      intro l
      induction l with
      | nil => simp
      | cons a l ih => rw [List.map_cons, List.sum_cons]; have := hw a; omega
    have h1 := hw x; have h2 := hw y; have h3 := hl l
    simp only [List.map_cons, List.sum_cons]; omega
theorem sum_ge {α : Type} (f : α → Int) (c : Int) : ∀ l : List α, (∀ x ∈ l, c ≤ f x) → c * l.length ≤ (l.map f).sum
  | [], _ => by simp
  | x :: l, h => by
    have h1 := h x (by simp)
    have h2 := sum_ge f c l (fun y hy => h y (by simp [hy]))
    rw [List.map_cons, List.sum_cons, List.length_cons, show ((l.length + 1 : Nat) : Int) = (l.length : Int) + 1 from by omega, Int.mul_add]; omega
theorem sum_le {α : Type} (f : α → Int) (c : Int) : ∀ l : List α, (∀ x ∈ l, f x ≤ c) → (l.map f).sum ≤ c * l.length
  | [], _ => by simp
  | x :: l, h => by
    have h1 := h x (by simp)
    have h2 := sum_le f c l (fun y hy => h y (by simp [hy]))
    rw [List.map_cons, List.sum_cons, List.length_cons, show ((l.length + 1 : Nat) : Int) = (l.length : Int) + 1 from by omega, Int.mul_add]; omega
theorem tot_lpt (w : Int → Int) (m : Nat) (hm : 0 < m) : ∀ l : List Int, tot w (lptM m l) = (l.map w).sum := by
  have gen : ∀ (l : List Int) (ms : List (List Int)), ms.length = m → tot w (l.foldl giveM ms) = tot w ms + (l.map w).sum := by
    intro l
    induction l with
    | nil => intro ms _; simp
    | cons x l ih =>
      intro ms hms
      rw [List.foldl_cons, ih (giveM ms x) (by rw [giveM_len, hms]), tot_give w (by intro e; subst e; simp at hms; omega) x, List.map_cons, List.sum_cons]; omega
  intro l
  unfold lptM
  rw [gen l _ (by simp)]
  have : tot w (List.replicate m []) = 0 := by
    unfold tot
    have : ∀ m : Nat, ((List.replicate m ([] : List Int)).map (fun l => (l.map w).sum)).sum = 0 := by
      intro m
      induction m with
      | zero => rfl
      | succ m ih => rw [List.replicate_succ, List.map_cons, List.sum_cons, ih]; rfl
    exact this m
  omega
theorem ofW_mem {k : Nat} {l : List (Int × Nat)} {x : Int} (h : x ∈ ofW k l) : x ∈ l.map (·.1) := by
  unfold ofW at h
  obtain ⟨p, hp, rfl⟩ := List.mem_map.1 h
  exact List.mem_map.2 ⟨p, (List.mem_filter.1 hp).1, rfl⟩
theorem sum_nn : ∀ l : List Int, (∀ x ∈ l, 0 ≤ x) → 0 ≤ l.sum
  | [], _ => by simp
  | a :: l, h => by
    rw [List.sum_cons]
    have h1 := h a (by simp)
    have h2 := sum_nn l (fun b hb => h b (by simp [hb]))
    omega
theorem ofW_app (k : Nat) (a b : List (Int × Nat)) : ofW k (a ++ b) = ofW k a ++ ofW k b := by unfold ofW; rw [List.filter_append, List.map_append]
theorem map_sum_tot (ms : List (List Int)) : tot (fun x => x) ms = (ms.map List.sum).sum := by
  unfold tot
  congr 1
  refine List.map_congr_left (fun l _ => ?_)
  simp
/-- Nobody's sum is above what a way of the others has, but where the load is small. -/
theorem great_one {m : Nat} (hm : 0 < m) {B p : Int} {pre : List (Int × Nat)} {k : Nat} (hk : k < m) (hpk : ∀ q ∈ pre, q.2 < m) (hp : 0 ≤ p) (hge : ∀ q ∈ pre, p ≤ q.1) (h3 : B < 3 * p)
    (hB : ∀ j, (ofW j (pre ++ [(p, k)])).sum ≤ B) (hviol : ∀ l ∈ lptM m (pre.map (·.1)), B < l.sum + p) : False := by
  have hpB : p ≤ B := by
    have := hB k
    rw [ofW_app] at this
    have e : ofW k [(p, k)] = [p] := by simp [ofW]
    rw [e, List.sum_append] at this
    have h0 := sum_nn (ofW k pre) (fun x hx => by
      obtain ⟨q, hq, rfl⟩ := List.mem_map.1 (ofW_mem hx)
      have := hge q hq; omega)
    simp at this; omega
  have hl := lptM_len m (pre.map (·.1)) (List.replicate m []) (by simp)
  have h1 : 2 * ((lptM m (pre.map (·.1))).length : Int) ≤ tot (wt B p) (lptM m (pre.map (·.1))) := sum_ge _ 2 _ (fun l hlm => wt_ge hpB l (hviol l hlm))
  rw [tot_lpt _ m hm] at h1
  have h2 := sum_le (fun j => ((ofW j (pre ++ [(p, k)])).map (wt B p)).sum) 2 (List.range m) (fun j _ => wt_le h3 hp _ (fun x hx => by
    obtain ⟨q, hq, rfl⟩ := List.mem_map.1 (ofW_mem hx)
    rcases List.mem_append.1 hq with hq | hq
    · exact hge q hq
    · simp at hq; subst hq; exact Int.le_refl _) (hB j))
  rw [ofW_tot (wt B p) m _ (fun q hq => by
    rcases List.mem_append.1 hq with hq | hq
    · exact hpk q hq
    · simp at hq; subst hq; exact hk), List.length_range] at h2
  rw [List.map_append, List.sum_append] at h2
  have hw : 1 ≤ wt B p p := by unfold wt; split <;> omega
  have e : (pre.map (fun q => wt B p q.1)).sum = ((pre.map (·.1)).map (wt B p)).sum := by rw [List.map_map]; rfl
  rw [e] at h2
  simp only [List.map_cons, List.map_nil, List.sum_cons, List.sum_nil] at h2
  have hl2 : (lptM m (pre.map (·.1))).length = m := hl
  rw [hl2] at h1
  omega
/-- Each load that is given to the least: no one's sum is above B, or the load was a small one. -/
theorem lpt_inv {m : Nat} (hm : 0 < m) {B : Int} (hB0 : 0 ≤ B) : ∀ (l : List (Int × Nat)), (∀ q ∈ l, q.2 < m ∧ 0 ≤ q.1) → l.Pairwise (fun a b => b.1 ≤ a.1) → (∀ j, (ofW j l).sum ≤ B) →
    ∀ s ∈ lptM m (l.map (·.1)), 3 * m * s.sum ≤ (4 * m - 1) * B := by
  intro l
  have base : 3 * (m : Int) * B ≤ (4 * m - 1) * B := Int.mul_le_mul_of_nonneg_right (by omega) hB0
  -- either all is within B, or a small one went over
  have gen : ∀ l : List (Int × Nat), (∀ q ∈ l, q.2 < m ∧ 0 ≤ q.1) → l.Pairwise (fun a b => b.1 ≤ a.1) → (∀ j, (ofW j l).sum ≤ B) →
      (∀ s ∈ lptM m (l.map (·.1)), 3 * m * s.sum ≤ (4 * m - 1) * B) ∧ ((∀ s ∈ lptM m (l.map (·.1)), s.sum ≤ B) ∨ (∃ q ∈ l, 3 * q.1 ≤ B)) := by
    intro l
    generalize hn : l.length = n
    induction n generalizing l with
    | zero =>
      intro _ _ _
      have : l = [] := List.length_eq_zero_iff.1 hn
      subst this
      have h0 : ∀ s ∈ lptM m (([] : List (Int × Nat)).map (·.1)), s.sum = 0 := fun s hs => by
        have : s ∈ List.replicate m ([] : List Int) := hs
        rw [List.eq_of_mem_replicate this]; rfl
      refine ⟨fun s hs => ?_, .inl (fun s hs => by rw [h0 s hs]; exact hB0)⟩
      rw [h0 s hs, Int.mul_zero]
      exact Int.mul_nonneg (by omega) hB0
    | succ n ih =>
      intro hq hs hBj
      have hne : l ≠ [] := by intro e; subst e; simp at hn
      obtain ⟨pre, last, rfl⟩ : ∃ pre last, l = pre ++ [last] := ⟨l.dropLast, l.getLast hne, (List.dropLast_concat_getLast hne).symm⟩
      obtain ⟨p, k⟩ := last
      have hpre : pre.length = n := by simp at hn; omega
      have hq1 : ∀ q ∈ pre, q.2 < m ∧ 0 ≤ q.1 := fun q h => hq q (by simp [h])
      obtain ⟨hk, hp0⟩ := hq (p, k) (by simp)
      simp only at hk hp0
      obtain ⟨s1, -, s3⟩ := List.pairwise_append.1 hs
      have hge : ∀ q ∈ pre, p ≤ q.1 := fun q h => s3 q h (p, k) (by simp)
      have hB1 : ∀ j, (ofW j pre).sum ≤ B := fun j => by
        have := hBj j
        rw [ofW_app, List.sum_append] at this
        have h0 := sum_nn (ofW j [(p, k)]) (fun x hx => by
          obtain ⟨q, hq', rfl⟩ := List.mem_map.1 (ofW_mem hx)
          simp at hq'; subst hq'; exact hp0)
        omega
      obtain ⟨i1, i2⟩ := ih pre hpre hq1 s1 hB1
      have emap : lptM m ((pre ++ [(p, k)]).map (·.1)) = giveM (lptM m (pre.map (·.1))) p := by
        unfold lptM; rw [List.map_append, List.foldl_append]; rfl
      rw [emap]
      have hlen : (lptM m (pre.map (·.1))).length = m := lptM_len m _ _ (by simp)
      have htot := tot_lpt (fun x => x) m hm (pre.map (·.1))
      rw [map_sum_tot] at htot
      -- all of pre, and p, lie within m times B
      have hall := sum_le (fun j => ((ofW j (pre ++ [(p, k)])).map (fun x => x)).sum) B (List.range m) (fun j _ => by simpa using hBj j)
      rw [ofW_tot (fun x => x) m _ (fun q h => (hq q h).1), List.length_range, List.map_append, List.sum_append] at hall
      simp only [List.map_cons, List.map_nil, List.sum_cons, List.sum_nil] at hall
      have em : ((pre.map (·.1)).map (fun x => x)).sum = (pre.map (fun q => q.1)).sum := by rw [List.map_id']
      rw [em] at htot
      generalize hMS : lptM m (pre.map (·.1)) = ms at *
      have hne2 : ms ≠ [] := by intro e; subst e; simp at hlen; omega
      have ham := argmin_lt (ms.map List.sum) (by simpa using hne2)
      have ham2 : argmin (ms.map List.sum) < ms.length := by simpa using ham
      have hmin := argmin_le (ms.map List.sum)
      have hgd : ∀ i (hi : i < ms.length), (ms.map List.sum).getD i 0 = ms[i].sum := fun i hi => by
        rw [List.getD_eq_getElem?_getD, List.getElem?_map, List.getElem?_eq_getElem hi]; rfl
      have hleast : ∀ s ∈ ms, ms[argmin (ms.map List.sum)].sum ≤ s.sum := fun s hs' => by
        obtain ⟨i, hi, rfl⟩ := List.getElem_of_mem hs'
        have := hmin i (by simpa using hi)
        rw [hgd _ ham2, hgd _ hi] at this
        exact this
      have hgive : giveM ms p = ms.set (argmin (ms.map List.sum)) (p :: ms[argmin (ms.map List.sum)]) := by
        unfold giveM
        rw [List.getD_eq_getElem?_getD, List.getElem?_eq_getElem ham2]; rfl
      rw [hgive]
      generalize hS : ms[argmin (ms.map List.sum)] = S at *
      have hsum : (m : Int) * S.sum ≤ (ms.map List.sum).sum := by
        have := sum_ge List.sum S.sum ms hleast
        rw [hlen, Int.mul_comm] at this; exact this
      have hmem : ∀ s, s ∈ ms.set (argmin (ms.map List.sum)) (p :: S) → s = p :: S ∨ s ∈ ms := fun s hs' => by
        rcases List.mem_or_eq_of_mem_set hs' with h | h
        · exact .inr h
        · exact .inl h
      -- where it goes over, it is a small one
      have hsmall : B < S.sum + p → 3 * p ≤ B ∨ ∃ q ∈ pre, 3 * q.1 ≤ B := fun hv => by
        by_cases h3 : B < 3 * p
        · rcases i2 with h | h
          · exact (great_one hm hk (fun q h' => (hq1 q h').1) hp0 hge h3 hBj (by rw [hMS]; exact fun s hs' => by have := hleast s hs'; omega)).elim
          · exact .inr h
        · exact .inl (by omega)
      have hsmall2 : B < S.sum + p → 3 * p ≤ B := fun hv => by
        rcases hsmall hv with h | ⟨q, hq', h⟩
        · exact h
        · have := hge q hq'; omega
      constructor
      · intro s hs'
        rcases hmem s hs' with rfl | h
        · rw [List.sum_cons]
          by_cases hv : B < S.sum + p
          · have h3 := hsmall2 hv
            have h4 : (m : Int) * (S.sum + p) ≤ m * B + (m - 1) * p := by
              rw [Int.mul_add, Int.sub_mul, Int.one_mul, Int.mul_comm (m : Int) B]
              omega
            have h5 : ((m : Int) - 1) * (3 * p) ≤ (m - 1) * B := Int.mul_le_mul_of_nonneg_left h3 (by omega)
            have e1 : 3 * (m : Int) * (p + S.sum) = 3 * (m * (S.sum + p)) := by rw [Int.mul_assoc, Int.add_comm p]
            have e2 : ((m : Int) - 1) * (3 * p) = 3 * ((m - 1) * p) := by rw [Int.mul_left_comm]
            have e3 : (4 * (m : Int) - 1) * B = 3 * (m * B) + (m - 1) * B := by
              rw [Int.sub_mul, Int.sub_mul, Int.mul_assoc]; omega
            rw [e1, e3]; omega
          · have h6 : 3 * (m : Int) * (p + S.sum) ≤ 3 * m * B := Int.mul_le_mul_of_nonneg_left (by omega) (by omega)
            omega
        · exact i1 s h
      · by_cases hv : B < S.sum + p
        · rcases hsmall hv with h | ⟨q, hq', h⟩
          · exact .inr ⟨(p, k), by simp, h⟩
          · exact .inr ⟨q, by simp [hq'], h⟩
        · rcases i2 with h | ⟨q, hq', h⟩
          · refine .inl (fun s hs' => ?_)
            rcases hmem s hs' with rfl | h'
            · rw [List.sum_cons]; omega
            · exact h s h'
          · exact .inr ⟨q, by simp [hq'], h⟩
  intro h1 h2 h3
  exact (gen l h1 h2 h3).1
end Go.Proofs.YtfkeokeedljomaaDoor
