/- The document's marks, step by step. Plain mathematics. -/
import Derived.Test.YtfpfaekbakilpaaDoorPureWg
namespace Go.Proofs.YtfpfaekbakilpaaDoor
set_option linter.unusedVariables false

/-- What came so far of the marks of all inputs, at input a's record of turn t. -/
def cL (slack : Int) (ins : List (List Rg)) (t a j : Nat) : List Int := ((ins.take (min j (a + 1))).filter neB).map (fun l => mkM slack l (t + 1)) ++ (((ins.take j).drop (a + 1)).filter neB).map (fun l => mkM slack l t)
def came (t a j : Nat) : Nat := if j ≤ a then t + 1 else t
theorem cL_zero (slack : Int) (ins : List (List Rg)) (t a : Nat) : cL slack ins t a 0 = [] := by simp [cL]
theorem cL_succ (slack : Int) (ins : List (List Rg)) (t a j : Nat) (hj : j < ins.length) : cL slack ins t a (j + 1) = cL slack ins t a j ++ (if neB ins[j] then [mkM slack ins[j] (came t a j)] else []) := by
  unfold cL came
  by_cases h : j ≤ a
  · have e1 : min (j + 1) (a + 1) = j + 1 := by omega
    have e2 : min j (a + 1) = j := by omega
    have d1 : (ins.take (j + 1)).drop (a + 1) = [] := List.drop_eq_nil_of_le (by rw [List.length_take]; omega)
    have d2 : (ins.take j).drop (a + 1) = [] := List.drop_eq_nil_of_le (by rw [List.length_take]; omega)
    rw [e1, e2, d1, d2, if_pos h, List.take_succ_eq_append_getElem hj, List.filter_append]
    by_cases hn : neB ins[j] = true <;> simp [hn]
  · have e1 : min (j + 1) (a + 1) = a + 1 := by omega
    have e2 : min j (a + 1) = a + 1 := by omega
    have d1 : (ins.take (j + 1)).drop (a + 1) = (ins.take j).drop (a + 1) ++ [ins[j]] := by
      rw [List.take_succ_eq_append_getElem hj, List.drop_append_of_le_length (by rw [List.length_take]; omega)]
    rw [e1, e2, d1, if_neg h, List.filter_append, List.map_append, List.append_assoc]
    by_cases hn : neB ins[j] = true <;> simp [hn]
def docL (slack : Int) (ins : List (List Rg)) (t a : Nat) : Int := minL (cL slack ins t a ins.length)
def turnP (slack : Int) (ins : List (List Rg)) (t : Nat) : Nat → List Int
  | 0 => []
  | a + 1 => turnP slack ins t a ++ (if t < (ins.getD a []).length then [docL slack ins t a] else [])
theorem turnP_eq (slack : Int) (ins : List (List Rg)) (t : Nat) : ∀ i, i ≤ ins.length → turnO slack t [] ins = turnP slack ins t i ++ turnO slack t (ins.take i) (ins.drop i)
  | 0, _ => by simp [turnP]
  | i + 1, h => by
    rw [turnP_eq slack ins t i (by omega)]
    have hd : ins.drop i = ins[i] :: ins.drop (i + 1) := (List.getElem_cons_drop (h := by omega)).symm
    have ht : ins.take (i + 1) = ins.take i ++ [ins[i]] := List.take_succ_eq_append_getElem (by omega)
    rw [hd, ht]
    show turnP slack ins t i ++ ((if t < ins[i].length then _ else []) ++ turnO slack t (ins.take i ++ [ins[i]]) (ins.drop (i + 1))) = _
    rw [show turnP slack ins t (i + 1) = turnP slack ins t i ++ (if t < (ins.getD i []).length then [docL slack ins t i] else []) from rfl]
    have hg : ins.getD i [] = ins[i] := by rw [List.getD_eq_getElem?_getD, List.getElem?_eq_getElem (by omega)]; rfl
    rw [hg, List.append_assoc]
    by_cases hl : t < ins[i].length
    · rw [if_pos hl, if_pos hl]
      have e : docL slack ins t i = minL (((ins.take i).filter neB).map (fun l => mkM slack l (t + 1)) ++ mkM slack ins[i] (t + 1) :: ((ins.drop (i + 1)).filter neB).map (fun l => mkM slack l t)) := by
        unfold docL cL
        have e1 : min ins.length (i + 1) = i + 1 := by omega
        have hn : neB ins[i] = true := by
          unfold neB; cases hx : ins[i] with
          | nil => rw [hx] at hl; simp at hl
          | cons _ _ => rfl
        rw [e1, List.take_length, ht, List.filter_append]
        simp [hn]
      rw [e]
    · rw [if_neg hl, if_neg hl]
theorem turnP_all (slack : Int) (ins : List (List Rg)) (t : Nat) : turnO slack t [] ins = turnP slack ins t ins.length := by
  rw [turnP_eq slack ins t ins.length (Nat.le_refl _), List.drop_length]
  simp [turnO]
theorem turnP_len (slack : Int) (ins : List (List Rg)) (t : Nat) : ∀ i, (turnP slack ins t i).length ≤ i
  | 0 => by simp [turnP]
  | i + 1 => by
    have := turnP_len slack ins t i
    unfold turnP
    rw [List.length_append]
    split <;> simp <;> omega
def docS (slack : Int) (ins : List (List Rg)) (k : Nat) : List Int := (List.range k).flatMap (fun t => turnP slack ins t ins.length)
theorem docS_succ (slack : Int) (ins : List (List Rg)) (k : Nat) : docS slack ins (k + 1) = docS slack ins k ++ turnP slack ins k ins.length := by
  unfold docS; rw [List.range_succ, List.flatMap_append]; simp
theorem docS_all (slack : Int) (ins : List (List Rg)) : docMk slack ins = docS slack ins 400 := by
  unfold docMk docS
  congr 1
  funext t
  exact turnP_all slack ins t
theorem docS_len (slack : Int) (ins : List (List Rg)) : ∀ k, (docS slack ins k).length ≤ k * ins.length
  | 0 => by simp [docS]
  | k + 1 => by
    have := docS_len slack ins k
    have := turnP_len slack ins k ins.length
    rw [docS_succ, List.length_append, Nat.add_mul]; omega
/-- The least so far, or -1. -/
def lstV (c : List Int) : Int := if c = [] then -1 else minL c
theorem minL_ge {c : List Int} {n : Int} (hc : ∀ x ∈ c, n ≤ x) (hne : c ≠ []) : n ≤ minL c := by
  cases c with
  | nil => exact absurd rfl hne
  | cons x l =>
    have : ∀ (l : List Int) (x : Int), n ≤ x → (∀ y ∈ l, n ≤ y) → n ≤ l.foldl min x := by
      intro l
      induction l with
      | nil => intro x hx _; exact hx
      | cons y l ih => intro x hx hl; exact ih _ (by have := hl y (by simp); show n ≤ min x y; omega) (fun z hz => hl z (by simp [hz]))
    exact this l x (hc x (by simp)) (fun y hy => hc y (by simp [hy]))
theorem minL_le {c : List Int} {n : Int} (hc : ∀ x ∈ c, x ≤ n) (hne : c ≠ []) : minL c ≤ n := by
  cases c with
  | nil => exact absurd rfl hne
  | cons x l =>
    have : ∀ (l : List Int) (x : Int), x ≤ n → l.foldl min x ≤ n := by
      intro l
      induction l with
      | nil => intro x hx; exact hx
      | cons y l ih => intro x hx; exact ih _ (by show min x y ≤ n; omega)
    exact this l x (hc x (by simp))
theorem lstV_snoc {c : List Int} (hc : ∀ x ∈ c, 0 ≤ x) (m : Int) : lstV (c ++ [m]) = if lstV c < 0 ∨ m < lstV c then m else lstV c := by
  have e2 : lstV (c ++ [m]) = minL (c ++ [m]) := by unfold lstV; exact if_neg (by simp)
  rw [e2]
  cases c with
  | nil => simp [minL, lstV]
  | cons x l =>
    have e1 : lstV (x :: l) = minL (x :: l) := by unfold lstV; exact if_neg (by simp)
    have := minL_ge hc (by simp)
    rw [minL_snoc, e1]
    split <;> omega
theorem mkM_bd {slack : Int} (h0 : 0 ≤ slack) (l : List Rg) (hl : ∀ r ∈ l, r.tm ≤ 1000000) (t : Nat) : 0 ≤ mkM slack l t ∧ mkM slack l t ≤ 1000000 := by
  unfold mkM
  have : ∀ (m : List Rg) (x : Int), (∀ r ∈ m, r.tm ≤ 1000000) → 0 ≤ x → x ≤ 1000000 → 0 ≤ m.foldl (fun m r => max m (r.tm - slack)) x ∧ m.foldl (fun m r => max m (r.tm - slack)) x ≤ 1000000 := by
    intro m
    induction m with
    | nil => intro x _ h h'; exact ⟨h, h'⟩
    | cons r m ih => intro x hm h h'; have := hm r (by simp); exact ih _ (fun y hy => hm y (by simp [hy])) (by show 0 ≤ max x (r.tm - slack); omega) (by show max x (r.tm - slack) ≤ 1000000; omega)
  exact this _ 0 (fun r hr => hl r (List.mem_of_mem_take hr)) (by omega) (by omega)
theorem cL_bd {slack : Int} (h0 : 0 ≤ slack) (ins : List (List Rg)) (hl : ∀ l ∈ ins, ∀ r ∈ l, r.tm ≤ 1000000) (t a j : Nat) : ∀ x ∈ cL slack ins t a j, 0 ≤ x ∧ x ≤ 1000000 := by
  intro x hx
  unfold cL at hx
  rcases List.mem_append.1 hx with h | h
  · obtain ⟨l, h1, rfl⟩ := List.mem_map.1 h
    exact mkM_bd h0 l (hl l (List.mem_of_mem_take (List.mem_filter.1 h1).1)) _
  · obtain ⟨l, h1, rfl⟩ := List.mem_map.1 h
    exact mkM_bd h0 l (hl l (List.mem_of_mem_take (List.mem_of_mem_drop (List.mem_filter.1 h1).1))) _
theorem lstV_bd {slack : Int} (h0 : 0 ≤ slack) (ins : List (List Rg)) (hl : ∀ l ∈ ins, ∀ r ∈ l, r.tm ≤ 1000000) (t a j : Nat) : -1 ≤ lstV (cL slack ins t a j) ∧ lstV (cL slack ins t a j) ≤ 1000000 := by
  have hb := cL_bd h0 ins hl t a j
  unfold lstV
  split
  · omega
  · rename_i hne
    exact ⟨by have := minL_ge (n := 0) (fun x hx => (hb x hx).1) hne; omega, minL_le (fun x hx => (hb x hx).2) hne⟩
theorem docL_lst (slack : Int) (ins : List (List Rg)) (t a : Nat) (ha : a < ins.length) (hn : t < ins[a].length) : lstV (cL slack ins t a ins.length) = docL slack ins t a := by
  unfold lstV docL
  rw [if_neg]
  intro h
  have h1 := cL_succ slack ins t a a ha
  have hne : neB ins[a] = true := by
    unfold neB; cases hx : ins[a] with
    | nil => rw [hx] at hn; simp at hn
    | cons _ _ => rfl
  have : ∀ j, a < j → j ≤ ins.length → cL slack ins t a j ≠ [] := by
    intro j
    induction j with
    | zero => intro h; omega
    | succ j ih =>
      intro h2 h3 h4
      rw [cL_succ slack ins t a j (by omega)] at h4
      rcases Nat.lt_or_ge a j with h5 | h5
      · exact ih h5 (by omega) (List.append_eq_nil_iff.1 h4).1
      · have : j = a := by omega
        subst this
        rw [if_pos hne] at h4
        simp at h4
  exact this ins.length ha (Nat.le_refl _) h
end Go.Proofs.YtfpfaekbakilpaaDoor
