/- A gate, plain: what waits at each input, the greatest barriers, whose turn it is. -/
import Init
namespace Go.Proofs.YtneglanmigifhaaDoor

inductive It (α : Type) where
  | one (r : α)
  | bar (id : Int)
structure Gt (α : Type) where
  ws : List (List (It α))
  last : List Int
  nx : Nat
variable {α : Type}
/-- The barrier, the record that is the first that waits. -/
def hBar : List (It α) → Option Int
  | .bar id :: _ => some id
  | _ => none
def hRec : List (It α) → Option α
  | .one r :: _ => some r
  | _ => none
theorem hRec_some {l : List (It α)} {r : α} (h : hRec l = some r) : l = .one r :: l.tail ∧ hBar l = none := by
  match l, h with
  | .one r' :: l, h => simp [hRec] at h; subst h; exact ⟨rfl, rfl⟩
theorem hBar_some {l : List (It α)} {id : Int} (h : hBar l = some id) : l = .bar id :: l.tail ∧ hRec l = none := by
  match l, h with
  | .bar r' :: l, h => simp [hBar] at h; subst h; exact ⟨rfl, rfl⟩
theorem head_none {l : List (It α)} (h1 : hBar l = none) (h2 : hRec l = none) : l = [] := by
  match l, h1, h2 with
  | [], _, _ => rfl
/-- The fault of a record, of a barrier that comes. -/
def pushE (g : Gt α) (i : Int) : Nat := if i < 0 ∨ (g.ws.length : Int) ≤ i then 1 else if 400 ≤ (g.ws.getD i.toNat []).length then 4 else 0
def barE (g : Gt α) (i id : Int) : Nat := if i < 0 ∨ (g.ws.length : Int) ≤ i ∨ id < 1 then 1 else if 400 ≤ (g.ws.getD i.toNat []).length then 4 else if id ≤ g.last.getD i.toNat 0 then 5 else 0
def putG (g : Gt α) (i : Nat) (x : It α) : Gt α := { g with ws := g.ws.set i (g.ws.getD i [] ++ [x]) }
def lastG (g : Gt α) (i : Nat) (id : Int) : Gt α := { g with last := g.last.set i id }
/-- The first input, from nx + k on and round, at which a record is the first. -/
def findG (ws : List (List (It α))) (nx : Nat) : Nat → Nat → Option Nat
  | 0, _ => none
  | f + 1, k => if (hRec (ws.getD ((nx + k) % ws.length) [])).isSome then some ((nx + k) % ws.length) else findG ws nx f (k + 1)
def takeG (g : Gt α) : Option (α × Nat × Gt α) :=
  match findG g.ws g.nx g.ws.length 0 with
  | none => none
  | some i => match hRec (g.ws.getD i []) with
    | none => none
    | some r => some (r, i, { g with ws := g.ws.set i (g.ws.getD i []).tail, nx := (i + 1) % g.ws.length })
theorem findG_some {ws : List (List (It α))} {nx : Nat} : ∀ (f k : Nat) {i : Nat}, findG ws nx f k = some i → (hRec (ws.getD i [])).isSome = true ∧ ∃ j, k ≤ j ∧ j < k + f ∧ i = (nx + j) % ws.length ∧ ∀ j', k ≤ j' → j' < j → (hRec (ws.getD ((nx + j') % ws.length) [])).isSome = false
  | 0, k, i, h => by simp [findG] at h
  | f + 1, k, i, h => by
    rw [findG] at h
    split at h
    · rename_i hc
      injection h with h
      subst h
      exact ⟨hc, k, Nat.le_refl _, by omega, rfl, fun j' h1 h2 => by omega⟩
    · rename_i hc
      obtain ⟨h1, j, h2, h3, h4, h5⟩ := findG_some f (k + 1) h
      refine ⟨h1, j, by omega, by omega, h4, fun j' a b => ?_⟩
      by_cases e : j' = k
      · subst e; simpa using hc
      · exact h5 j' (by omega) b
theorem findG_none {ws : List (List (It α))} {nx : Nat} : ∀ (f k : Nat), findG ws nx f k = none → ∀ j, k ≤ j → j < k + f → (hRec (ws.getD ((nx + j) % ws.length) [])).isSome = false
  | 0, k, h, j, h1, h2 => by omega
  | f + 1, k, h, j, h1, h2 => by
    rw [findG] at h
    split at h
    · cases h
    · rename_i hc
      by_cases e : j = k
      · subst e; simpa using hc
      · exact findG_none f (k + 1) h j (by omega) (by omega)
/-- Every input is come by, once round. -/
theorem round_all {n nx i : Nat} (hi : i < n) (hn : nx < n) : ∃ j, j < n ∧ (nx + j) % n = i := by
  by_cases h : nx ≤ i
  · exact ⟨i - nx, by omega, by rw [show nx + (i - nx) = i by omega]; exact Nat.mod_eq_of_lt hi⟩
  · exact ⟨n - nx + i, by omega, by rw [show nx + (n - nx + i) = i + n by omega, Nat.add_mod_right]; exact Nat.mod_eq_of_lt hi⟩
theorem takeG_none {g : Gt α} (hn : g.nx < g.ws.length) (h : takeG g = none) : ∀ i, i < g.ws.length → hRec (g.ws.getD i []) = none := by
  intro i hi
  unfold takeG at h
  split at h
  · rename_i hf
    obtain ⟨j, h1, h2⟩ := round_all hi hn
    have := findG_none _ _ hf j (by omega) (by omega)
    rw [h2] at this
    cases hr : hRec (g.ws.getD i []) with
    | none => rfl
    | some r => rw [hr] at this; cases this
  · rename_i i' hf
    obtain ⟨h1, -⟩ := findG_some _ _ hf
    split at h
    · rename_i hr; rw [hr] at h1; cases h1
    · cases h
theorem takeG_some {g g' : Gt α} {r : α} {i : Nat} (h0 : 0 < g.ws.length) (h : takeG g = some (r, i, g')) :
    i < g.ws.length ∧ g.ws.getD i [] = .one r :: (g.ws.getD i []).tail ∧ g' = { g with ws := g.ws.set i (g.ws.getD i []).tail, nx := (i + 1) % g.ws.length } := by
  unfold takeG at h
  split at h
  · cases h
  · rename_i i' hf
    split at h
    · cases h
    · rename_i r' hr
      injection h with h
      simp only [Prod.mk.injEq] at h
      obtain ⟨rfl, rfl, rfl⟩ := h
      obtain ⟨-, j, -, -, h4, -⟩ := findG_some _ _ hf
      exact ⟨by rw [h4]; exact Nat.mod_lt _ h0, (hRec_some hr).1, rfl⟩
/-- Whose turn it is, and who has something, is served. -/
theorem takeG_here {g : Gt α} (hn : g.nx < g.ws.length) {r : α} (h : hRec (g.ws.getD g.nx []) = some r) :
    takeG g = some (r, g.nx, { g with ws := g.ws.set g.nx (g.ws.getD g.nx []).tail, nx := (g.nx + 1) % g.ws.length }) := by
  have hf : findG g.ws g.nx g.ws.length 0 = some g.nx := by
    obtain ⟨m, hm⟩ : ∃ m, g.ws.length = m + 1 := ⟨g.ws.length - 1, by omega⟩
    rw [hm, findG, Nat.add_zero, Nat.mod_eq_of_lt hn, h]
    rfl
  unfold takeG
  rw [hf]
  simp only [h]
/-- The least of the barriers, if all inputs are blocked. -/
def leastG : List (List (It α)) → Option Int
  | [] => none
  | [l] => hBar l
  | l :: ls => match hBar l, leastG ls with
    | some a, some b => some (if b < a then b else a)
    | _, _ => none
def boundG (g : Gt α) : Option (Int × Gt α) :=
  match leastG g.ws with
  | none => none
  | some m => some (m, { g with ws := g.ws.map (fun l => if hBar l = some m then l.tail else l) })
theorem leastG_same {c : Int} : ∀ {ws : List (List (It α))}, ws ≠ [] → (∀ l ∈ ws, hBar l = some c) → leastG ws = some c
  | [], h, _ => absurd rfl h
  | [l], _, h => h l (by simp)
  | l :: l' :: ls, _, h => by
    have h1 := h l (by simp)
    have h2 := leastG_same (ws := l' :: ls) (by simp) (fun x hx => h x (List.mem_cons_of_mem _ hx))
    simp [leastG, h1, h2]
theorem leastG_none : ∀ {ws : List (List (It α))} {l : List (It α)}, l ∈ ws → hBar l = none → leastG ws = none
  | [x], l, h, hb => by simp at h; subst h; exact hb
  | x :: x' :: ls, l, h, hb => by
    rcases List.mem_cons.1 h with rfl | h
    · simp [leastG, hb]
    · have := leastG_none (ws := x' :: ls) h hb
      simp only [leastG, this]
      split <;> simp_all
theorem leastG_snoc : ∀ {ws : List (List (It α))} (x : List (It α)), ws ≠ [] → leastG (ws ++ [x]) = (match leastG ws, hBar x with | some a, some b => some (if b < a then b else a) | _, _ => none)
  | [], x, h => absurd rfl h
  | [l], x, _ => by simp [leastG]
  | l :: l' :: ls, x, _ => by
    have ih := leastG_snoc (ws := l' :: ls) x (by simp)
    simp only [List.cons_append] at ih ⊢
    simp only [leastG, ih]
    cases hBar l with
    | none => rfl
    | some a =>
      cases leastG (l' :: ls) with
      | none => rfl
      | some b =>
        cases hBar x with
        | none => rfl
        | some c =>
          simp only [Option.some.injEq]
          by_cases h1 : c < b
          · by_cases h2 : b < a
            · rw [if_pos h1, if_pos h2, if_pos (by omega), if_pos h1]
            · rw [if_pos h1, if_neg h2]
          · by_cases h2 : b < a
            · rw [if_neg h1, if_pos h2, if_neg h1]
            · rw [if_neg h1, if_neg h2, if_neg (by omega)]
/-- How many wait. -/
def manyG (g : Gt α) : Nat := (g.ws.map List.length).sum


/-! What waits at an input that got a records, a barrier, b more, of which s were taken: ahead of Bound, behind it. -/
def lnA (f : Nat → α) (c : Int) (a b s : Nat) : List (It α) := (List.range' s (a - s)).map (fun k => It.one (f k)) ++ .bar c :: (List.range' a b).map (fun k => It.one (f k))
def lnB (f : Nat → α) (a b s : Nat) : List (It α) := (List.range' s (a + b - s)).map (fun k => It.one (f k))
theorem lnA_lt (f : Nat → α) (c : Int) {a b s : Nat} (h : s < a) : lnA f c a b s = .one (f s) :: lnA f c a b (s + 1) := by
  unfold lnA
  obtain ⟨m, hm⟩ : ∃ m, a - s = m + 1 := ⟨a - s - 1, by omega⟩
  rw [hm, List.range'_succ, show a - (s + 1) = m by omega]
  rfl
theorem lnA_eq (f : Nat → α) (c : Int) (a b : Nat) : lnA f c a b a = .bar c :: lnB f a b a := by
  unfold lnA lnB
  rw [Nat.sub_self, show a + b - a = b by omega]
  rfl
theorem lnB_lt (f : Nat → α) {a b s : Nat} (h : s < a + b) : lnB f a b s = .one (f s) :: lnB f a b (s + 1) := by
  unfold lnB
  obtain ⟨m, hm⟩ : ∃ m, a + b - s = m + 1 := ⟨a + b - s - 1, by omega⟩
  rw [hm, List.range'_succ, show a + b - (s + 1) = m by omega]
  rfl
theorem lnB_end (f : Nat → α) {a b s : Nat} (h : a + b ≤ s) : lnB f a b s = [] := by
  unfold lnB
  rw [show a + b - s = 0 by omega]
  rfl
/-- So many records, s of them taken (GateFair). -/
theorem lnB_many (f : Nat → α) (b s : Nat) : lnB f 0 b s = (List.range' s (b - s)).map (fun k => It.one (f k)) := by unfold lnB; rw [Nat.zero_add]
def sumN (n : Nat) (f : Nat → Nat) : Nat := ((List.range n).map f).sum
theorem sumN_succ (n : Nat) (f : Nat → Nat) : sumN (n + 1) f = sumN n f + f n := by simp [sumN, List.range_succ]
theorem sumN_le {f g : Nat → Nat} : ∀ n, (∀ i, i < n → f i ≤ g i) → sumN n f ≤ sumN n g
  | 0, _ => Nat.le_refl _
  | n + 1, h => by
    rw [sumN_succ, sumN_succ]
    exact Nat.add_le_add (sumN_le n (fun i hi => h i (by omega))) (h n (by omega))
theorem sum_ex {n : Nat} {s a : Nat → Nat} (h : sumN n s < sumN n a) : ∃ i, i < n ∧ s i < a i := by
  apply Classical.byContradiction
  intro hc
  have := sumN_le (f := a) (g := s) n (fun i hi => Classical.byContradiction fun h' => hc ⟨i, hi, by omega⟩)
  omega
def upN (s : Nat → Nat) (i : Nat) : Nat → Nat := fun j => if j = i then s i + 1 else s j
theorem sum_up (s : Nat → Nat) (i : Nat) : ∀ n, sumN n (upN s i) = if i < n then sumN n s + 1 else sumN n s
  | 0 => by simp [sumN]
  | n + 1 => by
    rw [sumN_succ, sumN_succ, sum_up s i n]
    unfold upN
    by_cases h1 : i < n
    · rw [if_pos h1, if_neg (by omega), if_pos (by omega)]; omega
    · by_cases h2 : n = i
      · rw [if_neg h1, if_pos h2, if_pos (by omega), h2]; omega
      · rw [if_neg h1, if_neg h2, if_neg (by omega)]
theorem sum_eq {n : Nat} {s a : Nat → Nat} (hl : ∀ i, i < n → s i ≤ a i) (h : sumN n a ≤ sumN n s) : ∀ i, i < n → s i = a i := by
  intro i hi
  apply Classical.byContradiction
  intro hc
  have h1 := hl i hi
  have h2 := sumN_le (f := upN s i) (g := a) n (fun j hj => by
    unfold upN
    by_cases e : j = i
    · subst e; rw [if_pos rfl]; omega
    · rw [if_neg e]; exact hl j hj)
  rw [sum_up, if_pos hi] at h2
  omega
/-- All inputs stand ahead of their barriers, s of each taken. -/
def StA (g : Gt α) (f : Nat → α) (c : Int) (n : Nat) (a b s : Nat → Nat) : Prop := g.ws.length = n ∧ g.nx < n ∧ ∀ i, i < n → g.ws.getD i [] = lnA f c (a i) (b i) (s i) ∧ s i ≤ a i
def StB (g : Gt α) (f : Nat → α) (n : Nat) (a b s : Nat → Nat) : Prop := g.ws.length = n ∧ g.nx < n ∧ ∀ i, i < n → g.ws.getD i [] = lnB f (a i) (b i) (s i) ∧ s i ≤ a i + b i
theorem getD_set {β : Type} (l : List β) (i j : Nat) (x d : β) (h : i < l.length) : (l.set i x).getD j d = if j = i then x else l.getD j d := by
  simp only [List.getD_eq_getElem?_getD, List.getElem?_set]
  by_cases e : j = i
  · subst e; simp [h]
  · rw [if_neg (fun h' => e h'.symm), if_neg e]
theorem stA_take {g : Gt α} {f : Nat → α} {c : Int} {n : Nat} {a b s : Nat → Nat} (h : StA g f c n a b s) (hl : sumN n s < sumN n a) :
    ∃ i g', takeG g = some (f (s i), i, g') ∧ i < n ∧ s i < a i ∧ StA g' f c n a b (upN s i) := by
  obtain ⟨h1, h2, h3⟩ := h
  cases ht : takeG g with
  | none =>
    obtain ⟨i, hi, hs⟩ := sum_ex hl
    have := takeG_none (by omega) ht i (by omega)
    rw [(h3 i hi).1, lnA_lt f c hs] at this
    cases this
  | some x =>
    obtain ⟨r, i, g'⟩ := x
    obtain ⟨hi, hw, hg⟩ := takeG_some (by omega) ht
    have hi' : i < n := by omega
    obtain ⟨e1, e2⟩ := h3 i hi'
    have hs : s i < a i := by
      apply Classical.byContradiction
      intro hc
      have : s i = a i := by omega
      rw [e1, this, lnA_eq] at hw
      cases hw
    rw [e1, lnA_lt f c hs] at hw
    simp only [List.cons.injEq, It.one.injEq] at hw
    obtain ⟨rfl, -⟩ := hw
    refine ⟨i, g', rfl, hi', hs, ?_⟩
    subst hg
    refine ⟨by simpa using h1, by simp only; rw [h1]; exact Nat.mod_lt _ (by omega), fun j hj => ?_⟩
    simp only
    rw [getD_set _ _ _ _ _ hi]
    unfold upN
    by_cases e : j = i
    · subst e
      rw [if_pos rfl, if_pos rfl, e1, lnA_lt f c hs]
      exact ⟨rfl, hs⟩
    · rw [if_neg e, if_neg e]; exact h3 j hj
theorem stA_unbound {g : Gt α} {f : Nat → α} {c : Int} {n : Nat} {a b s : Nat → Nat} (h : StA g f c n a b s) (hl : sumN n s < sumN n a) : boundG g = none := by
  obtain ⟨h1, h2, h3⟩ := h
  obtain ⟨i, hi, hs⟩ := sum_ex hl
  have e := (h3 i hi).1
  have hm : g.ws.getD i [] ∈ g.ws := by
    rw [List.getD_eq_getElem?_getD, List.getElem?_eq_getElem (by omega)]
    exact List.getElem_mem _
  unfold boundG
  rw [leastG_none hm (by rw [e, lnA_lt f c hs]; rfl)]
theorem stA_end {g : Gt α} {f : Nat → α} {c : Int} {n : Nat} {a b s : Nat → Nat} (h : StA g f c n a b s) (h0 : 0 < n) (hl : sumN n a ≤ sumN n s) :
    takeG g = none ∧ ∃ g', boundG g = some (c, g') ∧ StB g' f n a b s := by
  obtain ⟨h1, h2, h3⟩ := h
  have hs := sum_eq (fun i hi => (h3 i hi).2) hl
  have hb : ∀ i, i < n → g.ws.getD i [] = .bar c :: lnB f (a i) (b i) (s i) := fun i hi => by
    rw [(h3 i hi).1, hs i hi, lnA_eq]
  constructor
  · cases ht : takeG g with
    | none => rfl
    | some x =>
      obtain ⟨r, i, g'⟩ := x
      obtain ⟨hi, hw, -⟩ := takeG_some (by omega) ht
      rw [hb i (by omega)] at hw
      cases hw
  · have hall : ∀ l ∈ g.ws, hBar l = some c := fun l hl => by
      obtain ⟨i, hi, rfl⟩ := List.getElem_of_mem hl
      have := hb i (by omega)
      rw [List.getD_eq_getElem?_getD, List.getElem?_eq_getElem hi, Option.getD_some] at this
      rw [this]; rfl
    have hne : g.ws ≠ [] := fun e => by rw [e] at h1; simp at h1; omega
    refine ⟨{ g with ws := g.ws.map (fun l => if hBar l = some c then l.tail else l) }, by unfold boundG; rw [leastG_same hne hall], by simpa using h1, h2, fun i hi => ?_⟩
    have := hb i hi
    rw [List.getD_eq_getElem?_getD, List.getElem?_eq_getElem (by omega), Option.getD_some] at this
    simp only [List.getD_eq_getElem?_getD, List.getElem?_map, List.getElem?_eq_getElem (show i < g.ws.length by omega), Option.map_some, Option.getD_some, this]
    refine ⟨by simp [hBar], by have := hs i hi; omega⟩
theorem stB_take {g : Gt α} {f : Nat → α} {n : Nat} {a b s : Nat → Nat} (h : StB g f n a b s) {r : α} {i : Nat} {g' : Gt α} (ht : takeG g = some (r, i, g')) :
    i < n ∧ r = f (s i) ∧ s i < a i + b i ∧ StB g' f n a b (upN s i) := by
  obtain ⟨h1, h2, h3⟩ := h
  obtain ⟨hi, hw, hg⟩ := takeG_some (by omega) ht
  have hi' : i < n := by omega
  obtain ⟨e1, e2⟩ := h3 i hi'
  have hs : s i < a i + b i := by
    apply Classical.byContradiction
    intro hc
    rw [e1, lnB_end f (by omega)] at hw
    cases hw
  rw [e1, lnB_lt f hs] at hw
  simp only [List.cons.injEq, It.one.injEq] at hw
  obtain ⟨hr, -⟩ := hw
  refine ⟨hi', hr.symm, hs, ?_⟩
  subst hg
  refine ⟨by simpa using h1, by simp only; rw [h1]; exact Nat.mod_lt _ (by omega), fun j hj => ?_⟩
  simp only
  rw [getD_set _ _ _ _ _ hi]
  unfold upN
  by_cases e : j = i
  · subst e
    rw [if_pos rfl, if_pos rfl, e1, lnB_lt f hs]
    exact ⟨rfl, hs⟩
  · rw [if_neg e, if_neg e]; exact h3 j hj
theorem stB_end {g : Gt α} {f : Nat → α} {n : Nat} {a b s : Nat → Nat} (h : StB g f n a b s) (ht : takeG g = none) : ∀ i, i < n → s i = a i + b i ∧ g.ws.getD i [] = [] := by
  obtain ⟨h1, h2, h3⟩ := h
  intro i hi
  obtain ⟨e1, e2⟩ := h3 i hi
  have := takeG_none (by omega) ht i (by omega)
  have hs : ¬ s i < a i + b i := fun hs => by rw [e1, lnB_lt f hs] at this; cases this
  exact ⟨by omega, by rw [e1, lnB_end f (by omega)]⟩
/-- GateFair: whose turn it is is served, and the next one's turn comes. -/
theorem fair_take {g : Gt α} {f : Nat → α} {n : Nat} {a b s : Nat → Nat} (h : StB g f n a b s) (hs : s g.nx < a g.nx + b g.nx) :
    ∃ g', takeG g = some (f (s g.nx), g.nx, g') ∧ StB g' f n a b (upN s g.nx) ∧ g'.nx = (g.nx + 1) % n := by
  obtain ⟨h1, h2, h3⟩ := id h
  have ht := takeG_here (g := g) (by omega) (r := f (s g.nx)) (by rw [(h3 _ h2).1, lnB_lt f hs]; rfl)
  exact ⟨_, ht, (stB_take h ht).2.2.2, by simp only; rw [h1]⟩
end Go.Proofs.YtneglanmigifhaaDoor
