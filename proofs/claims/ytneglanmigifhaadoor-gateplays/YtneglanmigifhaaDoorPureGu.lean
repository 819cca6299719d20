/- A gate's loops, plain. -/
import Derived.Test.YtneglanmigifhaaDoorPureGt
namespace Go.Proofs.YtneglanmigifhaaDoor
variable {α : Type}
theorem mod_add (t a n : Nat) : (t % n + a) % n = (t + a) % n := by rw [Nat.add_mod, Nat.mod_mod, ← Nat.add_mod]
theorem findG_at {ws : List (List (It α))} {nx : Nat} : ∀ (f k a : Nat), (∀ j, k ≤ j → j < k + a → hRec (ws.getD ((nx + j) % ws.length) []) = none) → a < f → (hRec (ws.getD ((nx + (k + a)) % ws.length) [])).isSome = true → findG ws nx f k = some ((nx + (k + a)) % ws.length)
  | 0, k, a, _, h, _ => by omega
  | f + 1, k, 0, _, _, h => by rw [findG, if_pos (by simpa using h)]; rfl
  | f + 1, k, a + 1, h1, h2, h3 => by
    rw [findG, h1 k (Nat.le_refl _) (by omega)]
    simp only [Option.isSome_none, Bool.false_eq_true, if_false]
    rw [findG_at f (k + 1) a (fun j h4 h5 => h1 j (by omega) (by omega)) (by omega) (by rw [show k + 1 + a = k + (a + 1) by omega]; exact h3), show k + 1 + a = k + (a + 1) by omega]
theorem findG_no {ws : List (List (It α))} {nx : Nat} : ∀ (f k : Nat), (∀ j, k ≤ j → j < k + f → hRec (ws.getD ((nx + j) % ws.length) []) = none) → findG ws nx f k = none
  | 0, k, _ => rfl
  | f + 1, k, h => by
    rw [findG, h k (Nat.le_refl _) (by omega)]
    simp only [Option.isSome_none, Bool.false_eq_true, if_false]
    exact findG_no f (k + 1) (fun j h4 h5 => h j (by omega) (by omega))
/-- What Next takes, found at the a-th look. -/
theorem takeG_at {g : Gt α} {t a : Nat} {r : α} (hx : g.nx = t % g.ws.length) (h1 : ∀ j, j < a → hRec (g.ws.getD ((t + j) % g.ws.length) []) = none) (ha : a < g.ws.length) (h2 : hRec (g.ws.getD ((t + a) % g.ws.length) []) = some r) :
    takeG g = some (r, (t + a) % g.ws.length, { g with ws := g.ws.set ((t + a) % g.ws.length) (g.ws.getD ((t + a) % g.ws.length) []).tail, nx := ((t + a) % g.ws.length + 1) % g.ws.length }) := by
  have e : ∀ j, (g.nx + j) % g.ws.length = (t + j) % g.ws.length := fun j => by rw [hx, mod_add]
  have hf := findG_at (ws := g.ws) (nx := g.nx) g.ws.length 0 a (fun j _ h4 => by rw [e]; exact h1 j (by omega)) ha (by rw [Nat.zero_add, e, h2]; rfl)
  rw [Nat.zero_add, e] at hf
  unfold takeG
  rw [hf]
  simp only [h2]
theorem takeG_no {g : Gt α} {t : Nat} (hx : g.nx = t % g.ws.length) (h1 : ∀ j, j < g.ws.length → hRec (g.ws.getD ((t + j) % g.ws.length) []) = none) : takeG g = none := by
  have e : ∀ j, (g.nx + j) % g.ws.length = (t + j) % g.ws.length := fun j => by rw [hx, mod_add]
  have hf := findG_no (ws := g.ws) (nx := g.nx) g.ws.length 0 (fun j _ h4 => by rw [e]; exact h1 j (by omega))
  unfold takeG
  rw [hf]
/-- The least so far. -/
theorem getD_of {β : Type} {l : List β} {k : Nat} (h : k < l.length) (d : β) : l.getD k d = l[k] := by rw [List.getD_eq_getElem?_getD, List.getElem?_eq_getElem h]; rfl
theorem least_one {ws : List (List (It α))} (h : 0 < ws.length) : leastG (ws.take 1) = hBar (ws.getD 0 []) := by
  match ws, h with
  | l :: ls, _ => simp [leastG]
theorem least_next {ws : List (List (It α))} {k : Nat} (h0 : 0 < k) (h : k < ws.length) {a b : Int} (ha : leastG (ws.take k) = some a) (hb : hBar (ws.getD k []) = some b) : leastG (ws.take (k + 1)) = some (if b < a then b else a) := by
  rw [List.take_succ_eq_append_getElem h, leastG_snoc _ (fun e => by have := congrArg List.length e; rw [List.length_take] at this; simp only [List.length_nil] at this; omega), ha, ← getD_of h [], hb]
theorem least_all {ws : List (List (It α))} {k : Nat} (hk : ws.length ≤ k) : ws.take k = ws := List.take_of_length_le hk
theorem mem_getD {ws : List (List (It α))} {i : Nat} (h : i < ws.length) : ws.getD i [] ∈ ws := by rw [getD_of h]; exact List.getElem_mem h
theorem boundG_no {g : Gt α} {i : Nat} (hi : i < g.ws.length) (h : hBar (g.ws.getD i []) = none) : boundG g = none := by
  unfold boundG; rw [leastG_none (mem_getD hi) h]
/-- Heads that are cut off, so far. -/
def cutH (m : Int) (l : List (It α)) : List (It α) := if hBar l = some m then l.tail else l
def cutK (m : Int) (ws : List (List (It α))) (k : Nat) : List (List (It α)) := (ws.take k).map (cutH m) ++ ws.drop k
theorem cutK_len (m : Int) (ws : List (List (It α))) (k : Nat) : (cutK m ws k).length = ws.length := by unfold cutK; simp; omega
theorem cutK_zero (m : Int) (ws : List (List (It α))) : cutK m ws 0 = ws := by simp [cutK]
theorem cutK_end (m : Int) (ws : List (List (It α))) {k : Nat} (h : ws.length ≤ k) : cutK m ws k = ws.map (cutH m) := by simp [cutK, List.take_of_length_le h, List.drop_of_length_le h]
theorem cutK_at (m : Int) (ws : List (List (It α))) {k : Nat} (h : k < ws.length) : (cutK m ws k).getD k [] = ws.getD k [] := by
  unfold cutK
  rw [List.getD_eq_getElem?_getD, List.getElem?_append_right (by simp; omega)]
  simp only [List.length_map, List.length_take, Nat.min_eq_left (Nat.le_of_lt h), Nat.sub_self, List.getElem?_drop, Nat.add_zero]
  rw [List.getD_eq_getElem?_getD]
theorem cutK_next (m : Int) (ws : List (List (It α))) {k : Nat} (h : k < ws.length) : cutK m ws (k + 1) = (cutK m ws k).set k (cutH m (ws.getD k [])) := by
  unfold cutK
  rw [List.take_succ_eq_append_getElem h, List.map_append, List.append_assoc, List.set_append_right _ _ (by simp; omega)]
  congr 1
  simp only [List.length_map, List.length_take, Nat.min_eq_left (Nat.le_of_lt h), Nat.sub_self]
  rw [List.drop_eq_getElem_cons h, List.set_cons_zero, getD_of h]
  rfl
theorem cutH_not {m : Int} {l : List (It α)} (h : hBar l ≠ some m) : cutH m l = l := if_neg h
theorem cutH_yes {m : Int} {l : List (It α)} (h : hBar l = some m) : cutH m l = l.tail := if_pos h
theorem set_self {β : Type} (l : List β) (k : Nat) (d : β) (h : k < l.length) : l.set k (l.getD k d) = l := by rw [getD_of h]; simp
theorem boundG_is {g : Gt α} {m : Int} (h : leastG g.ws = some m) : boundG g = some (m, { g with ws := g.ws.map (cutH m) }) := by
  unfold boundG; rw [h]; rfl
/-- How many wait, so far. -/
def manyK (ws : List (List (It α))) (k : Nat) : Nat := ((ws.take k).map List.length).sum
theorem manyK_next (ws : List (List (It α))) {k : Nat} (h : k < ws.length) : manyK ws (k + 1) = manyK ws k + (ws.getD k []).length := by
  unfold manyK; rw [List.take_succ_eq_append_getElem h, getD_of h, List.map_append, List.sum_append]; simp
theorem manyK_end (g : Gt α) {k : Nat} (h : g.ws.length ≤ k) : manyK g.ws k = manyG g := by unfold manyK manyG; rw [List.take_of_length_le h]
theorem manyK_le {ws : List (List (It α))} (hl : ∀ i, i < ws.length → (ws.getD i []).length ≤ 400) : ∀ k, k ≤ ws.length → manyK ws k ≤ 400 * k
  | 0, _ => by simp [manyK]
  | k + 1, h => by
    have := manyK_le hl k (by omega)
    have h2 := hl k (by omega)
    rw [manyK_next ws (by omega)]; omega
end Go.Proofs.YtneglanmigifhaaDoor
