/- What package audit answers, plain: the document's Check, Judge. -/
import Derived.Test.YthcgjbpiiodlgaaDoorPureMp
namespace Go.Proofs.YthcgjbpiiodlgaaDoor
open Mp
set_option linter.unusedVariables false

abbrev Lne := ByteArray × List Int
/-- How far two rows agree. -/
def lcpP : List Int → List Int → Nat
  | x :: w, y :: g => if x = y then lcpP w g + 1 else 0
  | _, _ => 0
/-- Each of g's stands, at least as often, in w. -/
def crossP (w g : List Int) : Bool := g.all fun x => decide (g.count x ≤ w.count x)
/-- What is wrong with one key's numbers: the kind and the place; kind 0: nothing is. -/
def wrongP (w g : List Int) : Nat × Nat :=
  if lcpP w g < w.length ∧ lcpP w g < g.length then
    if crossP (w.drop (lcpP w g)) (g.drop (lcpP w g)) = true then (4, lcpP w g)
    else if 0 < lcpP w g ∧ g[lcpP w g]? = w[lcpP w g - 1]? then (2, lcpP w g) else (3, lcpP w g)
  else if lcpP w g < g.length then (2, lcpP w g) else if lcpP w g < w.length then (1, lcpP w g) else (0, 0)
/-- The document's Judge, of lines that rise. -/
def judgeP : List Lne → List Lne → Nat × ByteArray × Nat
  | [], [] => (0, ByteArray.empty, 0)
  | [], g :: _ => (3, g.1, 0)
  | w :: W, [] => if (wrongP w.2 []).1 = 0 then judgeP W [] else ((wrongP w.2 []).1, w.1, (wrongP w.2 []).2)
  | w :: W, g :: G =>
    if kb g.1 < kb w.1 then (3, g.1, 0)
    else if g.1 = w.1 then (if (wrongP w.2 g.2).1 = 0 then judgeP W G else ((wrongP w.2 g.2).1, w.1, (wrongP w.2 g.2).2))
    else (if (wrongP w.2 []).1 = 0 then judgeP W (g :: G) else ((wrongP w.2 []).1, w.1, (wrongP w.2 []).2))
termination_by W G => W.length + G.length

/-- The errors of lines, line by line: behind the key p. -/
def lineE : Option ByteArray → List Lne → Nat
  | _, [] => 0
  | p, l :: L => if 400 < l.2.length then 4 else if (∃ k, p = some k ∧ ¬ kb k < kb l.1) then 5 else if l.2 = [] then 3 else lineE (some l.1) L
open Classical in
noncomputable def linesE (L : List Lne) : Nat := if 400 < L.length then 4 else lineE none L
def OkL (l : Lne) : Prop := l.2 ≠ [] ∧ l.2.length ≤ 400

theorem lcp_self : ∀ w : List Int, lcpP w w = w.length
  | [] => rfl
  | x :: w => by simp [lcpP, lcp_self w]
theorem lcp_pre : ∀ (w v : List Int), lcpP w (w ++ v) = w.length
  | [], [] => rfl
  | [], y :: v => rfl
  | x :: w, v => by simp [lcpP, lcp_pre w v]
theorem lcp_pre' : ∀ (w v : List Int), lcpP (w ++ v) w = w.length
  | [], [] => rfl
  | [], y :: v => rfl
  | x :: w, v => by simp [lcpP, lcp_pre' w v]
theorem lcp_mid : ∀ (u : List Int) (x y : Int) (v z : List Int), x ≠ y → lcpP (u ++ x :: v) (u ++ y :: z) = u.length
  | [], x, y, v, z, h => by simp [lcpP, h]
  | a :: u, x, y, v, z, h => by simp [lcpP, lcp_mid u x y v z h]
theorem lcp_le : ∀ (w g : List Int), lcpP w g ≤ w.length ∧ lcpP w g ≤ g.length
  | [], [] => ⟨Nat.le_refl _, Nat.le_refl _⟩
  | [], y :: g => ⟨Nat.le_refl _, Nat.zero_le _⟩
  | x :: w, [] => ⟨Nat.zero_le _, Nat.le_refl _⟩
  | x :: w, y :: g => by
    have := lcp_le w g
    unfold lcpP
    split <;> simp <;> omega
theorem wrong_self (w : List Int) : wrongP w w = (0, 0) := by
  unfold wrongP
  rw [lcp_self]
  simp
theorem wrong_long (w : List Int) (x : Int) (v : List Int) : wrongP w (w ++ x :: v) = (2, w.length) := by
  unfold wrongP
  rw [lcp_pre]
  simp
theorem wrong_short (w : List Int) (x : Int) (v : List Int) : wrongP (w ++ x :: v) w = (1, w.length) := by
  unfold wrongP
  rw [lcp_pre']
  simp
theorem wrong_nil {w : List Int} (h : w ≠ []) : wrongP w [] = (1, 0) := by
  cases w with
  | nil => exact absurd rfl h
  | cons x w => exact wrong_short [] x w
theorem wrong_swap (u : List Int) (x y : Int) (v : List Int) (h : x ≠ y) : wrongP (u ++ x :: y :: v) (u ++ y :: x :: v) = (4, u.length) := by
  unfold wrongP
  rw [lcp_mid u x y _ _ h]
  have h1 : u.length < (u ++ x :: y :: v).length ∧ u.length < (u ++ y :: x :: v).length := by simp
  rw [if_pos h1]
  have h2 : crossP ((u ++ x :: y :: v).drop u.length) ((u ++ y :: x :: v).drop u.length) = true := by
    simp only [List.drop_left]
    unfold crossP
    rw [List.all_eq_true]
    intro z _
    have : List.count z (y :: x :: v) = List.count z (x :: y :: v) := List.Perm.count_eq (List.Perm.swap x y v) z
    rw [this]
    simp
  rw [if_pos h2]
/-- Fine of one's own. -/
theorem judge_self : ∀ L : List Lne, judgeP L L = (0, ByteArray.empty, 0)
  | [] => by simp [judgeP]
  | l :: L => by
    rw [judgeP, if_neg (kb_irr _), if_pos rfl, wrong_self]
    simp [judge_self L]
/-- One key's numbers changed: it is told of that key. -/
theorem judge_turn : ∀ (A : List Lne) (k : ByteArray) (w g : List Int) (B B' : List Lne), (wrongP w g).1 ≠ 0 → judgeP (A ++ (k, w) :: B) (A ++ (k, g) :: B') = ((wrongP w g).1, k, (wrongP w g).2)
  | [], k, w, g, B, B', h => by
    rw [List.nil_append, List.nil_append, judgeP, if_neg (kb_irr _), if_pos rfl, if_neg h]
  | a :: A, k, w, g, B, B', h => by
    rw [List.cons_append, List.cons_append, judgeP, if_neg (kb_irr _), if_pos rfl, wrong_self]
    simp [judge_turn A k w g B B' h]
/-- One key left out: it is told of that key. -/
theorem judge_gone : ∀ (A : List Lne) (k : ByteArray) (w : List Int) (B B' : List Lne), w ≠ [] → (∀ b ∈ B', kb k < kb b.1) → judgeP (A ++ (k, w) :: B) (A ++ B') = (1, k, 0)
  | [], k, w, B, [], h, hB => by
    rw [List.nil_append, List.nil_append, judgeP, wrong_nil h]
    simp
  | [], k, w, B, b :: B', h, hB => by
    have h1 := hB b (by simp)
    have h2 : ¬ kb b.1 < kb k := fun h2 => kb_irr _ (kb_trans h1 h2)
    have h3 : b.1 ≠ k := fun e => kb_irr k (by rw [e] at h1; exact h1)
    rw [List.nil_append, List.nil_append, judgeP, if_neg h2, if_neg h3, wrong_nil h]
    simp
  | a :: A, k, w, B, B', h, hB => by
    rw [List.cons_append, List.cons_append, judgeP, if_neg (kb_irr _), if_pos rfl, wrong_self]
    simp [judge_gone A k w B B' h hB]
end Go.Proofs.YthcgjbpiiodlgaaDoor
