/- Marks of inputs side by side. Plain mathematics. -/
import Derived.Test.YtfpfaekbakilpaaDoorPureWc
namespace Go.Proofs.YtfpfaekbakilpaaDoor
set_option linter.unusedVariables false

/-- The least of some numbers. -/
def minL : List Int → Int
  | [] => 0
  | x :: l => l.foldl min x
theorem minL_snoc (x : Int) (l : List Int) (y : Int) : minL ((x :: l) ++ [y]) = min (minL (x :: l)) y := by
  show ((l ++ [y]).foldl min x) = min (l.foldl min x) y
  rw [List.foldl_append]; rfl
theorem minL_take (ms : List Int) (k : Nat) (h0 : 0 < k) (h : k < ms.length) : minL (ms.take (k + 1)) = min (minL (ms.take k)) ms[k] := by
  rw [List.take_succ_eq_append_getElem h]
  cases ms with
  | nil => simp at h
  | cons x l =>
    cases k with
    | zero => omega
    | succ k => rw [List.take_succ_cons]; exact minL_snoc x (l.take k) _
/-- The marks, and what was told; one record more of input i. -/
def mkStep (slack : Int) (s : List Int × List Int) (i : Nat) (t : Int) : List Int × List Int :=
  (s.1.set i (max (s.1.getD i 0) (t - slack)), s.2 ++ [minL (s.1.set i (max (s.1.getD i 0) (t - slack)))])
/-- One turn, over the first i inputs. -/
def mkTurn (slack : Int) (ins : List (List Rg)) (turn : Nat) (s : List Int × List Int) : Nat → List Int × List Int
  | 0 => s
  | i + 1 =>
    let s' := mkTurn slack ins turn s i
    match (ins.getD i [])[turn]? with
    | some r => mkStep slack s' i r.tm
    | none => s'
def mkAll (slack : Int) (ins : List (List Rg)) : Nat → List Int × List Int
  | 0 => (List.replicate ins.length 0, [])
  | t + 1 => mkTurn slack ins t (mkAll slack ins t) ins.length
def longL (ins : List (List Rg)) : Nat := ins.foldl (fun m l => max m l.length) 0
def leastP (slack : Int) (ins : List (List Rg)) : List Int := (mkAll slack ins (longL ins)).2
theorem mkStep_len (slack : Int) (s : List Int × List Int) (i : Nat) (t : Int) : (mkStep slack s i t).1.length = s.1.length ∧ (mkStep slack s i t).2.length = s.2.length + 1 := by
  unfold mkStep; simp
theorem mkTurn_len (slack : Int) (ins : List (List Rg)) (turn : Nat) (s : List Int × List Int) : ∀ i, (mkTurn slack ins turn s i).1.length = s.1.length ∧ (mkTurn slack ins turn s i).2.length ≤ s.2.length + i
  | 0 => ⟨rfl, Nat.le_refl _⟩
  | i + 1 => by
    obtain ⟨h1, h2⟩ := mkTurn_len slack ins turn s i
    unfold mkTurn
    simp only
    split
    · obtain ⟨h3, h4⟩ := mkStep_len slack (mkTurn slack ins turn s i) i ‹Rg›.tm
      exact ⟨h3.trans h1, by omega⟩
    · exact ⟨h1, by omega⟩
theorem mkAll_len (slack : Int) (ins : List (List Rg)) : ∀ t, (mkAll slack ins t).1.length = ins.length ∧ (mkAll slack ins t).2.length ≤ t * ins.length
  | 0 => by simp [mkAll]
  | t + 1 => by
    obtain ⟨h1, h2⟩ := mkAll_len slack ins t
    obtain ⟨h3, h4⟩ := mkTurn_len slack ins t (mkAll slack ins t) ins.length
    refine ⟨h3.trans h1, ?_⟩
    show (mkTurn slack ins t (mkAll slack ins t) ins.length).2.length ≤ _
    rw [Nat.add_mul]; omega
theorem longL_take (ins : List (List Rg)) (k : Nat) (h : k < ins.length) : longL (ins.take (k + 1)) = max (longL (ins.take k)) ins[k].length := by
  unfold longL; rw [List.take_succ_eq_append_getElem h, List.foldl_append]; rfl
theorem longL_le (ins : List (List Rg)) (n : Nat) (h : ∀ l ∈ ins, l.length ≤ n) : longL ins ≤ n := by
  have : ∀ (ins : List (List Rg)) (m : Nat), m ≤ n → (∀ l ∈ ins, l.length ≤ n) → ins.foldl (fun m l => max m l.length) m ≤ n := by
    intro ins
    induction ins with
    | nil => intro m hm _; exact hm
    | cons l ins ih => intro m hm hl; exact ih _ (by have := hl l (by simp); show max m l.length ≤ n; omega) (fun x hx => hl x (by simp [hx]))
  exact this ins 0 (Nat.zero_le _) h
end Go.Proofs.YtfpfaekbakilpaaDoor
