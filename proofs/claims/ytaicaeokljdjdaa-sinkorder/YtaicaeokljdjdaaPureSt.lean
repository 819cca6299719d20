/- What SinkTwice and SinkOrder do, plain. -/
import Derived.Test.YtaicaeokljdjdaaPureSk
namespace Go.Proofs.Ytaicaeokljdjdaa
set_option linter.unusedVariables false
section
variable {α : Type} (f : Nat → α)
/-- Transactions of so many records each, of their numbers. -/
def trsF (i : Nat) : List Nat → List (Int × List α)
  | [] => []
  | c :: l => (((i + 1 : Nat) : Int), List.replicate c (f i)) :: trsF (i + 1) l
theorem trsF_append : ∀ (a b : List Nat) (i : Nat), trsF f i (a ++ b) = trsF f i a ++ trsF f (i + a.length) b
  | [], b, i => by simp [trsF]
  | c :: a, b, i => by
    rw [List.cons_append, trsF, trsF, trsF_append a b (i + 1), List.cons_append, List.length_cons, show i + 1 + a.length = i + (a.length + 1) from by omega]
theorem trsF_len : ∀ (a : List Nat) (i : Nat), (trsF f i a).length = a.length
  | [], i => rfl
  | c :: a, i => by rw [trsF, List.length_cons, trsF_len a, List.length_cons]
theorem trsF_ids : ∀ (a : List Nat) (i : Nat), ∀ t ∈ trsF f i a, (i : Int) < t.1 ∧ t.1 ≤ ((i + a.length : Nat) : Int)
  | [], i, t, h => by simp [trsF] at h
  | c :: a, i, t, h => by
    rw [trsF, List.mem_cons] at h
    rcases h with rfl | h
    · simp only [List.length_cons]; omega
    · have := trsF_ids a (i + 1) t h
      simp only [List.length_cons]; omega
theorem trsF_many : ∀ (a : List Nat) (i : Nat), many (trsF f i a) = a.sum
  | [], i => rfl
  | c :: a, i => by rw [trsF, many, trsF_many a, List.sum_cons]; simp
theorem trsF_flat : ∀ (a : List Nat) (i : Nat), ((trsF f i a).flatMap Prod.snd).length = a.sum
  | [], i => rfl
  | c :: a, i => by rw [trsF, List.flatMap_cons, List.length_append, trsF_flat a, List.sum_cons]; simp
theorem trsF_comm (a : List Nat) (u : Nat) (hu : u ≤ a.length) (id : Int) (h1 : (u : Int) ≤ id) (h2 : u < a.length → (id < ((u + 1 : Nat) : Int))) :
    comm id (trsF f 0 a) = ((trsF f 0 (a.take u)).flatMap Prod.snd, trsF f u (a.drop u)) := by
  have e : trsF f 0 a = trsF f 0 (a.take u) ++ trsF f u (a.drop u) := by
    have := trsF_append f (a.take u) (a.drop u) 0
    rw [List.take_append_drop, List.length_take, Nat.min_eq_left hu, Nat.zero_add] at this
    exact this
  rw [e]
  refine comm_split id _ _ (fun t ht => ?_) (fun t ht => ?_)
  · have := (trsF_ids f _ 0 t ht).2
    rw [List.length_take] at this; omega
  · have h3 := trsF_ids f _ u t ht
    have : u < a.length := by
      rcases Nat.lt_or_ge u a.length with h | h
      · exact h
      · rw [List.drop_eq_nil_of_le h] at ht; simp [trsF] at ht
    have := h2 this
    omega
theorem trsF_none (a : List Nat) (u : Nat) (id : Int) (h : id ≤ (u : Int)) : comm id (trsF f u a) = ([], trsF f u a) :=
  comm_none id _ fun t ht => by have := (trsF_ids f a u t ht).1; omega
theorem trsF_rise (g : α → Int) (hg : ∀ i, g (f i) = (i : Int)) : ∀ (a : List Nat) (i : Nat), ((trsF f i a).flatMap Prod.snd).Pairwise (fun x y => g x ≤ g y) ∧ ∀ x ∈ (trsF f i a).flatMap Prod.snd, (i : Int) ≤ g x
  | [], i => by simp [trsF]
  | c :: a, i => by
    obtain ⟨h1, h2⟩ := trsF_rise g hg a (i + 1)
    rw [trsF, List.flatMap_cons]
    refine ⟨List.pairwise_append.2 ⟨?_, h1, fun x hx y hy => ?_⟩, fun x hx => ?_⟩
    · exact List.pairwise_replicate.2 (.inr (Int.le_refl _))
    · have := h2 y hy
      rw [List.eq_of_mem_replicate hx, hg]; omega
    · rcases List.mem_append.1 hx with h | h
      · rw [List.eq_of_mem_replicate h, hg]; omega
      · have := h2 x h; omega
end
theorem pw_next {α : Type} {R : α → α → Prop} {l : List α} (h : l.Pairwise R) (i : Nat) (hi : i + 1 < l.length) : R (l[i]'(by omega)) l[i + 1] := List.pairwise_iff_getElem.1 h i (i + 1) (by omega) hi (by omega)
theorem sum_take_le (l : List Nat) : ∀ k, (l.take k).sum ≤ l.sum := by
  induction l with
  | nil => simp
  | cons x l ih => intro k; cases k with
    | zero => simp
    | succ k => simp only [List.take_succ_cons, List.sum_cons]; have := ih k; omega
theorem sum_take_succ (l : List Nat) (k : Nat) (h : k < l.length) : (l.take (k + 1)).sum = (l.take k).sum + l[k] := by
  rw [List.take_succ_eq_append_getElem h, List.sum_append]; simp
theorem sum_bound (l : List Nat) (m : Nat) (h : ∀ x ∈ l, x ≤ m) : l.sum ≤ l.length * m := by
  induction l with
  | nil => simp
  | cons x l ih =>
    have := ih (fun y hy => h y (by simp [hy]))
    have := h x (by simp)
    rw [List.sum_cons, List.length_cons, Nat.add_mul]; omega
end Go.Proofs.Ytaicaeokljdjdaa
