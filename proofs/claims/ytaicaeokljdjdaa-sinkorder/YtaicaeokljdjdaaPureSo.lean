/- What SinkOrder does, plain. -/
import Derived.Test.YtaicaeokljdjdaaPureSt
namespace Go.Proofs.Ytaicaeokljdjdaa
set_option linter.unusedVariables false
section
variable {α : Type} (f : Nat → α)
def seqR (n c : Nat) : List α := (List.range' n c).map f
theorem seqR_len (n c : Nat) : (seqR f n c).length = c := by simp [seqR]
theorem seqR_succ (n c : Nat) : seqR f n c ++ [f (n + c)] = seqR f n (c + 1) := by
  simp only [seqR, List.range'_concat, List.map_append, List.map_cons, List.map_nil, Nat.one_mul]
theorem seqR_app (n a b : Nat) : seqR f n a ++ seqR f (n + a) b = seqR f n (a + b) := by
  simp only [seqR, ← List.map_append]
  rw [List.range'_append_1]
theorem seqR_at (n c i : Nat) (h : i < c) : (seqR f n c)[i]'(by simp [seqR, h]) = f (n + i) := by simp [seqR]
def trsG (i n : Nat) : List Nat → List (Int × List α)
  | [] => []
  | c :: l => (((i + 1 : Nat) : Int), seqR f n c) :: trsG (i + 1) (n + c) l
theorem trsG_append : ∀ (a b : List Nat) (i n : Nat), trsG f i n (a ++ b) = trsG f i n a ++ trsG f (i + a.length) (n + a.sum) b
  | [], b, i, n => by simp [trsG]
  | c :: a, b, i, n => by
    rw [List.cons_append, trsG, trsG, trsG_append a b, List.cons_append, List.length_cons, List.sum_cons, show i + 1 + a.length = i + (a.length + 1) from by omega, show n + c + a.sum = n + (c + a.sum) from by omega]
theorem trsG_len : ∀ (a : List Nat) (i n : Nat), (trsG f i n a).length = a.length
  | [], i, n => rfl
  | c :: a, i, n => by rw [trsG, List.length_cons, trsG_len a, List.length_cons]
theorem trsG_ids : ∀ (a : List Nat) (i n : Nat), ∀ t ∈ trsG f i n a, t.1 ≤ ((i + a.length : Nat) : Int)
  | [], i, n, t, h => by simp [trsG] at h
  | c :: a, i, n, t, h => by
    rw [trsG, List.mem_cons] at h
    rcases h with rfl | h
    · simp only [List.length_cons]; omega
    · have := trsG_ids a (i + 1) (n + c) t h
      simp only [List.length_cons]; omega
theorem trsG_flat : ∀ (a : List Nat) (i n : Nat), (trsG f i n a).flatMap Prod.snd = seqR f n a.sum
  | [], i, n => rfl
  | c :: a, i, n => by rw [trsG, List.flatMap_cons, trsG_flat a, List.sum_cons]; exact seqR_app f n c a.sum
theorem trsG_many : ∀ (a : List Nat) (i n : Nat), many (trsG f i n a) = a.sum
  | [], i, n => rfl
  | c :: a, i, n => by rw [trsG, many, trsG_many a, List.sum_cons, seqR_len]
end
end Go.Proofs.Ytaicaeokljdjdaa
