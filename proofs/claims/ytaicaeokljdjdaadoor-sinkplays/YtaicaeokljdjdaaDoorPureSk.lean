/- A sink, plain. -/
namespace Go.Proofs.YtaicaeokljdjdaaDoor
set_option linter.unusedVariables false
section
variable {α : Type}
structure Sk (α : Type) where
  wr : List α
  sl : List (Int × List α)
  op : List α
  la : Int
def newS : Sk α := ⟨[], [], [], 0⟩
def addS (s : Sk α) (r : α) : Sk α := { s with op := s.op ++ [r] }
def sealS (s : Sk α) (id : Int) : Sk α := { s with sl := s.sl ++ [(id, s.op)], op := [], la := id }
/-- What is written of the sealed ones, and what waits. -/
def comm (id : Int) : List (Int × List α) → List α × List (Int × List α)
  | [] => ([], [])
  | t :: l => if t.1 ≤ id then (t.2 ++ (comm id l).1, (comm id l).2) else ([], t :: l)
def commS (s : Sk α) (id : Int) : Sk α := { s with wr := s.wr ++ (comm id s.sl).1, sl := (comm id s.sl).2 }
def many : List (Int × List α) → Nat
  | [] => 0
  | t :: l => t.2.length + many l
def abortS (s : Sk α) : Sk α := { s with sl := [], op := [] }
def totS (s : Sk α) : Nat := s.wr.length + many s.sl + s.op.length
theorem many_append : ∀ a b : List (Int × List α), many (a ++ b) = many a + many b
  | [], b => by simp [many]
  | t :: a, b => by rw [List.cons_append, many, many, many_append a b]; omega
theorem comm_len (id : Int) : ∀ l : List (Int × List α), (comm id l).1.length + many (comm id l).2 = many l
  | [] => rfl
  | t :: l => by
    rw [comm]
    split
    · have := comm_len id l
      simp only [List.length_append, many]; omega
    · simp [many]
theorem tot_add (s : Sk α) (r : α) : totS (addS s r) = totS s + 1 := by simp [totS, addS]; omega
theorem tot_seal (s : Sk α) (id : Int) : totS (sealS s id) = totS s := by
  simp [totS, sealS, many_append, many]; omega
theorem tot_comm (s : Sk α) (id : Int) : totS (commS s id) = totS s := by
  have := comm_len id s.sl
  simp [totS, commS]; omega
theorem tot_abort (s : Sk α) : totS (abortS s) ≤ totS s := by simp [totS, abortS, many]; omega
theorem comm_all (id : Int) : ∀ l : List (Int × List α), (∀ t ∈ l, t.1 ≤ id) → comm id l = (l.flatMap Prod.snd, [])
  | [], _ => rfl
  | t :: l, h => by
    rw [comm, if_pos (h t (by simp)), comm_all id l (fun x hx => h x (by simp [hx]))]
    simp
theorem comm_none (id : Int) : ∀ l : List (Int × List α), (∀ t ∈ l, id < t.1) → comm id l = ([], l)
  | [], _ => rfl
  | t :: l, h => by
    have := h t (by simp)
    rw [comm, if_neg (by omega)]
theorem comm_split (id : Int) : ∀ a b : List (Int × List α), (∀ t ∈ a, t.1 ≤ id) → (∀ t ∈ b, id < t.1) → comm id (a ++ b) = (a.flatMap Prod.snd, b)
  | [], b, _, h => by rw [List.nil_append, comm_none id b h]; rfl
  | t :: a, b, h, h' => by
    rw [List.cons_append, comm, if_pos (h t (by simp)), comm_split id a b (fun x hx => h x (by simp [hx])) h']
    simp
end
inductive Fa2 {α β : Type} (R : α → β → Prop) : List α → List β → Prop where
  | nil : Fa2 R [] []
  | cons {a : α} {b : β} {l : List α} {m : List β} (h : R a b) (t : Fa2 R l m) : Fa2 R (a :: l) (b :: m)
end Go.Proofs.YtaicaeokljdjdaaDoor
