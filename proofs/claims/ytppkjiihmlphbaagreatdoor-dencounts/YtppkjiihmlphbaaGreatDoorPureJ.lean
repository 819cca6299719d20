/- What is wrong with a job, who uses whom: plain functions on lists of nodes. -/
import Derived.Test.YtppkjiihmlphbaaGreatDoorPureE
namespace Go.Proofs.YtppkjiihmlphbaaGreatDoor

structure Nd where
  k : Int
  fs : List Int
  tx : ByteArray
  n : Int

/-- The error of a text. -/
def txP (l : List UInt8) : Nat :=
  match readP l with
  | .ok _ _ => 0
  | .bad _ e => e

def hasNP (k : Int) : Bool := k == 1 || k == 5 || k == 8
def hasTP (k : Int) : Bool := k == 2 || k == 3 || k == 4 || k == 7
def inLo (k : Int) : Int := if k = 1 then 0 else 1
def inHi (k : Int) : Int := if k = 1 then 0 else if k = 6 then 4 else 1
def bdLo (k : Int) : Int := if k = 1 then 1 else if k = 8 then 1 else 0
def bdHi (k : Int) : Int := if k = 1 then 8 else if k = 5 then 3 else if k = 8 then 400 else 0

def kindAt (ahead : List Nd) (f : Int) : Int :=
  match ahead[f.toNat]? with
  | some nd => nd.k
  | none => 0

def fromOne (ahead : List Nd) (f : Int) : Nat :=
  if f < 0 ∨ (ahead.length : Int) ≤ f then 1 else if kindAt ahead f = 10 then 7 else 0

def fromP (ahead : List Nd) : List Int → Nat
  | [] => 0
  | f :: r => if fromOne ahead f = 0 then fromP ahead r else fromOne ahead f

def ownP (nd : Nd) : Nat :=
  if (nd.tx ≠ ByteArray.empty ∧ hasTP nd.k = false) ∨ (nd.n ≠ 0 ∧ hasNP nd.k = false) then 3
  else if nd.n < bdLo nd.k ∨ bdHi nd.k < nd.n then 1
  else if hasTP nd.k = false then 0
  else txP nd.tx.data.toList

def nodeP (ahead : List Nd) (nd : Nd) : Nat :=
  if nd.k < 1 ∨ 10 < nd.k then 1
  else if (nd.fs.length : Int) < inLo nd.k ∨ inHi nd.k < (nd.fs.length : Int) then 3
  else if fromP ahead nd.fs = 0 then ownP nd else fromP ahead nd.fs

def allP (ahead : List Nd) : List Nd → Nat
  | [] => 0
  | nd :: r => if nodeP ahead nd = 0 then allP (ahead ++ [nd]) r else nodeP ahead nd

def endsP (l : List Nd) : Nat := if (l.any fun nd => nd.k == 1) && (l.any fun nd => nd.k == 10) then 0 else 6

def jobP (l : List Nd) : Nat :=
  if 12 < l.length then 4 else if allP [] l = 0 then endsP l else allP [] l

theorem allP_append (a : List Nd) : ∀ (xs ys : List Nd), allP a (xs ++ ys) = if allP a xs = 0 then allP (a ++ xs) ys else allP a xs := by
  intro xs
  induction xs generalizing a with
  | nil => intro ys; simp [allP]
  | cons x r ih =>
    intro ys
    simp only [List.cons_append, allP]
    by_cases h : nodeP a x = 0
    · simp only [h, if_true]
      rw [ih]; simp
    · simp [h]

def sink (at_ : Int) : Nd := ⟨10, [at_], ByteArray.empty, 0⟩

theorem job_ok {l : List Nd} (h : jobP l = 0) : l.length ≤ 12 ∧ allP [] l = 0 ∧ (l.any fun nd => nd.k == 1) = true ∧ (l.any fun nd => nd.k == 10) = true := by
  unfold jobP at h
  split at h
  · simp at h
  · split at h
    · rename_i h1 h2
      refine ⟨by omega, h2, ?_⟩
      unfold endsP at h
      split at h
      · rename_i h3; simpa using h3
      · simp at h
    · rename_i h2; exact absurd h h2

theorem job_grows {l : List Nd} {i : Nat} (h : jobP l = 0) (hl : l.length ≤ 11) (hi : i < l.length) (hk : (l[i]).k ≠ 10) : jobP (l ++ [sink i]) = 0 := by
  obtain ⟨h1, h2, h3, h4⟩ := job_ok h
  unfold jobP
  have e : nodeP l (sink i) = 0 := by
    have h0 : fromP l [(i : Int)] = 0 := by
      simp [fromP, fromOne, kindAt, hi, hk]
    have h5 : ownP (sink i) = 0 := by simp [ownP, sink, hasTP, hasNP, bdLo, bdHi]
    unfold nodeP
    simp [sink, inLo, inHi] at h0 h5 ⊢
    simp [h0, h5]
  have e2 : allP [] (l ++ [sink i]) = 0 := by
    rw [allP_append]; simp [h2, allP, e]
  have e3 : endsP (l ++ [sink i]) = 0 := by
    unfold endsP
    simp only [List.any_append, h3, h4]; simp
  simp [e2, e3]; omega

/-- The numbers of a kind; who uses a node. -/
def ofP (l : List Nd) (k : Int) : List Int := ((List.range l.length).filter fun i => (l.getD i (sink 0)).k == k).map fun (i : Nat) => (i : Int)
def usP (l : List Nd) (i : Int) : List Int := ((List.range l.length).filter fun j => (l.getD j (sink 0)).fs.contains i).map fun (j : Nat) => (j : Int)

theorem filter_grow {l : List Nd} (x : Nd) (f : Nd → Bool) :
    ((List.range (l ++ [x]).length).filter fun i => f ((l ++ [x]).getD i (sink 0))).map (fun (i : Nat) => (i : Int)) = ((List.range l.length).filter fun i => f (l.getD i (sink 0))).map (fun (i : Nat) => (i : Int)) ++ (if f x then [(l.length : Int)] else []) := by
  have h1 : (l ++ [x]).length = l.length + 1 := by simp
  rw [h1, List.range_succ, List.filter_append, List.map_append]
  congr 1
  · congr 1
    refine List.filter_congr fun i hi => ?_
    have : i < l.length := by simpa using hi
    simp [List.getD, List.getElem?_append_left this]
  · by_cases h : f x <;> simp [h, List.getD]

theorem of_grow (l : List Nd) (x : Nd) (k : Int) : ofP (l ++ [x]) k = ofP l k ++ (if x.k == k then [(l.length : Int)] else []) := filter_grow x (fun nd => nd.k == k)
theorem us_grow (l : List Nd) (x : Nd) (i : Int) : usP (l ++ [x]) i = usP l i ++ (if x.fs.contains i then [(l.length : Int)] else []) := filter_grow x (fun nd => nd.fs.contains i)
end Go.Proofs.YtppkjiihmlphbaaGreatDoor
