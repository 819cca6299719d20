/- What comes of a job, as plain functions on lists. -/
import Derived.Test.YtppkjiihmlphbaaGreatDoorPureJ
namespace Go.Proofs.YtppkjiihmlphbaaGreatDoor
open Go.Lib (decDigits itoa)

structure Rc where
  key : ByteArray
  num : Int
  time : Int

structure Hd where
  nd : Int
  key : ByteArray
  a : Int
  b : Int

def hd0 : Hd := ⟨0, ByteArray.empty, 0, 0⟩

/-- What a text comes to. -/
def valP (tx : ByteArray) (n s : Int) : Int :=
  match readP tx.data.toList with
  | .ok t _ => ev n s t
  | .bad _ _ => 0

def hasStP (k : Int) : Bool := k == 7 || k == 8 || k == 9

/-- A number's digits, with its sign. -/
def itoB (x : Int) : ByteArray := ⟨(itoa x).toArray⟩

def turnedP (nd : Nd) (r : Rc) (input : Int) : Rc × Int :=
  if nd.k = 1 ∨ nd.k = 10 then (r, 1)
  else if nd.k = 2 then (⟨r.key, valP nd.tx r.num 0, r.time⟩, 1)
  else if nd.k = 3 then (r, if valP nd.tx r.num 0 ≠ 0 then 1 else 0)
  else if nd.k = 4 then (⟨r.key ++ (⟨#[47]⟩ ++ itoB (valP nd.tx r.num 0)), r.num, r.time⟩, 1)
  else if nd.k = 5 then (r, nd.n)
  else if nd.k = 6 then (⟨itoB input ++ ⟨#[58]⟩ ++ r.key, r.num, r.time⟩, 1)
  else (r, 0)

def fullP (a n : Int) : Bool := decide (n ≤ a) || decide (n ≤ wr (a + 1))

def countedP (nd : Nd) (st : Hd) (has : Bool) (r : Rc) : Rc × Int × Hd :=
  if nd.k = 7 then (⟨r.key, valP nd.tx r.num st.a, r.time⟩, 1, ⟨st.nd, st.key, valP nd.tx r.num st.a, st.b⟩)
  else if nd.k = 8 then
    if fullP st.a nd.n then (⟨r.key, wr (st.b + r.num), r.time⟩, 1, ⟨st.nd, st.key, 0, 0⟩)
    else (r, 0, ⟨st.nd, st.key, wr (st.a + 1), wr (st.b + r.num)⟩)
  else if nd.k = 9 then (r, if has then 0 else 1, ⟨st.nd, st.key, 1, st.b⟩)
  else (r, 0, st)

def copP (r : Rc) (many : Int) : List Rc := if 40 < r.key.size ∨ 67108863 < many then [] else List.replicate many.toNat r

def appP (nd : Nd) (st : Hd) (has : Bool) (r : Rc) (input : Int) : List Rc × Hd × Bool :=
  let st0 := if has then st else hd0
  if hasStP nd.k then
    let c := countedP nd st0 has r
    (copP c.1 c.2.1, ⟨0, r.key, c.2.2.a, c.2.2.b⟩, true)
  else
    let c := turnedP nd r input
    (copP c.1 c.2, if has then ⟨0, r.key, st0.a, st0.b⟩ else st0, has)

/-- The states of a node. -/
abbrev Sts := ByteArray → Option Hd
def stepP (nd : Nd) (acc : List Rc × Sts) (x : Rc × Int) : List Rc × Sts :=
  let p := appP nd ((acc.2 x.1.key).getD hd0) (acc.2 x.1.key).isSome x.1 x.2
  (acc.1 ++ p.1, if p.2.2 then fun k => if k = x.1.key then some p.2.1 else acc.2 k else acc.2)
def runP (nd : Nd) (xs : List (Rc × Int)) : List Rc × Sts := xs.foldl (stepP nd) ([], fun _ => none)
def tagP : Nat → List (List Rc) → List (Rc × Int)
  | _, [] => []
  | i, l :: r => l.map (fun x => (x, (i : Int))) ++ tagP (i + 1) r
/-- What a node hands on: none where it is too much. -/
def handP (nd : Nd) (got : List (List Rc)) : Option (List Rc) :=
  if 2000 < (runP nd (tagP 0 got)).1.length then none else some (runP nd (tagP 0 got)).1

def gotP (nd : Nd) (data handed : List (List Rc)) : List (List Rc) :=
  if nd.k = 1 then data.take 1 else nd.fs.map fun f => handed.getD f.toNat []
def restP (nd : Nd) (data : List (List Rc)) : List (List Rc) := if nd.k = 1 then data.drop 1 else data
def flowP : List Nd → List (List Rc) → List (List Rc) → Option (List (List Rc))
  | [], _, handed => some handed
  | nd :: l, data, handed =>
    match handP nd (gotP nd data handed) with
    | none => none
    | some o => flowP l (restP nd data) (handed ++ [o])

/-- A key with its numbers. -/
abbrev Ln := ByteArray × List Int
/-- Keys as they came first. -/
def firstsP (l : List Rc) : List ByteArray := l.foldl (fun (ks : List ByteArray) (r : Rc) => if (ks.any fun k => decide (k = r.key)) then ks else ks ++ [r.key]) []
def numsP (l : List Rc) (k : ByteArray) : List Int := (l.filter fun r => r.key = k).map fun r => r.num
def groupsP (l : List Rc) : List Ln := (firstsP l).map fun k => (k, numsP l k)

def badRc (r : Rc) : Bool := decide (40 < r.key.size) || decide (r.time < 0) || decide (1000000 < r.time)
def dataP : List (List Rc) → Nat
  | [] => 0
  | l :: r => if 300 < l.length then 4 else if l.any badRc then 1 else dataP r
def checkP (data : List (List Rc)) (n : Nat) : Nat := if data.length ≠ n then 3 else dataP data

theorem runP_snoc (nd : Nd) (xs : List (Rc × Int)) (x : Rc × Int) : runP nd (xs ++ [x]) = stepP nd (runP nd xs) x := by simp [runP]
theorem step_len (nd : Nd) (acc : List Rc × Sts) (x : Rc × Int) : acc.1.length ≤ (stepP nd acc x).1.length := by simp [stepP]
theorem run_len (nd : Nd) (xs ys : List (Rc × Int)) : (runP nd xs).1.length ≤ (runP nd (xs ++ ys)).1.length := by
  have h : ∀ (ys : List (Rc × Int)) (acc : List Rc × Sts), acc.1.length ≤ (ys.foldl (stepP nd) acc).1.length := by
    intro ys
    induction ys with
    | nil => intro acc; exact Nat.le_refl _
    | cons y r ih => intro acc; exact Nat.le_trans (step_len nd acc y) (ih _)
  unfold runP
  rw [List.foldl_append]
  exact h ys _
end Go.Proofs.YtppkjiihmlphbaaGreatDoor
