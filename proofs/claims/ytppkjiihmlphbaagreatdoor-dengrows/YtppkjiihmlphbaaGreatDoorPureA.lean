/- What a text of an expression says, as plain functions on lists of bytes: a tree, how it is read, printed and reckoned. -/
namespace Go.Proofs.YtppkjiihmlphbaaGreatDoor

inductive Tm where
  | num (v : Nat)
  | vn
  | vs
  | neg (a : Tm)
  | two (op : UInt8) (a b : Tm)
  | cond (a b c : Tm)

inductive Res where
  | ok (t : Tm) (u : List UInt8)
  | bad (pl : Nat) (e : Nat)

def isDg (c : UInt8) : Bool := 48 ≤ c.toNat && c.toNat ≤ 57

def stepV (acc : Nat) (c : UInt8) : Nat := acc * 10 + (c.toNat - 48)
def valFrom (acc : Nat) (l : List UInt8) : Nat := l.foldl stepV acc

theorem valFrom_nil (acc : Nat) : valFrom acc [] = acc := by unfold valFrom; rw [List.foldl_nil]
theorem valFrom_cons (acc : Nat) (c : UInt8) (r : List UInt8) : valFrom acc (c :: r) = valFrom (stepV acc c) r := by unfold valFrom; rw [List.foldl_cons]
theorem stepV_eq (acc : Nat) (c : UInt8) : stepV acc c = acc * 10 + (c.toNat - 48) := by unfold stepV; exact Eq.refl _

def digs (u : List UInt8) : List UInt8 := if u.head? = some 48 then [48] else u.takeWhile isDg

def numF (u : List UInt8) : Res :=
  if digs u ≠ [] ∧ valFrom 0 (digs u) < 9223372036854775808 then .ok (.num (valFrom 0 (digs u))) (u.drop (digs u).length) else .bad u.length 2

def pairF (inC : Nat → List UInt8 → Res) (op : UInt8) (pl : Nat) (r : List UInt8) : Res :=
  match inC pl r with
  | .bad p e => .bad p e
  | .ok a v =>
    if v.head? = some 44 then
      match inC pl (v.drop 1) with
      | .bad p e => .bad p e
      | .ok b v2 => if v2.head? = some 41 then .ok (.two op a b) (v2.drop 1) else .bad v2.length 2
    else .bad v.length 2

def brkF (inC : Nat → List UInt8 → Res) (pl : Nat) (r : List UInt8) : Res :=
  match inC pl r with
  | .bad p e => .bad p e
  | .ok a v => if v.head? = some 41 then .ok a (v.drop 1) else .bad v.length 2

def singleF (inC : Nat → List UInt8 → Res) (u : List UInt8) : Res :=
  if u.head? = some 110 then .ok .vn (u.drop 1)
  else if u.head? = some 115 then .ok .vs (u.drop 1)
  else if u.head? = some 40 then brkF inC u.length (u.drop 1)
  else if [109, 105, 110, 40] <+: u then pairF inC 109 u.length (u.drop 4)
  else if [109, 97, 120, 40] <+: u then pairF inC 77 u.length (u.drop 4)
  else numF u

def negF (inS : Nat → List UInt8 → Res) (u : List UInt8) : Res :=
  match inS u.length (u.drop 1) with
  | .bad p e => .bad p e
  | .ok t v => .ok (.neg t) v

def signF (inC inS : Nat → List UInt8 → Res) (u : List UInt8) : Res :=
  if u.head? = some 45 then negF inS u else singleF inC u

def opAt (ops : List UInt8) (u : List UInt8) : Option UInt8 :=
  match u with
  | [] => none
  | c :: _ => if c ∈ ops then some c else none

def loopF (ops : List UInt8) (part : List UInt8 → Res) : Nat → Tm → List UInt8 → Res
  | f, t, v =>
    match opAt ops v with
    | none => .ok t v
    | some c =>
      match f with
      | 0 => .ok t v
      | f + 1 =>
        match part (v.drop 1) with
        | .bad p e => .bad p e
        | .ok b v2 => loopF ops part f (.two c t b) v2

def rowF (ops : List UInt8) (part : List UInt8 → Res) (u : List UInt8) : Res :=
  match part u with
  | .bad p e => .bad p e
  | .ok t v => loopF ops part v.length t v

def cmpF (sum : List UInt8 → Res) (u : List UInt8) : Res :=
  match sum u with
  | .bad p e => .bad p e
  | .ok a v =>
    match opAt [61, 60, 62] v with
    | none => .ok a v
    | some c =>
      match sum (v.drop 1) with
      | .bad p e => .bad p e
      | .ok b v2 => .ok (.two c a b) v2

def choF (inC : Nat → List UInt8 → Res) (cmp : List UInt8 → Res) (u : List UInt8) : Res :=
  match cmp u with
  | .bad p e => .bad p e
  | .ok a v =>
    if v.head? = some 63 then
      match inC v.length (v.drop 1) with
      | .bad p e => .bad p e
      | .ok b v2 =>
        if v2.head? = some 58 then
          match inC v2.length (v2.drop 1) with
          | .bad p e => .bad p e
          | .ok c v3 => .ok (.cond a b c) v3
        else .bad v2.length 2
    else .ok a v

def mkLev (inC inS : Nat → List UInt8 → Res) : (List UInt8 → Res) × (List UInt8 → Res) :=
  (choF inC (cmpF (rowF [43, 45] (rowF [42, 47, 37] (signF inC inS)))), signF inC inS)

/-- Reading an expression, and one with '-' ahead, where so many levels are left. -/
def lev : Nat → (List UInt8 → Res) × (List UInt8 → Res)
  | 0 => mkLev (fun pl _ => .bad pl 4) (fun pl _ => .bad pl 4)
  | d + 1 => mkLev (fun _ u => (lev d).1 u) (fun _ u => (lev d).2 u)

def inCh : Nat → Nat → List UInt8 → Res
  | 0 => fun pl _ => .bad pl 4
  | d + 1 => fun _ u => (lev d).1 u

def inSg : Nat → Nat → List UInt8 → Res
  | 0 => fun pl _ => .bad pl 4
  | d + 1 => fun _ u => (lev d).2 u

theorem lev_eq (d : Nat) : lev d = mkLev (inCh d) (inSg d) := by cases d <;> rfl

def sgP (d : Nat) : List UInt8 → Res := (lev d).2
def prP (d : Nat) : List UInt8 → Res := rowF [42, 47, 37] (sgP d)
def smP (d : Nat) : List UInt8 → Res := rowF [43, 45] (prP d)
def cpP (d : Nat) : List UInt8 → Res := cmpF (smP d)
def chP (d : Nat) : List UInt8 → Res := (lev d).1

theorem sgP_eq (d : Nat) (u : List UInt8) : sgP d u = signF (inCh d) (inSg d) u := by unfold sgP; rw [lev_eq]; rfl
theorem chP_eq (d : Nat) (u : List UInt8) : chP d u = choF (inCh d) (cpP d) u := by
  unfold chP; rw [lev_eq]; unfold mkLev; simp only; congr 1
  unfold cpP smP prP sgP; rw [lev_eq]; rfl
theorem inCh_zero (pl : Nat) (u : List UInt8) : inCh 0 pl u = .bad pl 4 := rfl
theorem inCh_succ (d pl : Nat) (u : List UInt8) : inCh (d + 1) pl u = chP d u := rfl
theorem inSg_zero (pl : Nat) (u : List UInt8) : inSg 0 pl u = .bad pl 4 := rfl
theorem inSg_succ (d pl : Nat) (u : List UInt8) : inSg (d + 1) pl u = sgP d u := rfl

/-- The whole of a text. -/
def wholeP (l : List UInt8) : Res :=
  match chP 20 l with
  | .bad p e => .bad p e
  | .ok t v => if v = [] then .ok t [] else .bad v.length 2

def readP (l : List UInt8) : Res := if 120 < l.length then .bad l.length 4 else wholeP l

/- what it comes to -/
def wr (x : Int) : Int := (x + 9223372036854775808) % 18446744073709551616 - 9223372036854775808

def of2 (op : UInt8) (a b : Int) : Int :=
  if op = 61 then (if a = b then 1 else 0)
  else if op = 60 then (if a < b then 1 else 0)
  else if op = 62 then (if b < a then 1 else 0)
  else if op = 43 then wr (a + b)
  else if op = 45 then wr (a - b)
  else if op = 42 then wr (a * b)
  else if op = 47 then (if b = 0 then 0 else wr (a.tdiv b))
  else if op = 37 then (if b = 0 then 0 else a.tmod b)
  else if op = 109 then (if a < b then a else b)
  else (if b < a then a else b)

def ev (n s : Int) : Tm → Int
  | .num v => v
  | .vn => n
  | .vs => s
  | .neg a => wr (-(ev n s a))
  | .two op a b => of2 op (ev n s a) (ev n s b)
  | .cond a b c => if ev n s a ≠ 0 then ev n s b else ev n s c

end Go.Proofs.YtppkjiihmlphbaaGreatDoor
