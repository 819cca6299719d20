import Derived.Test.YthadeccnibnioaaGreatDoorHs
import Derived.Lib.Bytealg
/- The bytes of a string as a list. -/
namespace Go.Proofs.YthadeccnibnioaaGreatDoor
theorem loop_eq (x : ByteArray) (i : Nat) (r : List UInt8) : ByteArray.toList.loop x i r = r.reverse ++ x.data.toList.drop i := by
  unfold ByteArray.toList.loop
  split
  · rename_i h
    rw [loop_eq x (i + 1) (x.get! i :: r)]
    have h' : i < x.data.toList.length := by simpa using h
    rw [List.drop_eq_getElem_cons h']
    simp
    show x.get! i = _
    have : i < x.data.size := by simpa using h
    exact getElem!_pos x.data i this
  · rename_i h
    have h' : x.data.toList.length ≤ i := by simpa using h
    rw [List.drop_eq_nil_of_le h']; simp
termination_by x.size - i
theorem toList_eq (x : ByteArray) : x.toList = x.data.toList := by
  unfold ByteArray.toList; rw [loop_eq]; simp

end Go.Proofs.YthadeccnibnioaaGreatDoor

/- What is wrong with a job, who uses whom: plain functions on lists of nodes. -/
namespace Go.Proofs.YthadeccnibnioaaGreatDoor

structure Nd where
  k : Int
  fs : List Int
  tx : ByteArray
  n : Int

/-- The error of a text. -/
def txP (l : List UInt8) : Nat :=
  match readP l with
  | .ok _ _ => 0
  | .bad _ e => e

def hasNP (k : Int) : Bool := k == 1 || k == 5 || k == 8
def hasTP (k : Int) : Bool := k == 2 || k == 3 || k == 4 || k == 7
def inLo (k : Int) : Int := if k = 1 then 0 else 1
def inHi (k : Int) : Int := if k = 1 then 0 else if k = 6 then 4 else 1
def bdLo (k : Int) : Int := if k = 1 then 1 else if k = 8 then 1 else 0
def bdHi (k : Int) : Int := if k = 1 then 8 else if k = 5 then 3 else if k = 8 then 400 else 0

def kindAt (ahead : List Nd) (f : Int) : Int :=
  match ahead[f.toNat]? with
  | some nd => nd.k
  | none => 0

def fromOne (ahead : List Nd) (f : Int) : Nat :=
  if f < 0 ∨ (ahead.length : Int) ≤ f then 1 else if kindAt ahead f = 10 then 7 else 0

def fromP (ahead : List Nd) : List Int → Nat
  | [] => 0
  | f :: r => if fromOne ahead f = 0 then fromP ahead r else fromOne ahead f

def ownP (nd : Nd) : Nat :=
  if (nd.tx ≠ ByteArray.empty ∧ hasTP nd.k = false) ∨ (nd.n ≠ 0 ∧ hasNP nd.k = false) then 3
  else if nd.n < bdLo nd.k ∨ bdHi nd.k < nd.n then 1
  else if hasTP nd.k = false then 0
  else txP nd.tx.data.toList

def nodeP (ahead : List Nd) (nd : Nd) : Nat :=
  if nd.k < 1 ∨ 10 < nd.k then 1
  else if (nd.fs.length : Int) < inLo nd.k ∨ inHi nd.k < (nd.fs.length : Int) then 3
  else if fromP ahead nd.fs = 0 then ownP nd else fromP ahead nd.fs

def allP (ahead : List Nd) : List Nd → Nat
  | [] => 0
  | nd :: r => if nodeP ahead nd = 0 then allP (ahead ++ [nd]) r else nodeP ahead nd

def endsP (l : List Nd) : Nat := if (l.any fun nd => nd.k == 1) && (l.any fun nd => nd.k == 10) then 0 else 6

def jobP (l : List Nd) : Nat :=
  if 12 < l.length then 4 else if allP [] l = 0 then endsP l else allP [] l

theorem allP_append (a : List Nd) : ∀ (xs ys : List Nd), allP a (xs ++ ys) = if allP a xs = 0 then allP (a ++ xs) ys else allP a xs := by
  intro xs
  induction xs generalizing a with
  | nil => intro ys; simp [allP]
  | cons x r ih =>
    intro ys
    simp only [List.cons_append, allP]
    by_cases h : nodeP a x = 0
    · simp only [h, if_true]
      rw [ih]; simp
    · simp [h]

def sink (at_ : Int) : Nd := ⟨10, [at_], ByteArray.empty, 0⟩

theorem job_ok {l : List Nd} (h : jobP l = 0) : l.length ≤ 12 ∧ allP [] l = 0 ∧ (l.any fun nd => nd.k == 1) = true ∧ (l.any fun nd => nd.k == 10) = true := by
  unfold jobP at h
  split at h
  · simp at h
  · split at h
    · rename_i h1 h2
      refine ⟨by omega, h2, ?_⟩
      unfold endsP at h
      split at h
      · rename_i h3; simpa using h3
      · simp at h
    · rename_i h2; exact absurd h h2

/-- The numbers of a kind; who uses a node. -/
def ofP (l : List Nd) (k : Int) : List Int := ((List.range l.length).filter fun i => (l.getD i (sink 0)).k == k).map fun (i : Nat) => (i : Int)
theorem filter_grow {l : List Nd} (x : Nd) (f : Nd → Bool) :
    ((List.range (l ++ [x]).length).filter fun i => f ((l ++ [x]).getD i (sink 0))).map (fun (i : Nat) => (i : Int)) = ((List.range l.length).filter fun i => f (l.getD i (sink 0))).map (fun (i : Nat) => (i : Int)) ++ (if f x then [(l.length : Int)] else []) := by
  have h1 : (l ++ [x]).length = l.length + 1 := by simp
  rw [h1, List.range_succ, List.filter_append, List.map_append]
  congr 1
  · congr 1
    refine List.filter_congr fun i hi => ?_
    have : i < l.length := by simpa using hi
    simp [List.getD, List.getElem?_append_left this]
  · by_cases h : f x <;> simp [h, List.getD]

theorem of_grow (l : List Nd) (x : Nd) (k : Int) : ofP (l ++ [x]) k = ofP l k ++ (if x.k == k then [(l.length : Int)] else []) := filter_grow x (fun nd => nd.k == k)
end Go.Proofs.YthadeccnibnioaaGreatDoor

/- What comes of a job, as plain functions on lists. -/
namespace Go.Proofs.YthadeccnibnioaaGreatDoor
open Go.Lib (decDigits itoa)

structure Rc where
  key : ByteArray
  num : Int
  time : Int

structure Hd where
  nd : Int
  key : ByteArray
  a : Int
  b : Int

def hd0 : Hd := ⟨0, ByteArray.empty, 0, 0⟩

/-- What a text comes to. -/
def valP (tx : ByteArray) (n s : Int) : Int :=
  match readP tx.data.toList with
  | .ok t _ => ev n s t
  | .bad _ _ => 0

def hasStP (k : Int) : Bool := k == 7 || k == 8 || k == 9

/-- A number's digits, with its sign. -/
def itoB (x : Int) : ByteArray := ⟨(itoa x).toArray⟩

def turnedP (nd : Nd) (r : Rc) (input : Int) : Rc × Int :=
  if nd.k = 1 ∨ nd.k = 10 then (r, 1)
  else if nd.k = 2 then (⟨r.key, valP nd.tx r.num 0, r.time⟩, 1)
  else if nd.k = 3 then (r, if valP nd.tx r.num 0 ≠ 0 then 1 else 0)
  else if nd.k = 4 then (⟨r.key ++ (⟨#[47]⟩ ++ itoB (valP nd.tx r.num 0)), r.num, r.time⟩, 1)
  else if nd.k = 5 then (r, nd.n)
  else if nd.k = 6 then (⟨itoB input ++ ⟨#[58]⟩ ++ r.key, r.num, r.time⟩, 1)
  else (r, 0)

def fullP (a n : Int) : Bool := decide (n ≤ a) || decide (n ≤ wr (a + 1))

def countedP (nd : Nd) (st : Hd) (has : Bool) (r : Rc) : Rc × Int × Hd :=
  if nd.k = 7 then (⟨r.key, valP nd.tx r.num st.a, r.time⟩, 1, ⟨st.nd, st.key, valP nd.tx r.num st.a, st.b⟩)
  else if nd.k = 8 then
    if fullP st.a nd.n then (⟨r.key, wr (st.b + r.num), r.time⟩, 1, ⟨st.nd, st.key, 0, 0⟩)
    else (r, 0, ⟨st.nd, st.key, wr (st.a + 1), wr (st.b + r.num)⟩)
  else if nd.k = 9 then (r, if has then 0 else 1, ⟨st.nd, st.key, 1, st.b⟩)
  else (r, 0, st)

def copP (r : Rc) (many : Int) : List Rc := if 40 < r.key.size ∨ 67108863 < many then [] else List.replicate many.toNat r

def appP (nd : Nd) (st : Hd) (has : Bool) (r : Rc) (input : Int) : List Rc × Hd × Bool :=
  let st0 := if has then st else hd0
  if hasStP nd.k then
    let c := countedP nd st0 has r
    (copP c.1 c.2.1, ⟨0, r.key, c.2.2.a, c.2.2.b⟩, true)
  else
    let c := turnedP nd r input
    (copP c.1 c.2, if has then ⟨0, r.key, st0.a, st0.b⟩ else st0, has)

/-- The states of a node. -/
abbrev Sts := ByteArray → Option Hd
def stepP (nd : Nd) (acc : List Rc × Sts) (x : Rc × Int) : List Rc × Sts :=
  let p := appP nd ((acc.2 x.1.key).getD hd0) (acc.2 x.1.key).isSome x.1 x.2
  (acc.1 ++ p.1, if p.2.2 then fun k => if k = x.1.key then some p.2.1 else acc.2 k else acc.2)
def runP (nd : Nd) (xs : List (Rc × Int)) : List Rc × Sts := xs.foldl (stepP nd) ([], fun _ => none)
def tagP : Nat → List (List Rc) → List (Rc × Int)
  | _, [] => []
  | i, l :: r => l.map (fun x => (x, (i : Int))) ++ tagP (i + 1) r
/-- What a node hands on: none where it is too much. -/
def handP (nd : Nd) (got : List (List Rc)) : Option (List Rc) :=
  if 2000 < (runP nd (tagP 0 got)).1.length then none else some (runP nd (tagP 0 got)).1

def gotP (nd : Nd) (data handed : List (List Rc)) : List (List Rc) :=
  if nd.k = 1 then data.take 1 else nd.fs.map fun f => handed.getD f.toNat []
def restP (nd : Nd) (data : List (List Rc)) : List (List Rc) := if nd.k = 1 then data.drop 1 else data
def flowP : List Nd → List (List Rc) → List (List Rc) → Option (List (List Rc))
  | [], _, handed => some handed
  | nd :: l, data, handed =>
    match handP nd (gotP nd data handed) with
    | none => none
    | some o => flowP l (restP nd data) (handed ++ [o])

/-- A key with its numbers. -/
abbrev Ln := ByteArray × List Int
/-- Keys as they came first. -/
def firstsP (l : List Rc) : List ByteArray := l.foldl (fun (ks : List ByteArray) (r : Rc) => if (ks.any fun k => decide (k = r.key)) then ks else ks ++ [r.key]) []
def numsP (l : List Rc) (k : ByteArray) : List Int := (l.filter fun r => r.key = k).map fun r => r.num
def badRc (r : Rc) : Bool := decide (40 < r.key.size) || decide (r.time < 0) || decide (1000000 < r.time)
def dataP : List (List Rc) → Nat
  | [] => 0
  | l :: r => if 300 < l.length then 4 else if l.any badRc then 1 else dataP r
def checkP (data : List (List Rc)) (n : Nat) : Nat := if data.length ≠ n then 3 else dataP data

theorem runP_snoc (nd : Nd) (xs : List (Rc × Int)) (x : Rc × Int) : runP nd (xs ++ [x]) = stepP nd (runP nd xs) x := by simp [runP]
theorem step_len (nd : Nd) (acc : List Rc × Sts) (x : Rc × Int) : acc.1.length ≤ (stepP nd acc x).1.length := by simp [stepP]
theorem run_len (nd : Nd) (xs ys : List (Rc × Int)) : (runP nd xs).1.length ≤ (runP nd (xs ++ ys)).1.length := by
  have h : ∀ (ys : List (Rc × Int)) (acc : List Rc × Sts), acc.1.length ≤ (ys.foldl (stepP nd) acc).1.length := by
    intro ys
    induction ys with
    | nil => intro acc; exact Nat.le_refl _
    | cons y r ih => intro acc; exact Nat.le_trans (step_len nd acc y) (ih _)
  unfold runP
  rw [List.foldl_append]
  exact h ys _
end Go.Proofs.YthadeccnibnioaaGreatDoor

/- What an expression comes to is within range; what nodes make of records that are right is right. -/
namespace Go.Proofs.YthadeccnibnioaaGreatDoor

def Rng (x : Int) : Prop := -9223372036854775808 ≤ x ∧ x ≤ 9223372036854775807
theorem rng_wr (x : Int) : Rng (wr x) := by unfold Rng wr; omega
theorem wr_rng {x : Int} (h : Rng x) : wr x = x := by unfold Rng at h; unfold wr; omega
theorem rng_tmod {a b : Int} (ha : Rng a) : Rng (a.tmod b) := by
  unfold Rng at *
  by_cases h0 : 0 ≤ a
  · have h1 := Int.tmod_nonneg b h0
    have h2 : a.tmod b ≤ a := by
      have := Int.natAbs_tmod a b
      have h3 : (a.tmod b).natAbs ≤ a.natAbs := by rw [this]; exact Nat.mod_le _ _
      omega
    omega
  · have := Int.natAbs_tmod a b
    have h3 : (a.tmod b).natAbs ≤ a.natAbs := by rw [this]; exact Nat.mod_le _ _
    have h4 : a.tmod b ≤ 0 := by
      have h5 := Int.tmod_nonneg b (show (0 : Int) ≤ -a by omega)
      rw [Int.neg_tmod] at h5; omega
    omega
theorem rng_of2 {op : UInt8} {a b : Int} (ha : Rng a) (hb : Rng b) : Rng (of2 op a b) := by
  have h1 : Rng 1 := by unfold Rng; omega
  have h0 : Rng 0 := by unfold Rng; omega
  unfold of2
  repeat' split
  all_goals first | exact h1 | exact h0 | exact rng_wr _ | exact rng_tmod ha | exact ha | exact hb
theorem rng_ev {n s : Int} (hn : Rng n) (hs : Rng s) {d l : Nat} {x : List UInt8} {t : Tm} (h : Gr d l x t) : Rng (ev n s t) := by
  induction h with
  | num d s h hd h0 hv => unfold Rng ev; omega
  | vn => exact hn
  | vs => exact hs
  | brk h ih => exact ih
  | mn ha hb iha ihb => exact rng_of2 iha ihb
  | mx ha hb iha ihb => exact rng_of2 iha ihb
  | neg h ih => exact rng_wr _
  | mul op ho ha hb iha ihb => exact rng_of2 iha ihb
  | add op ho ha hb iha ihb => exact rng_of2 iha ihb
  | cmp op ho ha hb iha ihb => exact rng_of2 iha ihb
  | cond ha hb hc iha ihb ihc => unfold ev; split <;> assumption
  | up hl h ih => exact ih
theorem rng_val (tx : ByteArray) {n s : Int} (hn : Rng n) (hs : Rng s) : Rng (valP tx n s) := by
  unfold valP
  cases h : readP tx.data.toList with
  | ok t u => exact rng_ev hn hs (read_ok h).2.2
  | bad p e => unfold Rng; simp only; omega

/-- A record that is right. -/
structure RcOk (r : Rc) : Prop where
  key : r.key.size ≤ 40
  num : Rng r.num
  time : Rng r.time
structure HdOk (h : Hd) : Prop where
  nd : Rng h.nd
  key : h.key.size ≤ 40
  a : Rng h.a
  b : Rng h.b
theorem hd0_ok : HdOk hd0 := ⟨by unfold Rng; simp [hd0], by decide, by unfold Rng; simp [hd0], by unfold Rng; simp [hd0]⟩

theorem cop_ok {r : Rc} {m : Int} (hn : Rng r.num) (ht : Rng r.time) : ∀ x ∈ copP r m, RcOk x := by
  intro x hx
  unfold copP at hx
  split at hx
  · simp at hx
  · rename_i h
    have e := (List.mem_replicate.1 hx).2
    subst e
    exact ⟨by omega, hn, ht⟩
theorem turned_ok (nd : Nd) {r : Rc} (hr : RcOk r) (i : Int) : Rng (turnedP nd r i).1.num ∧ Rng (turnedP nd r i).1.time := by
  have h0 : Rng 0 := by unfold Rng; omega
  unfold turnedP
  repeat' split
  all_goals first | exact ⟨hr.num, hr.time⟩ | exact ⟨rng_val _ hr.num h0, hr.time⟩
theorem counted_ok (nd : Nd) {st : Hd} (hs : HdOk st) (has : Bool) {r : Rc} (hr : RcOk r) : (Rng (countedP nd st has r).1.num ∧ Rng (countedP nd st has r).1.time) ∧ HdOk (countedP nd st has r).2.2 := by
  have h0 : Rng 0 := by unfold Rng; omega
  have h1 : Rng 1 := by unfold Rng; omega
  unfold countedP
  split
  · exact ⟨⟨rng_val _ hr.num hs.a, hr.time⟩, ⟨hs.nd, hs.key, rng_val _ hr.num hs.a, hs.b⟩⟩
  · split
    · split
      · exact ⟨⟨rng_wr _, hr.time⟩, ⟨hs.nd, hs.key, h0, h0⟩⟩
      · exact ⟨⟨hr.num, hr.time⟩, ⟨hs.nd, hs.key, rng_wr _, rng_wr _⟩⟩
    · split
      · exact ⟨⟨hr.num, hr.time⟩, ⟨hs.nd, hs.key, h1, hs.b⟩⟩
      · exact ⟨⟨hr.num, hr.time⟩, hs⟩
theorem app_ok (nd : Nd) {st : Hd} (hs : HdOk st) (has : Bool) {r : Rc} (hr : RcOk r) (i : Int) : (∀ x ∈ (appP nd st has r i).1, RcOk x) ∧ HdOk (appP nd st has r i).2.1 := by
  have hz : Rng 0 := by unfold Rng; omega
  have h0 : HdOk (if has then st else hd0) := by split; exact hs; exact hd0_ok
  unfold appP
  simp only
  split
  · obtain ⟨⟨a, b⟩, c⟩ := counted_ok nd h0 has hr
    exact ⟨cop_ok a b, ⟨hz, hr.key, c.a, c.b⟩⟩
  · obtain ⟨a, b⟩ := turned_ok nd hr i
    refine ⟨cop_ok a b, ?_⟩
    cases has with
    | true => exact ⟨hz, hr.key, hs.a, hs.b⟩
    | false => exact hd0_ok

/-- States that are right. -/
def StOk (σ : Sts) : Prop := ∀ k h, σ k = some h → HdOk h
theorem step_ok (nd : Nd) {acc : List Rc × Sts} (h1 : ∀ x ∈ acc.1, RcOk x) (h2 : StOk acc.2) {x : Rc × Int} (hx : RcOk x.1) : (∀ y ∈ (stepP nd acc x).1, RcOk y) ∧ StOk (stepP nd acc x).2 := by
  have hs : HdOk ((acc.2 x.1.key).getD hd0) := by
    cases e : acc.2 x.1.key with
    | none => exact hd0_ok
    | some h => exact h2 _ _ e
  obtain ⟨a, b⟩ := app_ok nd hs (acc.2 x.1.key).isSome hx x.2
  unfold stepP
  refine ⟨fun y hy => ?_, ?_⟩
  · rcases List.mem_append.1 hy with h | h
    · exact h1 y h
    · exact a y h
  · simp only
    split
    · intro k h hk
      dsimp only at hk
      split at hk
      · injection hk with hk; subst hk; exact b
      · exact h2 k h hk
    · exact h2
theorem run_ok (nd : Nd) (xs : List (Rc × Int)) (h : ∀ x ∈ xs, RcOk x.1) : (∀ y ∈ (runP nd xs).1, RcOk y) ∧ StOk (runP nd xs).2 := by
  have key : ∀ (xs : List (Rc × Int)) (acc : List Rc × Sts), (∀ x ∈ xs, RcOk x.1) → (∀ x ∈ acc.1, RcOk x) → StOk acc.2 → (∀ y ∈ (xs.foldl (stepP nd) acc).1, RcOk y) ∧ StOk (xs.foldl (stepP nd) acc).2 := by
    intro xs
    induction xs with
    | nil => intro acc _ h1 h2; exact ⟨h1, h2⟩
    | cons x r ih =>
      intro acc h h1 h2
      obtain ⟨a, b⟩ := step_ok nd h1 h2 (h x (by simp))
      exact ih _ (fun y hy => h y (by simp [hy])) a b
  exact key xs _ h (by simp) (fun k h hk => by simp at hk)
end Go.Proofs.YthadeccnibnioaaGreatDoor

/- An error of a text is never 0. -/
namespace Go.Proofs.YthadeccnibnioaaGreatDoor

def Bd (f : List UInt8 → Res) : Prop := ∀ u p e, f u = .bad p e → e ≠ 0
def Bd2 (f : Nat → List UInt8 → Res) : Prop := ∀ pl u p e, f pl u = .bad p e → e ≠ 0

theorem bd_num : Bd numF := by
  intro u p e h
  unfold numF at h
  split at h
  · cases h
  · injection h with _ h2; omega

theorem bd_pair {inC : Nat → List UInt8 → Res} (hC : Bd2 inC) (op : UInt8) : Bd2 (pairF inC op) := by
  intro pl u p e h
  unfold pairF at h
  split at h
  · rename_i hh; injection h with h1 h2; subst h2; exact hC _ _ _ _ hh
  · split at h
    · split at h
      · rename_i hh; injection h with h1 h2; subst h2; exact hC _ _ _ _ hh
      · split at h
        · cases h
        · injection h with _ h2; omega
    · injection h with _ h2; omega
theorem bd_brk {inC : Nat → List UInt8 → Res} (hC : Bd2 inC) : Bd2 (brkF inC) := by
  intro pl u p e h
  unfold brkF at h
  split at h
  · rename_i hh; injection h with h1 h2; subst h2; exact hC _ _ _ _ hh
  · split at h
    · cases h
    · injection h with _ h2; omega
theorem bd_single {inC : Nat → List UInt8 → Res} (hC : Bd2 inC) : Bd (singleF inC) := by
  intro u p e h
  unfold singleF at h
  split at h
  · cases h
  · split at h
    · cases h
    · split at h
      · exact bd_brk hC _ _ _ _ h
      · split at h
        · exact bd_pair hC _ _ _ _ _ h
        · split at h
          · exact bd_pair hC _ _ _ _ _ h
          · exact bd_num _ _ _ h
theorem bd_sign {inC inS : Nat → List UInt8 → Res} (hC : Bd2 inC) (hS : Bd2 inS) : Bd (signF inC inS) := by
  intro u p e h
  unfold signF at h
  split at h
  · unfold negF at h
    split at h
    · rename_i hh; injection h with h1 h2; subst h2; exact hS _ _ _ _ hh
    · cases h
  · exact bd_single hC _ _ _ h
theorem bd_loop {ops : List UInt8} {part : List UInt8 → Res} (hp : Bd part) : ∀ (f : Nat) (t : Tm) (v : List UInt8) (p e : Nat), loopF ops part f t v = .bad p e → e ≠ 0 := by
  intro f
  induction f with
  | zero =>
    intro t v p e h
    unfold loopF at h
    split at h
    · cases h
    · cases h
  | succ f ih =>
    intro t v p e h
    unfold loopF at h
    split at h
    · cases h
    · simp only at h
      split at h
      · rename_i hh; injection h with h1 h2; subst h2; exact hp _ _ _ hh
      · exact ih _ _ _ _ h
theorem bd_row {ops : List UInt8} {part : List UInt8 → Res} (hp : Bd part) : Bd (rowF ops part) := by
  intro u p e h
  unfold rowF at h
  split at h
  · rename_i hh; injection h with h1 h2; subst h2; exact hp _ _ _ hh
  · exact bd_loop hp _ _ _ _ _ h
theorem bd_cmp {sum : List UInt8 → Res} (hs : Bd sum) : Bd (cmpF sum) := by
  intro u p e h
  unfold cmpF at h
  split at h
  · rename_i hh; injection h with h1 h2; subst h2; exact hs _ _ _ hh
  · split at h
    · cases h
    · split at h
      · rename_i hh; injection h with h1 h2; subst h2; exact hs _ _ _ hh
      · cases h
theorem bd_cho {inC : Nat → List UInt8 → Res} {cmp : List UInt8 → Res} (hC : Bd2 inC) (hc : Bd cmp) : Bd (choF inC cmp) := by
  intro u p e h
  unfold choF at h
  split at h
  · rename_i hh; injection h with h1 h2; subst h2; exact hc _ _ _ hh
  · split at h
    · split at h
      · rename_i hh; injection h with h1 h2; subst h2; exact hC _ _ _ _ hh
      · split at h
        · split at h
          · rename_i hh; injection h with h1 h2; subst h2; exact hC _ _ _ _ hh
          · cases h
        · injection h with _ h2; omega
    · cases h
theorem bd_lev : ∀ d, Bd2 (inCh d) ∧ Bd2 (inSg d) := by
  intro d
  induction d with
  | zero => exact ⟨fun pl u p e h => by rw [inCh_zero] at h; injection h with _ h2; omega, fun pl u p e h => by rw [inSg_zero] at h; injection h with _ h2; omega⟩
  | succ d ih =>
    have hs : Bd (sgP d) := fun u p e h => by rw [sgP_eq] at h; exact bd_sign ih.1 ih.2 _ _ _ h
    refine ⟨fun pl u p e h => ?_, fun pl u p e h => ?_⟩
    · rw [inCh_succ, chP_eq] at h
      exact bd_cho ih.1 (bd_cmp (bd_row (bd_row hs))) _ _ _ h
    · rw [inSg_succ] at h; exact hs _ _ _ h
theorem read_bad_pos {l : List UInt8} {p e : Nat} (h : readP l = .bad p e) : e ≠ 0 := by
  unfold readP at h
  split at h
  · injection h with _ h2; omega
  · unfold wholeP at h
    split at h
    · rename_i hh; injection h with h1 h2; subst h2
      exact (bd_lev 21).1 0 _ _ _ (by rw [inCh_succ]; exact hh)
    · split at h
      · cases h
      · injection h with _ h2; omega
end Go.Proofs.YthadeccnibnioaaGreatDoor

/- The records of several inputs, one behind the other. -/
namespace Go.Proofs.YthadeccnibnioaaGreatDoor

theorem tag_append : ∀ (a b : List (List Rc)) (k : Nat), tagP k (a ++ b) = tagP k a ++ tagP (k + a.length) b
  | [], b, k => by simp [tagP]
  | x :: a, b, k => by
    simp only [List.cons_append, tagP, tag_append a b (k + 1), List.append_assoc, List.length_cons]
    rw [show k + 1 + a.length = k + (a.length + 1) from by omega]
/-- What has come when so many of an input have. -/
def preP (G : List (List Rc)) (i j : Nat) : List (Rc × Int) := tagP 0 (G.take i) ++ ((G.getD i []).take j).map fun x => (x, (i : Int))
theorem pre_step {G : List (List Rc)} {i j : Nat} (hi : i < G.length) (hj : j < G[i].length) : preP G i (j + 1) = preP G i j ++ [(G[i][j], (i : Int))] := by
  have e : G.getD i [] = G[i] := by simp [List.getD, hi]
  unfold preP
  rw [e, List.take_succ_eq_append_getElem hj, List.map_append, List.append_assoc]; rfl
theorem pre_next {G : List (List Rc)} {i : Nat} (hi : i < G.length) : preP G i G[i].length = preP G (i + 1) 0 := by
  have e : G.getD i [] = G[i] := by simp [List.getD, hi]
  unfold preP
  rw [e, List.take_length, List.take_succ_eq_append_getElem hi, tag_append]
  simp [tagP]
  omega
theorem pre_end (G : List (List Rc)) : preP G G.length 0 = tagP 0 G := by simp [preP]
theorem pre_split {G : List (List Rc)} {i j : Nat} (hi : i < G.length) : ∃ ys, tagP 0 G = preP G i j ++ ys := by
  have e : G.getD i [] = G[i] := by simp [List.getD, hi]
  refine ⟨(G[i].drop j).map (fun x => (x, (i : Int))) ++ tagP (i + 1) (G.drop (i + 1)), ?_⟩
  unfold preP
  have h1 : G = G.take i ++ G[i] :: G.drop (i + 1) := by simp
  conv => lhs; rw [h1, tag_append]
  have hl : (G.take i).length = i := by simp; omega
  rw [hl, Nat.zero_add, tagP, e, List.append_assoc]
  congr 1
  rw [← List.append_assoc, ← List.map_append, List.take_append_drop]
theorem tag_mem : ∀ (G : List (List Rc)) (k : Nat) (x : Rc × Int), x ∈ tagP k G → ∃ l ∈ G, x.1 ∈ l
  | [], k, x, h => by simp [tagP] at h
  | l :: G, k, x, h => by
    simp only [tagP, List.mem_append, List.mem_map] at h
    rcases h with ⟨y, hy, rfl⟩ | h
    · exact ⟨l, by simp, hy⟩
    · obtain ⟨l', h1, h2⟩ := tag_mem G (k + 1) x h
      exact ⟨l', by simp [h1], h2⟩
theorem pre_mem {G : List (List Rc)} {i j : Nat} (x : Rc × Int) (h : x ∈ preP G i j) : ∃ l ∈ G, x.1 ∈ l := by
  unfold preP at h
  rcases List.mem_append.1 h with h | h
  · obtain ⟨l, h1, h2⟩ := tag_mem _ _ _ h
    exact ⟨l, List.mem_of_mem_take h1, h2⟩
  · obtain ⟨y, hy, rfl⟩ := List.mem_map.1 h
    have hy' := List.mem_of_mem_take hy
    by_cases hi : i < G.length
    · have e : G.getD i [] = G[i] := by simp [List.getD, hi]
      rw [e] at hy'
      exact ⟨G[i], List.getElem_mem hi, hy'⟩
    · have e : G.getD i [] = [] := by simp [List.getD, Nat.le_of_not_lt hi]
      rw [e] at hy'; simp at hy'
theorem tag_len : ∀ (G : List (List Rc)) (k N : Nat), (∀ l ∈ G, l.length ≤ N) → (tagP k G).length ≤ G.length * N
  | [], k, N, h => by simp [tagP]
  | l :: G, k, N, h => by
    have h1 := tag_len G (k + 1) N (fun x hx => h x (by simp [hx]))
    have h2 := h l (by simp)
    simp only [tagP, List.length_append, List.length_map, List.length_cons]
    rw [Nat.add_mul]; omega
theorem cop_len (r : Rc) (m : Int) : (copP r m).length ≤ 67108863 := by
  unfold copP
  split
  · simp
  · rename_i h; simp; omega
theorem app_len (nd : Nd) (st : Hd) (has : Bool) (r : Rc) (i : Int) : (appP nd st has r i).1.length ≤ 67108863 := by
  unfold appP
  simp only
  split
  · exact cop_len _ _
  · exact cop_len _ _
theorem hand_none {nd : Nd} {G : List (List Rc)} {i j : Nat} (hi : i < G.length) (h : 2000 < (runP nd (preP G i j)).1.length) : handP nd G = none := by
  obtain ⟨ys, e⟩ := pre_split (j := j) hi
  have := run_len nd (preP G i j) ys
  unfold handP
  rw [if_pos (by rw [e]; omega)]
theorem hand_some {nd : Nd} {G : List (List Rc)} (h : ¬ 2000 < (runP nd (preP G G.length 0)).1.length) : handP nd G = some (runP nd (preP G G.length 0)).1 := by
  rw [pre_end] at h ⊢
  unfold handP
  rw [if_neg h]
theorem hand_ok {nd : Nd} {G : List (List Rc)} (hG : ∀ l ∈ G, ∀ r ∈ l, RcOk r) {o : List Rc} (h : handP nd G = some o) : (∀ r ∈ o, RcOk r) ∧ o.length ≤ 2000 := by
  unfold handP at h
  split at h
  · cases h
  · injection h with h
    subst h
    refine ⟨(run_ok nd _ (fun x hx => ?_)).1, by omega⟩
    obtain ⟨l, h1, h2⟩ := tag_mem _ _ _ hx
    exact hG l h1 _ h2
end Go.Proofs.YthadeccnibnioaaGreatDoor

/- Who uses whom, so far. -/
namespace Go.Proofs.YthadeccnibnioaaGreatDoor

theorem all_at {L : List Nd} (h : allP [] L = 0) : ∀ (j : Nat) (hj : j < L.length), nodeP (L.take j) L[j] = 0 := by
  intro j hj
  have e : L = L.take j ++ (L[j] :: L.drop (j + 1)) := by rw [← List.drop_eq_getElem_cons hj, List.take_append_drop]
  rw [e, allP_append] at h
  by_cases h1 : allP [] (L.take j) = 0
  · rw [if_pos h1, List.nil_append, allP] at h
    by_cases h2 : nodeP (L.take j) L[j] = 0
    · exact h2
    · rw [if_neg h2] at h; exact absurd h h2
  · rw [if_neg h1] at h; exact absurd h h1
theorem from_at {A : List Nd} {fs : List Int} (h : fromP A fs = 0) : ∀ x ∈ fs, 0 ≤ x ∧ x < A.length := by
  induction fs with
  | nil => simp
  | cons f r ih =>
    intro x hx
    rw [fromP] at h
    by_cases h1 : fromOne A f = 0
    · rw [if_pos h1] at h
      rcases List.mem_cons.1 hx with rfl | hx
      · unfold fromOne at h1
        split at h1
        · simp at h1
        · omega
      · exact ih h x hx
    · rw [if_neg h1] at h; exact absurd h h1
theorem node_from {A : List Nd} {nd : Nd} (h : nodeP A nd = 0) : nd.fs.length ≤ 4 ∧ (∀ x ∈ nd.fs, 0 ≤ x ∧ x < A.length) ∧ 1 ≤ nd.k ∧ nd.k ≤ 10 ∧ ownP nd = 0 ∧ inLo nd.k ≤ nd.fs.length ∧ (nd.fs.length : Int) ≤ inHi nd.k := by
  unfold nodeP at h
  split at h
  · simp at h
  · split at h
    · simp at h
    · rename_i h1 h2
      have hh : inHi nd.k ≤ 4 := by unfold inHi; split <;> (try split) <;> omega
      split at h
      · rename_i h3; exact ⟨by omega, from_at h3, by omega, by omega, h, by omega, by omega⟩
      · rename_i h3; exact absurd h h3
theorem job_from {L : List Nd} (h : jobP L = 0) (j : Nat) (hj : j < L.length) : L[j].fs.length ≤ 4 ∧ ∀ x ∈ L[j].fs, 0 ≤ x ∧ x < j := by
  have h1 := all_at (job_ok h).2.1 j hj
  obtain ⟨h2, h3, -⟩ := node_from h1
  refine ⟨h2, fun x hx => ?_⟩
  have := h3 x hx
  simp at this
  omega
end Go.Proofs.YthadeccnibnioaaGreatDoor

/- What all nodes hand on: node by node. -/
namespace Go.Proofs.YthadeccnibnioaaGreatDoor

def srcs (L : List Nd) : Nat := (L.filter fun nd => nd.k == 1).length
theorem srcs_cons (nd : Nd) (L : List Nd) : srcs (nd :: L) = (if nd.k = 1 then 1 else 0) + srcs L := by
  unfold srcs
  rw [List.filter_cons]
  by_cases h : nd.k = 1
  · simp [h]; omega
  · simp [h]
theorem of_len (L : List Nd) (k : Int) : (ofP L k).length = (L.filter fun nd => nd.k == k).length := by
  have h : ∀ R : List Nd, (ofP R.reverse k).length = (R.reverse.filter fun nd => nd.k == k).length := by
    intro R
    induction R with
    | nil => rfl
    | cons x R ih =>
      rw [List.reverse_cons, of_grow, List.length_append, List.filter_append, List.length_append, ih]
      congr 1
      by_cases hx : x.k == k <;> simp [hx]
  have := h L.reverse
  rwa [List.reverse_reverse] at this
/-- What a node gets of those that handed on. -/
def fromsP (nd : Nd) (hs : List (List Rc)) : List (List Rc) := nd.fs.map fun f => hs.getD f.toNat []
theorem got_src {nd : Nd} {D hs : List (List Rc)} (h : nd.k = 1) : gotP nd D hs = D.take 1 := by unfold gotP; rw [if_pos h]
theorem got_oth {nd : Nd} {D hs : List (List Rc)} (h : nd.k ≠ 1) : gotP nd D hs = fromsP nd hs := by unfold gotP; rw [if_neg h]; rfl
theorem got_mem {nd : Nd} {D hs : List (List Rc)} {l : List Rc} (h : l ∈ gotP nd D hs) : l ∈ D ∨ l ∈ hs ∨ l = [] := by
  unfold gotP at h
  split at h
  · exact .inl (List.mem_of_mem_take h)
  · obtain ⟨f, -, rfl⟩ := List.mem_map.1 h
    right
    by_cases hf : f.toNat < hs.length
    · left; simp [List.getD, hf]
    · right; simp [List.getD, Nat.le_of_not_lt hf]
theorem rest_mem {nd : Nd} {D : List (List Rc)} {l : List Rc} (h : l ∈ restP nd D) : l ∈ D := by
  unfold restP at h
  split at h
  · exact List.mem_of_mem_drop h
  · exact h
end Go.Proofs.YthadeccnibnioaaGreatDoor

/- Records by their keys. -/
namespace Go.Proofs.YthadeccnibnioaaGreatDoor

def posF (k : ByteArray) : Nat → List ByteArray → Option Nat
  | _, [] => none
  | i, q :: r => if q = k then some i else posF k (i + 1) r
theorem posF_snoc (k q : ByteArray) : ∀ (ks : List ByteArray) (i : Nat), posF k i (ks ++ [q]) = (match posF k i ks with | some a => some a | none => if q = k then some (i + ks.length) else none)
  | [], i => by simp [posF]
  | x :: ks, i => by
    simp only [List.cons_append, posF]
    by_cases h : x = k
    · simp [h]
    · simp only [h, if_false, posF_snoc k q ks (i + 1), List.length_cons]
      rw [show i + 1 + ks.length = i + (ks.length + 1) from by omega]
theorem posF_some {k : ByteArray} : ∀ {ks : List ByteArray} {i a : Nat}, posF k i ks = some a → i ≤ a ∧ ∃ h : a - i < ks.length, ks[a - i] = k
  | [], i, a, h => by simp [posF] at h
  | x :: ks, i, a, h => by
    unfold posF at h
    split at h
    · rename_i hx
      simp at h; subst h
      exact ⟨Nat.le_refl _, by simp, by simpa using hx⟩
    · obtain ⟨h1, h2, h3⟩ := posF_some h
      refine ⟨by omega, by simp; omega, ?_⟩
      have : a - i = (a - (i + 1)) + 1 := by omega
      simp only [this, List.getElem_cons_succ]; exact h3
theorem posF_none {k : ByteArray} : ∀ {ks : List ByteArray} {i : Nat}, posF k i ks = none → ∀ q ∈ ks, q ≠ k
  | [], i, h => by simp
  | x :: ks, i, h => by
    unfold posF at h
    split at h
    · simp at h
    · rename_i hx
      intro q hq
      rcases List.mem_cons.1 hq with rfl | hq
      · exact hx
      · exact posF_none h q hq
theorem firsts_snoc (l : List Rc) (r : Rc) : firstsP (l ++ [r]) = if (posF r.key 0 (firstsP l)).isSome then firstsP l else firstsP l ++ [r.key] := by
  have h : ((firstsP l).any fun k => decide (k = r.key)) = (posF r.key 0 (firstsP l)).isSome := by
    cases e : posF r.key 0 (firstsP l) with
    | none => simp; exact fun q hq => posF_none e q hq
    | some a =>
      obtain ⟨_, h2, h3⟩ := posF_some e
      simp; exact h3 ▸ List.getElem_mem h2
  have h2 : firstsP (l ++ [r]) = if ((firstsP l).any fun k => decide (k = r.key)) then firstsP l else firstsP l ++ [r.key] := by
    unfold firstsP
    rw [List.foldl_append]
    rfl
  rw [h2, h]
theorem nums_snoc (l : List Rc) (r : Rc) (k : ByteArray) : numsP (l ++ [r]) k = numsP l k ++ (if r.key = k then [r.num] else []) := by
  unfold numsP
  rw [List.filter_append, List.map_append]
  by_cases h : r.key = k <;> simp [h]
theorem firsts_nodup (l : List Rc) : (firstsP l).Nodup := by
  have h : ∀ R : List Rc, (firstsP R.reverse).Nodup := by
    intro R
    induction R with
    | nil => simp [firstsP]
    | cons r R ih =>
      rw [List.reverse_cons, firsts_snoc]
      split
      · exact ih
      · rename_i hn
        rw [List.nodup_append]
        refine ⟨ih, by simp, fun a ha b hb => ?_⟩
        have e : posF r.key 0 (firstsP R.reverse) = none := by simpa using hn
        have := posF_none e a ha
        simp at hb; subst hb; exact this
  have := h l.reverse
  rwa [List.reverse_reverse] at this
theorem firsts_mem {l : List Rc} {k : ByteArray} : k ∈ firstsP l ↔ ∃ r ∈ l, r.key = k := by
  have h : ∀ R : List Rc, k ∈ firstsP R.reverse ↔ ∃ r ∈ R.reverse, r.key = k := by
    intro R
    induction R with
    | nil => simp [firstsP]
    | cons r R ih =>
      rw [List.reverse_cons, firsts_snoc]
      simp only [List.mem_append, List.mem_singleton]
      split
      · rename_i hs
        constructor
        · intro hk
          obtain ⟨x, hx, he⟩ := ih.1 hk
          exact ⟨x, .inl hx, he⟩
        · rintro ⟨x, hx | hx, he⟩
          · exact ih.2 ⟨x, hx, he⟩
          · subst hx
            obtain ⟨a, ha⟩ := Option.isSome_iff_exists.1 hs
            obtain ⟨_, h2, h3⟩ := posF_some ha
            rw [← he, ← h3]; exact List.getElem_mem _
      · simp only [List.mem_append, List.mem_singleton]
        constructor
        · rintro (hk | hk)
          · obtain ⟨x, hx, he⟩ := ih.1 hk
            exact ⟨x, .inl hx, he⟩
          · exact ⟨r, .inr rfl, hk.symm⟩
        · rintro ⟨x, hx | hx, he⟩
          · exact .inl (ih.2 ⟨x, hx, he⟩)
          · subst hx; exact .inr he.symm
  have := h l.reverse
  rwa [List.reverse_reverse] at this
end Go.Proofs.YthadeccnibnioaaGreatDoor

/- Lines by their keys' bytes. -/
namespace Go.Proofs.YthadeccnibnioaaGreatDoor
open Go.Lib (compareBytes)

theorem cmp_lt : ∀ (a b : List UInt8), compareBytes a b < 0 ↔ a < b
  | [], [] => by simp [compareBytes]
  | [], y :: b => by simp [compareBytes]
  | x :: a, [] => by simp [compareBytes]
  | x :: a, y :: b => by
    unfold compareBytes
    rw [List.cons_lt_cons_iff]
    by_cases h1 : x < y
    · simp [h1]
    · by_cases h2 : y < x
      · have hne : x ≠ y := fun e => by subst e; exact h1 h2
        simp [h1, h2, hne]
      · have he : x = y := by
          have a1 : ¬ x.toNat < y.toNat := h1
          have a2 : ¬ y.toNat < x.toNat := h2
          exact UInt8.toNat_inj.1 (by omega)
        simp [he, cmp_lt a b]
def kle (a b : ByteArray) : Bool := decide (a.data.toList ≤ b.data.toList)
theorem kle_trans (a b c : ByteArray) (h1 : kle a b = true) (h2 : kle b c = true) : kle a c = true := by
  simp only [kle, decide_eq_true_eq] at *; exact List.le_trans h1 h2
theorem kle_total (a b : ByteArray) : (kle a b || kle b a) = true := by
  simp only [kle, Bool.or_eq_true, decide_eq_true_eq]; exact List.le_total _ _
theorem kle_anti {a b : ByteArray} (h1 : kle a b = true) (h2 : kle b a = true) : a = b := by
  simp only [kle, decide_eq_true_eq] at *
  have := List.le_antisymm h1 h2
  cases a; cases b
  congr 1
  exact Array.toList_inj.1 this
/-- The keys of records, by their bytes; the lines. -/
def keysP (l : List Rc) : List ByteArray := (firstsP l).mergeSort kle
def linesP (l : List Rc) : List Ln := (keysP l).map fun k => (k, numsP l k)
theorem keys_eq {l : List Rc} {K : List ByteArray} (hp : K.Perm (firstsP l)) (hs : K.Pairwise fun a b => kle a b = true) : K = keysP l :=
  List.Perm.eq_of_pairwise (le := fun a b => kle a b = true) (fun _ _ _ _ h1 h2 => kle_anti h1 h2) hs (List.pairwise_mergeSort kle_trans kle_total _) (hp.trans (List.mergeSort_perm _ _).symm)
end Go.Proofs.YthadeccnibnioaaGreatDoor

/- What comes of a job: all of it. -/
namespace Go.Proofs.YthadeccnibnioaaGreatDoor

/-- What the Sinks among some nodes get. -/
def sinksP : List Nd → List (List Rc) → List (List Ln)
  | nd :: L, o :: hs => if nd.k = 10 then linesP o :: sinksP L hs else sinksP L hs
  | _, _ => []
theorem sinks_snoc : ∀ (L : List Nd) (hs : List (List Rc)) (nd : Nd) (o : List Rc), L.length = hs.length → sinksP (L ++ [nd]) (hs ++ [o]) = sinksP L hs ++ (if nd.k = 10 then [linesP o] else [])
  | [], [], nd, o, _ => by simp only [List.nil_append, sinksP]
  | [], x :: hs, nd, o, h => by simp at h
  | x :: L, [], nd, o, h => by simp at h
  | x :: L, y :: hs, nd, o, h => by
    simp only [List.cons_append, sinksP]
    have ih := sinks_snoc L hs nd o (by simpa using h)
    split
    · rw [ih]; rfl
    · rw [ih]
theorem sinks_len : ∀ (L : List Nd) (hs : List (List Rc)), (sinksP L hs).length ≤ L.length
  | [], hs => by cases hs <;> simp [sinksP]
  | x :: L, [] => by simp [sinksP]
  | x :: L, y :: hs => by
    simp only [sinksP]
    split
    · simp; exact sinks_len L hs
    · have := sinks_len L hs; simp; omega
/-- The error, and what the Sinks get. -/
def denE (L : List Nd) (D : List (List Rc)) : Nat :=
  if jobP L ≠ 0 then jobP L else if checkP D (srcs L) ≠ 0 then checkP D (srcs L) else
    match flowP L D [] with
    | none => 4
    | some _ => 0
def denV (L : List Nd) (D : List (List Rc)) : List (List Ln) :=
  if jobP L ≠ 0 then [] else if checkP D (srcs L) ≠ 0 then [] else
    match flowP L D [] with
    | none => []
    | some hs => sinksP L hs
theorem data_ok {D : List (List Rc)} (h : dataP D = 0) (hn : ∀ l ∈ D, ∀ r ∈ l, Rng r.num) : (∀ l ∈ D, ∀ r ∈ l, RcOk r) ∧ ∀ l ∈ D, l.length ≤ 300 := by
  induction D with
  | nil => simp
  | cons l D ih =>
    unfold dataP at h
    split at h
    · cases h
    · rename_i h1
      split at h
      · cases h
      · rename_i h2
        obtain ⟨i1, i2⟩ := ih h (fun l' hl' => hn l' (by simp [hl']))
        refine ⟨fun x hx => ?_, fun x hx => ?_⟩
        · rcases List.mem_cons.1 hx with rfl | hx
          · intro r hr
            have hb : badRc r = false := by
              cases hb : badRc r with
              | false => rfl
              | true => exact absurd (List.any_eq_true.2 ⟨r, hr, hb⟩) h2
            simp only [badRc, Bool.or_eq_false_iff, decide_eq_false_iff_not] at hb
            refine ⟨by omega, hn _ (by simp) r hr, ?_⟩
            unfold Rng; omega
          · exact i1 x hx
        · rcases List.mem_cons.1 hx with rfl | hx
          · omega
          · exact i2 x hx
end Go.Proofs.YthadeccnibnioaaGreatDoor

/- Nodes without states; jobs of one way. -/
namespace Go.Proofs.YthadeccnibnioaaGreatDoor

def gP (nd : Nd) (r : Rc) (i : Int) : List Rc := copP (turnedP nd r i).1 (turnedP nd r i).2
theorem run_plain {nd : Nd} (h : hasStP nd.k = false) (xs : List (Rc × Int)) : runP nd xs = (xs.flatMap (fun x => gP nd x.1 x.2), fun _ => none) := by
  have key : ∀ R : List (Rc × Int), runP nd R.reverse = (R.reverse.flatMap (fun x => gP nd x.1 x.2), fun _ => none) := by
    intro R
    induction R with
    | nil => rfl
    | cons x R ih =>
      rw [List.reverse_cons, runP_snoc, ih, List.flatMap_append]
      simp [stepP, appP, h, gP]
  have := key xs.reverse
  rwa [List.reverse_reverse] at this
theorem hand_plain {nd : Nd} (h : hasStP nd.k = false) (G : List (List Rc)) : handP nd G = if 2000 < ((tagP 0 G).flatMap (fun x => gP nd x.1 x.2)).length then none else some ((tagP 0 G).flatMap (fun x => gP nd x.1 x.2)) := by
  unfold handP; rw [run_plain h]
theorem tag_one (l : List Rc) : tagP 0 [l] = l.map fun x => (x, 0) := by simp [tagP]
/-- A node that makes one record of each. -/
theorem hand_map {nd : Nd} (h : hasStP nd.k = false) {l : List Rc} {f : Rc → Rc} (hf : ∀ r ∈ l, gP nd r 0 = [f r]) (hl : l.length ≤ 2000) : handP nd [l] = some (l.map f) := by
  have e : (tagP 0 [l]).flatMap (fun x => gP nd x.1 x.2) = l.map f := by
    rw [tag_one, List.flatMap_map]
    induction l with
    | nil => rfl
    | cons x r ih =>
      simp only [List.flatMap_cons, List.map_cons]
      rw [hf x (by simp), ih (fun y hy => hf y (by simp [hy])) (by simp at hl; omega)]; rfl
  rw [hand_plain h, e, if_neg (by simp; omega)]
theorem cop_one {r : Rc} (h : r.key.size ≤ 40) : copP r 1 = [r] := by
  unfold copP; rw [if_neg (by omega)]; rfl
theorem cop_zero (r : Rc) : copP r 0 = [] := by unfold copP; split <;> rfl

theorem g_same {k : Int} (hk : k = 1 ∨ k = 10) (fs : List Int) (tx : ByteArray) (n : Int) {r : Rc} (h : r.key.size ≤ 40) : gP ⟨k, fs, tx, n⟩ r 0 = [r] := by
  unfold gP turnedP; simp only [hk, if_true]; exact cop_one h
theorem hand_id {nd : Nd} (h : hasStP nd.k = false) {l : List Rc} (hf : ∀ r ∈ l, gP nd r 0 = [r]) (hl : l.length ≤ 2000) : handP nd [l] = some l := by
  have := hand_map (f := id) h hf hl
  simpa using this
theorem lines_nil : linesP [] = [] := by simp [linesP, keysP, firstsP]
end Go.Proofs.YthadeccnibnioaaGreatDoor
