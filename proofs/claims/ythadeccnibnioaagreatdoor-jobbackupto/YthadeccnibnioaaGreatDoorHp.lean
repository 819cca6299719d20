import Derived.Test.YthadeccnibnioaaGreatDoorPureE
import Derived.Lib.ItoaNum
import Derived.Lib.AtoiAll
import Derived.Lib.IndexLaws
import Derived.Lib.ItoaLen
/- What is wrong with a job, who uses whom: plain functions on lists of nodes. -/
namespace Go.Proofs.YthadeccnibnioaaGreatDoor

structure Nd where
  k : Int
  fs : List Int
  tx : ByteArray
  n : Int

/-- The error of a text. -/
def txP (l : List UInt8) : Nat :=
  match readP l with
  | .ok _ _ => 0
  | .bad _ e => e

def hasNP (k : Int) : Bool := k == 1 || k == 5 || k == 8
def hasTP (k : Int) : Bool := k == 2 || k == 3 || k == 4 || k == 7
def inLo (k : Int) : Int := if k = 1 then 0 else 1
def inHi (k : Int) : Int := if k = 1 then 0 else if k = 6 then 4 else 1
def bdLo (k : Int) : Int := if k = 1 then 1 else if k = 8 then 1 else 0
def bdHi (k : Int) : Int := if k = 1 then 8 else if k = 5 then 3 else if k = 8 then 400 else 0

def kindAt (ahead : List Nd) (f : Int) : Int :=
  match ahead[f.toNat]? with
  | some nd => nd.k
  | none => 0

def fromOne (ahead : List Nd) (f : Int) : Nat :=
  if f < 0 ∨ (ahead.length : Int) ≤ f then 1 else if kindAt ahead f = 10 then 7 else 0

def fromP (ahead : List Nd) : List Int → Nat
  | [] => 0
  | f :: r => if fromOne ahead f = 0 then fromP ahead r else fromOne ahead f

def ownP (nd : Nd) : Nat :=
  if (nd.tx ≠ ByteArray.empty ∧ hasTP nd.k = false) ∨ (nd.n ≠ 0 ∧ hasNP nd.k = false) then 3
  else if nd.n < bdLo nd.k ∨ bdHi nd.k < nd.n then 1
  else if hasTP nd.k = false then 0
  else txP nd.tx.data.toList

def nodeP (ahead : List Nd) (nd : Nd) : Nat :=
  if nd.k < 1 ∨ 10 < nd.k then 1
  else if (nd.fs.length : Int) < inLo nd.k ∨ inHi nd.k < (nd.fs.length : Int) then 3
  else if fromP ahead nd.fs = 0 then ownP nd else fromP ahead nd.fs

def allP (ahead : List Nd) : List Nd → Nat
  | [] => 0
  | nd :: r => if nodeP ahead nd = 0 then allP (ahead ++ [nd]) r else nodeP ahead nd

def endsP (l : List Nd) : Nat := if (l.any fun nd => nd.k == 1) && (l.any fun nd => nd.k == 10) then 0 else 6

def jobP (l : List Nd) : Nat :=
  if 12 < l.length then 4 else if allP [] l = 0 then endsP l else allP [] l

theorem allP_append (a : List Nd) : ∀ (xs ys : List Nd), allP a (xs ++ ys) = if allP a xs = 0 then allP (a ++ xs) ys else allP a xs := by
  intro xs
  induction xs generalizing a with
  | nil => intro ys; simp [allP]
  | cons x r ih =>
    intro ys
    simp only [List.cons_append, allP]
    by_cases h : nodeP a x = 0
    · simp only [h, if_true]
      rw [ih]; simp
    · simp [h]

def sink (at_ : Int) : Nd := ⟨10, [at_], ByteArray.empty, 0⟩

theorem job_ok {l : List Nd} (h : jobP l = 0) : l.length ≤ 12 ∧ allP [] l = 0 ∧ (l.any fun nd => nd.k == 1) = true ∧ (l.any fun nd => nd.k == 10) = true := by
  unfold jobP at h
  split at h
  · simp at h
  · split at h
    · rename_i h1 h2
      refine ⟨by omega, h2, ?_⟩
      unfold endsP at h
      split at h
      · rename_i h3; simpa using h3
      · simp at h
    · rename_i h2; exact absurd h h2

theorem job_grows {l : List Nd} {i : Nat} (h : jobP l = 0) (hl : l.length ≤ 11) (hi : i < l.length) (hk : (l[i]).k ≠ 10) : jobP (l ++ [sink i]) = 0 := by
  obtain ⟨h1, h2, h3, h4⟩ := job_ok h
  unfold jobP
  have e : nodeP l (sink i) = 0 := by
    have h0 : fromP l [(i : Int)] = 0 := by
      simp [fromP, fromOne, kindAt, hi, hk]
    have h5 : ownP (sink i) = 0 := by simp [ownP, sink, hasTP, hasNP, bdLo, bdHi]
    unfold nodeP
    simp [sink, inLo, inHi] at h0 h5 ⊢
    simp [h0, h5]
  have e2 : allP [] (l ++ [sink i]) = 0 := by
    rw [allP_append]; simp [h2, allP, e]
  have e3 : endsP (l ++ [sink i]) = 0 := by
    unfold endsP
    simp only [List.any_append, h3, h4]; simp
  simp [e2, e3]; omega

/-- The numbers of a kind; who uses a node. -/
def ofP (l : List Nd) (k : Int) : List Int := ((List.range l.length).filter fun i => (l.getD i (sink 0)).k == k).map fun (i : Nat) => (i : Int)
def usP (l : List Nd) (i : Int) : List Int := ((List.range l.length).filter fun j => (l.getD j (sink 0)).fs.contains i).map fun (j : Nat) => (j : Int)

theorem filter_grow {l : List Nd} (x : Nd) (f : Nd → Bool) :
    ((List.range (l ++ [x]).length).filter fun i => f ((l ++ [x]).getD i (sink 0))).map (fun (i : Nat) => (i : Int)) = ((List.range l.length).filter fun i => f (l.getD i (sink 0))).map (fun (i : Nat) => (i : Int)) ++ (if f x then [(l.length : Int)] else []) := by
  have h1 : (l ++ [x]).length = l.length + 1 := by simp
  rw [h1, List.range_succ, List.filter_append, List.map_append]
  congr 1
  · congr 1
    refine List.filter_congr fun i hi => ?_
    have : i < l.length := by simpa using hi
    simp [List.getD, List.getElem?_append_left this]
  · by_cases h : f x <;> simp [h, List.getD]

theorem of_grow (l : List Nd) (x : Nd) (k : Int) : ofP (l ++ [x]) k = ofP l k ++ (if x.k == k then [(l.length : Int)] else []) := filter_grow x (fun nd => nd.k == k)
theorem us_grow (l : List Nd) (x : Nd) (i : Int) : usP (l ++ [x]) i = usP l i ++ (if x.fs.contains i then [(l.length : Int)] else []) := filter_grow x (fun nd => nd.fs.contains i)
end Go.Proofs.YthadeccnibnioaaGreatDoor

/- An error of a text is never 0. -/
namespace Go.Proofs.YthadeccnibnioaaGreatDoor

def Bd (f : List UInt8 → Res) : Prop := ∀ u p e, f u = .bad p e → e ≠ 0
def Bd2 (f : Nat → List UInt8 → Res) : Prop := ∀ pl u p e, f pl u = .bad p e → e ≠ 0

theorem bd_num : Bd numF := by
  intro u p e h
  unfold numF at h
  split at h
  · cases h
  · injection h with _ h2; omega

theorem bd_pair {inC : Nat → List UInt8 → Res} (hC : Bd2 inC) (op : UInt8) : Bd2 (pairF inC op) := by
  intro pl u p e h
  unfold pairF at h
  split at h
  · rename_i hh; injection h with h1 h2; subst h2; exact hC _ _ _ _ hh
  · split at h
    · split at h
      · rename_i hh; injection h with h1 h2; subst h2; exact hC _ _ _ _ hh
      · split at h
        · cases h
        · injection h with _ h2; omega
    · injection h with _ h2; omega
theorem bd_brk {inC : Nat → List UInt8 → Res} (hC : Bd2 inC) : Bd2 (brkF inC) := by
  intro pl u p e h
  unfold brkF at h
  split at h
  · rename_i hh; injection h with h1 h2; subst h2; exact hC _ _ _ _ hh
  · split at h
    · cases h
    · injection h with _ h2; omega
theorem bd_single {inC : Nat → List UInt8 → Res} (hC : Bd2 inC) : Bd (singleF inC) := by
  intro u p e h
  unfold singleF at h
  split at h
  · cases h
  · split at h
    · cases h
    · split at h
      · exact bd_brk hC _ _ _ _ h
      · split at h
        · exact bd_pair hC _ _ _ _ _ h
        · split at h
          · exact bd_pair hC _ _ _ _ _ h
          · exact bd_num _ _ _ h
theorem bd_sign {inC inS : Nat → List UInt8 → Res} (hC : Bd2 inC) (hS : Bd2 inS) : Bd (signF inC inS) := by
  intro u p e h
  unfold signF at h
  split at h
  · unfold negF at h
    split at h
    · rename_i hh; injection h with h1 h2; subst h2; exact hS _ _ _ _ hh
    · cases h
  · exact bd_single hC _ _ _ h
theorem bd_loop {ops : List UInt8} {part : List UInt8 → Res} (hp : Bd part) : ∀ (f : Nat) (t : Tm) (v : List UInt8) (p e : Nat), loopF ops part f t v = .bad p e → e ≠ 0 := by
  intro f
  induction f with
  | zero =>
    intro t v p e h
    unfold loopF at h
    split at h
    · cases h
    · cases h
  | succ f ih =>
    intro t v p e h
    unfold loopF at h
    split at h
    · cases h
    · simp only at h
      split at h
      · rename_i hh; injection h with h1 h2; subst h2; exact hp _ _ _ hh
      · exact ih _ _ _ _ h
theorem bd_row {ops : List UInt8} {part : List UInt8 → Res} (hp : Bd part) : Bd (rowF ops part) := by
  intro u p e h
  unfold rowF at h
  split at h
  · rename_i hh; injection h with h1 h2; subst h2; exact hp _ _ _ hh
  · exact bd_loop hp _ _ _ _ _ h
theorem bd_cmp {sum : List UInt8 → Res} (hs : Bd sum) : Bd (cmpF sum) := by
  intro u p e h
  unfold cmpF at h
  split at h
  · rename_i hh; injection h with h1 h2; subst h2; exact hs _ _ _ hh
  · split at h
    · cases h
    · split at h
      · rename_i hh; injection h with h1 h2; subst h2; exact hs _ _ _ hh
      · cases h
theorem bd_cho {inC : Nat → List UInt8 → Res} {cmp : List UInt8 → Res} (hC : Bd2 inC) (hc : Bd cmp) : Bd (choF inC cmp) := by
  intro u p e h
  unfold choF at h
  split at h
  · rename_i hh; injection h with h1 h2; subst h2; exact hc _ _ _ hh
  · split at h
    · split at h
      · rename_i hh; injection h with h1 h2; subst h2; exact hC _ _ _ _ hh
      · split at h
        · split at h
          · rename_i hh; injection h with h1 h2; subst h2; exact hC _ _ _ _ hh
          · cases h
        · injection h with _ h2; omega
    · cases h
theorem bd_lev : ∀ d, Bd2 (inCh d) ∧ Bd2 (inSg d) := by
  intro d
  induction d with
  | zero => exact ⟨fun pl u p e h => by rw [inCh_zero] at h; injection h with _ h2; omega, fun pl u p e h => by rw [inSg_zero] at h; injection h with _ h2; omega⟩
  | succ d ih =>
    have hs : Bd (sgP d) := fun u p e h => by rw [sgP_eq] at h; exact bd_sign ih.1 ih.2 _ _ _ h
    refine ⟨fun pl u p e h => ?_, fun pl u p e h => ?_⟩
    · rw [inCh_succ, chP_eq] at h
      exact bd_cho ih.1 (bd_cmp (bd_row (bd_row hs))) _ _ _ h
    · rw [inSg_succ] at h; exact hs _ _ _ h
theorem read_bad_pos {l : List UInt8} {p e : Nat} (h : readP l = .bad p e) : e ≠ 0 := by
  unfold readP at h
  split at h
  · injection h with _ h2; omega
  · unfold wholeP at h
    split at h
    · rename_i hh; injection h with h1 h2; subst h2
      exact (bd_lev 21).1 0 _ _ _ (by rw [inCh_succ]; exact hh)
    · split at h
      · cases h
      · injection h with _ h2; omega
end Go.Proofs.YthadeccnibnioaaGreatDoor

/- Jobs as texts: what is printed is read as it was, and what is read is printed as it was: the plain half of JobBack. -/
namespace Go.Proofs.YthadeccnibnioaaGreatDoor
open Go.Lib (decDigits itoa)
set_option linter.unusedVariables false

/-- The kinds' names. -/
def nameP (k : Int) : List UInt8 :=
  if k = 1 then [115, 111, 117, 114, 99, 101] else if k = 2 then [109, 97, 112] else if k = 3 then [102, 105, 108, 116, 101, 114]
  else if k = 4 then [115, 117, 98] else if k = 5 then [99, 111, 112, 121] else if k = 6 then [117, 110, 105, 111, 110]
  else if k = 7 then [102, 111, 108, 100] else if k = 8 then [101, 118, 101, 114, 121] else if k = 9 then [102, 105, 114, 115, 116]
  else if k = 10 then [115, 105, 110, 107] else []
def kindP (w : List UInt8) : Int :=
  if w = nameP 1 then 1 else if w = nameP 2 then 2 else if w = nameP 3 then 3 else if w = nameP 4 then 4 else if w = nameP 5 then 5
  else if w = nameP 6 then 6 else if w = nameP 7 then 7 else if w = nameP 8 then 8 else if w = nameP 9 then 9 else if w = nameP 10 then 10 else 0
theorem kind_name {w : List UInt8} (h : kindP w ≠ 0) : nameP (kindP w) = w ∧ 1 ≤ kindP w ∧ kindP w ≤ 10 := by
  unfold kindP at h ⊢
  repeat' split
  all_goals first
    | (rename_i e; exact ⟨e.symm, by decide, by decide⟩)
    | (exfalso; apply h; repeat rw [if_neg (by assumption)])
theorem kinds {k : Int} (h1 : 1 ≤ k) (h2 : k ≤ 10) : k = 1 ∨ k = 2 ∨ k = 3 ∨ k = 4 ∨ k = 5 ∨ k = 6 ∨ k = 7 ∨ k = 8 ∨ k = 9 ∨ k = 10 := by omega
theorem name_kind {k : Int} (h1 : 1 ≤ k) (h2 : k ≤ 10) : kindP (nameP k) = k ∧ (32 : UInt8) ∉ nameP k ∧ (10 : UInt8) ∉ nameP k := by
  rcases kinds h1 h2 with rfl | rfl | rfl | rfl | rfl | rfl | rfl | rfl | rfl | rfl
  all_goals decide

/-- The words of a line. -/
def splitW : List UInt8 → List (List UInt8)
  | [] => [[]]
  | c :: r => if c = 32 then [] :: splitW r else
    match splitW r with
    | [] => [[c]]
    | w :: ws => (c :: w) :: ws
def joinB (ws : List (List UInt8)) : List UInt8 := ws.flatMap fun w => 32 :: w
theorem split_some (l : List UInt8) : ∃ w ws, splitW l = w :: ws := by
  cases l with
  | nil => exact ⟨[], [], rfl⟩
  | cons c r =>
    rw [splitW]
    split
    · exact ⟨_, _, rfl⟩
    · split <;> exact ⟨_, _, rfl⟩
theorem split_join : ∀ (l : List UInt8) (w : List UInt8) (ws : List (List UInt8)), splitW l = w :: ws → l = w ++ joinB ws
  | [], w, ws, h => by
    rw [splitW] at h
    injection h with h1 h2
    subst h1; subst h2; rfl
  | c :: r, w, ws, h => by
    obtain ⟨w', ws', e⟩ := split_some r
    have ih := split_join r w' ws' e
    rw [splitW, e] at h
    split at h
    · rename_i hc
      injection h with h1 h2
      subst h1; subst h2; subst hc
      rw [ih]; simp [joinB]
    · injection h with h1 h2
      subst h1; subst h2
      rw [ih]; rfl
theorem split_app : ∀ (w : List UInt8) (l : List UInt8) (w' : List UInt8) (ws : List (List UInt8)), (32 : UInt8) ∉ w → splitW l = w' :: ws → splitW (w ++ l) = (w ++ w') :: ws
  | [], l, w', ws, _, h => h
  | c :: w, l, w', ws, hn, h => by
    have hc : c ≠ 32 := fun e => hn (by rw [e]; exact List.mem_cons_self)
    have ih := split_app w l w' ws (fun hm => hn (List.mem_cons_of_mem _ hm)) h
    rw [List.cons_append, splitW, if_neg hc, ih]; rfl
theorem split_of : ∀ (ws : List (List UInt8)) (w : List UInt8), (32 : UInt8) ∉ w → (∀ x ∈ ws, (32 : UInt8) ∉ x) → splitW (w ++ joinB ws) = w :: ws
  | [], w, hw, _ => by
    have := split_app w [] [] [] hw rfl
    simpa [joinB] using this
  | x :: ws, w, hw, h => by
    have ih := split_of ws x (h x List.mem_cons_self) (fun y hy => h y (List.mem_cons_of_mem _ hy))
    have e : splitW (joinB (x :: ws)) = [] :: x :: ws := by
      show splitW (32 :: (x ++ joinB ws)) = _
      rw [splitW, if_pos rfl, ih]
    have := split_app w _ _ _ hw e
    simpa using this

open Classical in
/-- A number of a line. -/
noncomputable def numR (w : List UInt8) : Option Int := if h : ∃ n : Int, (0 ≤ n ∧ n ≤ 999) ∧ itoa n = w then some h.choose else none
theorem numR_some {w : List UInt8} {n : Int} (h : numR w = some n) : itoa n = w ∧ 0 ≤ n ∧ n ≤ 999 := by
  unfold numR at h
  split at h
  · rename_i hx
    injection h with h
    subst h
    exact ⟨hx.choose_spec.2, hx.choose_spec.1⟩
  · cases h
theorem dec_inj : ∀ (u v : Nat), decDigits u = decDigits v → u = v := by
  intro u
  induction u using Nat.strongRecOn with
  | ind u ih =>
    intro v h
    have l1 : ∀ x : Nat, decDigits x ≠ [] := fun x => by rw [decDigits]; split <;> simp
    rw [decDigits, decDigits.eq_def v] at h
    have t8 : ∀ x : Nat, x < 10 → (UInt8.ofNat (48 + x)).toNat = 48 + x := fun x hx => by rw [UInt8.toNat_ofNat']; omega
    split at h
    · split at h
      · have h3 := congrArg UInt8.toNat (List.cons.inj h).1
        rw [t8 _ (by assumption), t8 _ (by assumption)] at h3
        omega
      · have := congrArg List.length h
        have h4 := List.length_pos_iff.2 (l1 (v / 10))
        rw [List.length_append] at this
        simp only [List.length_cons, List.length_nil] at this
        omega
    · split at h
      · have := congrArg List.length h
        have h4 := List.length_pos_iff.2 (l1 (u / 10))
        rw [List.length_append] at this
        simp only [List.length_cons, List.length_nil] at this
        omega
      · obtain ⟨h5, h6⟩ := List.append_inj' h (by simp)
        have h7 := ih (u / 10) (by omega) (v / 10) h5
        have h3 := congrArg UInt8.toNat (List.cons.inj h6).1
        rw [t8 _ (by omega), t8 _ (by omega)] at h3
        omega
theorem ito_nat (n : Nat) : itoa (n : Int) = decDigits n := by
  unfold itoa
  rw [if_neg (by omega)]; rfl
theorem numR_of {n : Int} (h0 : 0 ≤ n) (h9 : n ≤ 999) : numR (itoa n) = some n := by
  have hx : ∃ m : Int, (0 ≤ m ∧ m ≤ 999) ∧ itoa m = itoa n := ⟨n, ⟨h0, h9⟩, rfl⟩
  unfold numR
  rw [dif_pos hx]
  obtain ⟨⟨a, b⟩, e⟩ := hx.choose_spec
  generalize hx.choose = x at *
  obtain ⟨m, rfl⟩ : ∃ m : Nat, n = m := ⟨n.toNat, by omega⟩
  obtain ⟨y, rfl⟩ : ∃ m : Nat, x = m := ⟨x.toNat, by omega⟩
  rw [ito_nat, ito_nat] at e
  rw [dec_inj _ _ e]
noncomputable def numsR : List (List UInt8) → Option (List Int)
  | [] => some []
  | w :: ws => match numR w with
    | none => none
    | some n => match numsR ws with
      | none => none
      | some ns => some (n :: ns)
theorem numsR_some : ∀ {ws : List (List UInt8)} {ns : List Int}, numsR ws = some ns → ns.map itoa = ws
  | [], ns, h => by rw [numsR] at h; injection h with h; subst h; rfl
  | w :: ws, ns, h => by
    rw [numsR] at h
    split at h
    · cases h
    · rename_i n hn
      split at h
      · cases h
      · rename_i ms hm
        injection h with h
        subst h
        rw [List.map_cons, (numR_some hn).1, numsR_some hm]
theorem numsR_of : ∀ {ns : List Int}, (∀ n ∈ ns, 0 ≤ n ∧ n ≤ 999) → numsR (ns.map itoa) = some ns
  | [], _ => rfl
  | n :: ns, h => by
    rw [List.map_cons, numsR, numR_of (h n List.mem_cons_self).1 (h n List.mem_cons_self).2, numsR_of (fun m hm => h m (List.mem_cons_of_mem _ hm))]

/-- The words behind a kind's name: those of From, and its own. -/
def partP (k : Int) (ws : List (List UInt8)) : Option (List (List UInt8) × List UInt8) :=
  if hasNP k || hasTP k then
    match ws.getLast? with
    | none => none
    | some own => if (k = 1 ∧ ws.dropLast = []) ∨ (k ≠ 1 ∧ ws.dropLast.length = 1) then some (ws.dropLast, own) else none
  else if k = 6 ∨ ws.length = 1 then some (ws, []) else none
/-- A line as a node (e: an empty Text makes it none). -/
noncomputable def readNd (e : Bool) (line : List UInt8) : Option Nd :=
  match splitW line with
  | [] => none
  | w :: ws =>
    if kindP w = 0 then none else
    match partP (kindP w) ws with
    | none => none
    | some (fr, own) =>
      match numsR fr with
      | none => none
      | some fs =>
        if hasNP (kindP w) then (numR own).map fun n => ⟨kindP w, fs, ByteArray.empty, n⟩
        else if hasTP (kindP w) then (if e = true ∧ own = [] then none else some ⟨kindP w, fs, ⟨own.toArray⟩, 0⟩)
        else some ⟨kindP w, fs, ByteArray.empty, 0⟩
def wordsB (nd : Nd) : List (List UInt8) := nd.fs.map itoa ++ (if hasNP nd.k then [itoa nd.n] else []) ++ (if hasTP nd.k then [nd.tx.data.toList] else [])
def lineB (nd : Nd) : List UInt8 := nameP nd.k ++ joinB (wordsB nd)
def printB (l : List Nd) : List UInt8 := l.flatMap fun nd => lineB nd ++ [10]
theorem nt_not {k : Int} (h : hasNP k = true) : hasTP k = false := by
  unfold hasNP at h
  unfold hasTP
  simp at h ⊢
  omega
theorem last_drop {ws : List (List UInt8)} {own : List UInt8} (h : ws.getLast? = some own) : ws.dropLast ++ [own] = ws := by
  obtain ⟨hn, e⟩ := List.getLast?_eq_some_iff.1 h |>.elim (fun p e => (⟨by rw [e]; simp, by rw [e]; simp⟩ : ws ≠ [] ∧ ws.dropLast ++ [own] = ws))
  exact e
theorem read_line {e : Bool} {line : List UInt8} {nd : Nd} (h : readNd e line = some nd) : lineB nd = line := by
  unfold readNd at h
  split at h
  · cases h
  · rename_i w ws hs
    have hl := split_join _ _ _ hs
    split at h
    · cases h
    · rename_i hk
      obtain ⟨hn, -, -⟩ := kind_name hk
      split at h
      · cases h
      · rename_i fr own hp
        split at h
        · cases h
        · rename_i fs hfs
          have hm := numsR_some hfs
          unfold partP at hp
          cases hN : hasNP (kindP w) with
          | true =>
            have hT := nt_not hN
            rw [hN] at h hp
            simp only [Bool.true_or, if_true] at h hp
            split at hp
            · cases hp
            · rename_i own' hg
              split at hp
              · injection hp with hp
                injection hp with p1 p2
                subst p1; subst p2
                cases hnum : numR own' with
                | none => rw [hnum] at h; cases h
                | some n =>
                  rw [hnum] at h
                  injection h with h
                  subst h
                  unfold lineB wordsB
                  simp only [hN, hT, if_true, Bool.false_eq_true, if_false, List.append_nil]
                  rw [hn, hm, (numR_some hnum).1, last_drop hg, hl]
              · cases hp
          | false =>
            rw [hN] at h hp
            simp only [Bool.false_or, Bool.false_eq_true, if_false] at h hp
            cases hT : hasTP (kindP w) with
            | true =>
              rw [hT] at h hp
              simp only [if_true] at h hp
              split at hp
              · cases hp
              · rename_i own' hg
                split at hp
                · injection hp with hp
                  injection hp with p1 p2
                  subst p1; subst p2
                  split at h
                  · cases h
                  · injection h with h
                    subst h
                    unfold lineB wordsB
                    simp only [hN, hT, if_true, Bool.false_eq_true, if_false, List.append_nil]
                    rw [hn, hm, last_drop hg, hl]
                · cases hp
            | false =>
              rw [hT] at h hp
              simp only [Bool.false_eq_true, if_false] at h hp
              split at hp
              · injection hp with hp
                injection hp with p1 p2
                subst p1; subst p2
                injection h with h
                subst h
                unfold lineB wordsB
                simp only [hN, hT, Bool.false_eq_true, if_false, List.append_nil]
                rw [hn, hm, hl]
              · cases hp

/-- What a text of an expression holds: neither a blank nor a line's end. -/
def Tight (s : List UInt8) : Prop := s ≠ [] ∧ (32 : UInt8) ∉ s ∧ (10 : UInt8) ∉ s
theorem gr_tight {d l : Nat} {s : List UInt8} {t : Tm} (h : Gr d l s t) : Tight s := by
  unfold Tight
  induction h with
  | num d s h hd h0 hv => exact ⟨h, fun hm => absurd (hd _ hm) (by decide), fun hm => absurd (hd _ hm) (by decide)⟩
  | vn => decide
  | vs => decide
  | brk h ih => exact ⟨by simp, by simp [ih.2.1], by simp [ih.2.2]⟩
  | mn ha hb iha ihb => exact ⟨by simp, by simp [iha.2.1, ihb.2.1], by simp [iha.2.2, ihb.2.2]⟩
  | mx ha hb iha ihb => exact ⟨by simp, by simp [iha.2.1, ihb.2.1], by simp [iha.2.2, ihb.2.2]⟩
  | neg h ih => exact ⟨by simp, by simp [ih.2.1], by simp [ih.2.2]⟩
  | mul op ho ha hb iha ihb =>
    have n1 : ¬ (32 : UInt8) = op := fun e => by subst e; exact absurd ho (by decide)
    have n2 : ¬ (10 : UInt8) = op := fun e => by subst e; exact absurd ho (by decide)
    exact ⟨by simp, by simp [iha.2.1, ihb.2.1, n1], by simp [iha.2.2, ihb.2.2, n2]⟩
  | add op ho ha hb iha ihb =>
    have n1 : ¬ (32 : UInt8) = op := fun e => by subst e; exact absurd ho (by decide)
    have n2 : ¬ (10 : UInt8) = op := fun e => by subst e; exact absurd ho (by decide)
    exact ⟨by simp, by simp [iha.2.1, ihb.2.1, n1], by simp [iha.2.2, ihb.2.2, n2]⟩
  | cmp op ho ha hb iha ihb =>
    have n1 : ¬ (32 : UInt8) = op := fun e => by subst e; exact absurd ho (by decide)
    have n2 : ¬ (10 : UInt8) = op := fun e => by subst e; exact absurd ho (by decide)
    exact ⟨by simp, by simp [iha.2.1, ihb.2.1, n1], by simp [iha.2.2, ihb.2.2, n2]⟩
  | cond ha hb hc iha ihb ihc => exact ⟨by simp, by simp [iha.2.1, ihb.2.1, ihc.2.1], by simp [iha.2.2, ihb.2.2, ihc.2.2]⟩
  | up hl h ih => exact ih
theorem tx_tight {l : List UInt8} (h : txP l = 0) : Tight l := by
  unfold txP at h
  cases hr : readP l with
  | ok t v => exact gr_tight (read_ok hr).2.2
  | bad p e => rw [hr] at h; exact absurd h (read_bad_pos hr)
theorem dec_tight (u : Nat) : ∀ c ∈ decDigits u, 48 ≤ c.toNat := by
  induction u using Nat.strongRecOn with
  | ind u ih =>
    intro c hc
    rw [decDigits] at hc
    split at hc
    · rw [List.mem_singleton] at hc; subst hc; rw [UInt8.toNat_ofNat']; omega
    · rcases List.mem_append.1 hc with h | h
      · exact ih (u / 10) (by omega) c h
      · rw [List.mem_singleton] at h; subst h; rw [UInt8.toNat_ofNat']; omega
theorem ito_tight {n : Int} (h : 0 ≤ n) : (32 : UInt8) ∉ itoa n ∧ (10 : UInt8) ∉ itoa n := by
  obtain ⟨m, rfl⟩ : ∃ m : Nat, n = m := ⟨n.toNat, by omega⟩
  rw [ito_nat]
  exact ⟨fun hm => absurd (dec_tight m _ hm) (by decide), fun hm => absurd (dec_tight m _ hm) (by decide)⟩
theorem from_ok {ah : List Nd} : ∀ {fs : List Int}, fromP ah fs = 0 → ∀ f ∈ fs, 0 ≤ f ∧ f < ah.length
  | [], _, f, hf => absurd hf (by simp)
  | g :: fs, h, f, hf => by
    rw [fromP] at h
    split at h
    · rename_i hg
      rcases List.mem_cons.1 hf with rfl | hf
      · unfold fromOne at hg
        split at hg
        · cases hg
        · rename_i hn
          omega
      · exact from_ok h f hf
    · rename_i hg
      exact absurd h hg
/-- What a right node has. -/
theorem node_ok {ah : List Nd} {nd : Nd} (ha : ah.length ≤ 12) (h : nodeP ah nd = 0) : (1 ≤ nd.k ∧ nd.k ≤ 10) ∧ (∀ f ∈ nd.fs, 0 ≤ f ∧ f ≤ 999) ∧ (inLo nd.k ≤ nd.fs.length ∧ nd.fs.length ≤ inHi nd.k) ∧ (0 ≤ nd.n ∧ nd.n ≤ 999) ∧ (hasNP nd.k = false → nd.n = 0) ∧ (hasTP nd.k = false → nd.tx = ByteArray.empty) ∧ (hasTP nd.k = true → Tight nd.tx.data.toList) := by
  unfold nodeP at h
  split at h
  · cases h
  · rename_i h1
    split at h
    · cases h
    · rename_i h2
      split at h
      · rename_i h3
        unfold ownP at h
        split at h
        · cases h
        · rename_i h4
          split at h
          · cases h
          · rename_i h5
            refine ⟨by omega, fun f hf => ?_, by omega, ?_, fun hN => ?_, fun hT => ?_, fun hT => ?_⟩
            · have := from_ok h3 f hf
              omega
            · unfold bdLo bdHi at h5
              constructor
              · have : 0 ≤ (if nd.k = 1 then (1 : Int) else if nd.k = 8 then 1 else 0) := by split <;> (try split) <;> omega
                omega
              · have : (if nd.k = 1 then (8 : Int) else if nd.k = 5 then 3 else if nd.k = 8 then 400 else 0) ≤ 999 := by repeat' split
                                                                                                                         all_goals omega
                omega
            · exact Classical.byContradiction fun hne => h4 (.inr ⟨hne, hN⟩)
            · exact Classical.byContradiction fun hne => h4 (.inl ⟨hne, hT⟩)
            · rw [if_neg (by rw [hT]; decide)] at h
              exact tx_tight h
      · rename_i h3
        exact absurd h h3
theorem words_tight {ah : List Nd} {nd : Nd} (ha : ah.length ≤ 12) (h : nodeP ah nd = 0) : ∀ x ∈ wordsB nd, (32 : UInt8) ∉ x ∧ (10 : UInt8) ∉ x := by
  obtain ⟨hk, hf, hl, hn, hN, hT, ht⟩ := node_ok ha h
  intro x hx
  unfold wordsB at hx
  rcases List.mem_append.1 hx with hx | hx
  · rcases List.mem_append.1 hx with hx | hx
    · obtain ⟨f, hm, rfl⟩ := List.mem_map.1 hx
      exact ito_tight (hf f hm).1
    · split at hx
      · rw [List.mem_singleton] at hx; subst hx; exact ito_tight hn.1
      · simp at hx
  · split at hx
    · rename_i ht'
      rw [List.mem_singleton] at hx; subst hx; exact (ht ht').2
    · simp at hx
theorem ba_back (b : ByteArray) : (⟨b.data.toList.toArray⟩ : ByteArray) = b := by cases b; simp
theorem line_read (e : Bool) {ah : List Nd} {nd : Nd} (ha : ah.length ≤ 12) (h : nodeP ah nd = 0) : readNd e (lineB nd) = some nd := by
  have hw := words_tight ha h
  obtain ⟨hk, hf, hl, hn, hN, hT, ht⟩ := node_ok ha h
  obtain ⟨e1, e2, e3⟩ := name_kind hk.1 hk.2
  have hs : splitW (lineB nd) = nameP nd.k :: wordsB nd := split_of _ _ e2 (fun x hx => (hw x hx).1)
  have hfs := numsR_of hf
  have hnn := numR_of hn.1 hn.2
  unfold readNd
  rw [hs]
  simp only []
  rw [e1, if_neg (by omega)]
  unfold partP wordsB
  cases hN' : hasNP nd.k with
  | true =>
    have hT' := nt_not hN'
    have hc : (nd.k = 1 ∧ nd.fs.map itoa = []) ∨ (nd.k ≠ 1 ∧ (nd.fs.map itoa).length = 1) := by
      unfold hasNP at hN'
      unfold inLo inHi at hl
      by_cases h1 : nd.k = 1
      · rw [if_pos h1, if_pos h1] at hl
        exact .inl ⟨h1, by rw [List.map_eq_nil_iff]; exact List.eq_nil_of_length_eq_zero (by omega)⟩
      · have h6 : nd.k ≠ 6 := by simp at hN'; omega
        rw [if_neg h1, if_neg h1, if_neg h6] at hl
        exact .inr ⟨h1, by rw [List.length_map]; omega⟩
    simp only [hT', Bool.true_or, if_true, Bool.false_eq_true, if_false, List.append_nil, List.getLast?_concat, List.dropLast_concat]
    rw [if_pos hc]
    simp only [hfs, hnn, Option.map_some]
    have := hT hT'
    cases nd
    simp_all
  | false =>
    cases hT' : hasTP nd.k with
    | true =>
      have hc : (nd.k = 1 ∧ nd.fs.map itoa = []) ∨ (nd.k ≠ 1 ∧ (nd.fs.map itoa).length = 1) := by
        unfold hasTP at hT'
        unfold inLo inHi at hl
        have h1 : nd.k ≠ 1 := by simp at hT'; omega
        have h6 : nd.k ≠ 6 := by simp at hT'; omega
        rw [if_neg h1, if_neg h1, if_neg h6] at hl
        exact .inr ⟨h1, by rw [List.length_map]; omega⟩
      simp only [Bool.or_true, if_true, Bool.false_eq_true, if_false, List.append_nil, List.getLast?_concat, List.dropLast_concat]
      rw [if_pos hc]
      simp only [hfs]
      rw [if_neg (fun h => (ht hT').1 h.2), ba_back]
      have := hN hN'
      cases nd
      simp_all
    | false =>
      have hc : nd.k = 6 ∨ (nd.fs.map itoa).length = 1 := by
        unfold hasNP at hN'
        unfold inLo inHi at hl
        have h1 : nd.k ≠ 1 := by simp at hN'; omega
        by_cases h6 : nd.k = 6
        · exact .inl h6
        · rw [if_neg h1, if_neg h1, if_neg h6] at hl
          exact .inr (by rw [List.length_map]; omega)
      simp only [Bool.or_self, Bool.false_eq_true, if_false, List.append_nil]
      rw [if_pos hc]
      simp only [hfs]
      have := hN hN'
      have := hT hT'
      cases nd
      simp_all
theorem line_tight {ah : List Nd} {nd : Nd} (ha : ah.length ≤ 12) (h : nodeP ah nd = 0) : (10 : UInt8) ∉ lineB nd := by
  have hw := words_tight ha h
  obtain ⟨hk, -⟩ := node_ok ha h
  intro hm
  unfold lineB at hm
  rcases List.mem_append.1 hm with hm | hm
  · exact (name_kind hk.1 hk.2).2.2 hm
  · unfold joinB at hm
    obtain ⟨x, hx, hm⟩ := List.mem_flatMap.1 hm
    rcases List.mem_cons.1 hm with hm | hm
    · exact absurd hm (by decide)
    · exact (hw x hx).2 hm

/-- A text up to its first line's end; what stands behind it; whether it is there. -/
def cutB : List UInt8 → List UInt8 × List UInt8 × Bool
  | [] => ([], [], false)
  | c :: r => if c = 10 then ([], r, true) else ((c :: (cutB r).1), (cutB r).2.1, (cutB r).2.2)
theorem cut_line : ∀ (w r : List UInt8), (10 : UInt8) ∉ w → cutB (w ++ 10 :: r) = (w, r, true)
  | [], r, _ => by rw [List.nil_append, cutB, if_pos rfl]
  | c :: w, r, h => by
    have ih := cut_line w r (fun hm => h (List.mem_cons_of_mem _ hm))
    rw [List.cons_append, cutB, if_neg (fun e => h (by rw [e]; exact List.mem_cons_self)), ih]
theorem cut_back : ∀ (l : List UInt8), (cutB l).2.2 = true → l = (cutB l).1 ++ 10 :: (cutB l).2.1
  | [], h => by cases h
  | c :: r, h => by
    rw [cutB] at h ⊢
    by_cases hc : c = 10
    · rw [if_pos hc]; subst hc; rfl
    · rw [if_neg hc] at h ⊢
      have ih := cut_back r h
      simp only [List.cons_append]
      rw [← ih]
theorem cut_less : ∀ (l : List UInt8), l ≠ [] → (cutB l).2.1.length < l.length
  | [], h => absurd rfl h
  | c :: r, _ => by
    rw [cutB]
    by_cases hc : c = 10
    · rw [if_pos hc]; simp
    · rw [if_neg hc]
      by_cases hr : r = []
      · subst hr; simp [cutB]
      · have := cut_less r hr
        simp; omega
/-- A job that was read; or the line, and what is wrong there. -/
inductive Job where
  | ok (l : List Nd)
  | bad (at_ e : Nat)
noncomputable def parseF (e : Bool) : Nat → List Nd → List UInt8 → Job
  | 0, _, _ => .bad 0 0
  | f + 1, ah, l =>
    if l = [] then (if endsP ah = 0 then .ok ah else .bad ah.length (endsP ah)) else
    match readNd e (cutB l).1 with
    | none => .bad ah.length 2
    | some nd =>
      if (cutB l).2.2 = false then .bad ah.length 2 else if ah.length = 12 then .bad ah.length 4
      else if nodeP ah nd = 0 then parseF e f (ah ++ [nd]) (cutB l).2.1 else .bad ah.length (nodeP ah nd)
noncomputable def parseP (e : Bool) (l : List UInt8) : Job := parseF e (l.length + 1) [] l
theorem all_app : ∀ (a b c : List Nd), allP c (a ++ b) = 0 ↔ allP c a = 0 ∧ allP (c ++ a) b = 0
  | [], b, c => by simp [allP]
  | x :: a, b, c => by
    rw [List.cons_append, allP, allP]
    by_cases h : nodeP c x = 0
    · rw [if_pos h, if_pos h, all_app a b (c ++ [x])]; simp
    · rw [if_neg h, if_neg h]
      constructor
      · intro h'; exact absurd h' h
      · rintro ⟨h', -⟩; exact absurd h' h
theorem parse_back {e : Bool} : ∀ (f : Nat) (ah : List Nd) (l : List UInt8) (m : List Nd), ah.length ≤ 12 → parseF e f ah l = .ok m → ∃ ns, m = ah ++ ns ∧ l = printB ns ∧ allP ah ns = 0 ∧ m.length ≤ 12 ∧ endsP m = 0
  | 0, ah, l, m, _, h => by cases h
  | f + 1, ah, l, m, ha, h => by
    rw [parseF] at h
    split at h
    · rename_i hl
      split at h
      · rename_i he
        injection h with h
        subst h
        exact ⟨[], by simp, by rw [hl]; rfl, rfl, ha, he⟩
      · cases h
    · split at h
      · cases h
      · rename_i nd hr
        split at h
        · cases h
        · rename_i hc
          split at h
          · cases h
          · rename_i h12
            split at h
            · rename_i hn
              obtain ⟨ns, e1, e2, e3, e4, e5⟩ := parse_back f (ah ++ [nd]) _ m (by simp; omega) h
              refine ⟨nd :: ns, by rw [e1]; simp, ?_, ?_, e4, e5⟩
              · rw [cut_back l (by simpa using hc), e2, ← read_line hr]; simp [printB]
              · rw [allP, if_pos hn]; exact e3
            · cases h
theorem parse_of (e : Bool) : ∀ (ns : List Nd) (f : Nat) (ah : List Nd), (printB ns).length < f → (ah ++ ns).length ≤ 12 → allP ah ns = 0 → endsP (ah ++ ns) = 0 → parseF e f ah (printB ns) = .ok (ah ++ ns)
  | [], f, ah, hf, _, _, he => by
    cases f with
    | zero => omega
    | succ f =>
      rw [List.append_nil] at he
      rw [parseF, if_pos (by rfl), if_pos he, List.append_nil]
  | nd :: ns, f, ah, hf, hl, ha, he => by
    cases f with
    | zero => omega
    | succ f =>
      rw [allP] at ha
      split at ha
      · rename_i hn
        have hl' : ah.length < 12 := by simp at hl; omega
        have ep : printB (nd :: ns) = lineB nd ++ 10 :: printB ns := by simp [printB]
        rw [ep] at hf ⊢
        rw [parseF, if_neg (by simp), cut_line _ _ (line_tight (by omega) hn)]
        simp only [line_read e (by omega : ah.length ≤ 12) hn]
        rw [if_neg (by decide), if_neg (by omega), if_pos hn, parse_of e ns f (ah ++ [nd]) (by simp at hf; omega) (by simpa using hl) ha (by simpa using he)]
        simp
      · rename_i hn
        exact absurd ha hn
/-- What is printed is read as it was. -/
theorem back_job (e : Bool) {l : List Nd} (h : jobP l = 0) : parseP e (printB l) = .ok l := by
  unfold jobP at h
  split at h
  · cases h
  · rename_i h1
    split at h
    · rename_i h2
      have := parse_of e l ((printB l).length + 1) [] (by omega) (by simpa using h1) h2 (by simpa using h)
      simpa [parseP] using this
    · rename_i h2
      exact absurd h h2
/-- What is read is printed as it was. -/
theorem back_text {e : Bool} {l : List UInt8} {m : List Nd} (h : parseP e l = .ok m) : jobP m = 0 ∧ printB m = l := by
  obtain ⟨ns, e1, e2, e3, e4, e5⟩ := parse_back _ [] l m (by simp) h
  rw [List.nil_append] at e1
  subst e1
  refine ⟨?_, e2.symm⟩
  unfold jobP
  rw [if_neg (by omega), if_pos e3, e5]
end Go.Proofs.YthadeccnibnioaaGreatDoor

/- What strconv.Atoi with Itoa decides; words of a line by their blanks. -/
namespace Go.Proofs.YthadeccnibnioaaGreatDoor
open Go.Lib (decDigits itoa)
set_option linter.unusedVariables false
theorem dec_small : ∀ n : Nat, n < 1000 → decDigits n = if n < 10 then [UInt8.ofNat (48 + n)] else if n < 100 then [UInt8.ofNat (48 + n / 10), UInt8.ofNat (48 + n % 10)] else [UInt8.ofNat (48 + n / 100), UInt8.ofNat (48 + n / 10 % 10), UInt8.ofNat (48 + n % 10)] := by
  intro n hn
  rw [decDigits]
  by_cases h1 : n < 10
  · rw [dif_pos h1, if_pos h1]
  · rw [dif_neg h1, if_neg h1, decDigits]
    by_cases h2 : n < 100
    · rw [dif_pos (show n / 10 < 10 by omega), if_pos h2]; rfl
    · rw [dif_neg (show ¬ n / 10 < 10 by omega), if_neg h2, decDigits, dif_pos (show n / 10 / 10 < 10 by omega)]
      have : n / 10 / 10 = n / 100 := by omega
      rw [this]; rfl
def tri (n : Nat) : List UInt8 := if n < 10 then [UInt8.ofNat (48 + n)] else if n < 100 then [UInt8.ofNat (48 + n / 10), UInt8.ofNat (48 + n % 10)] else [UInt8.ofNat (48 + n / 100), UInt8.ofNat (48 + n / 10 % 10), UInt8.ofNat (48 + n % 10)]
def okAt (n : Nat) : Bool := match Lib.atoiAll (tri n) with
  | .ok v => v == (n : Int)
  | _ => false
theorem ok_all : ∀ n : Nat, n < 1000 → okAt n = true := by decide +kernel
theorem atoi_ito {n : Int} (h0 : 0 ≤ n) (h9 : n ≤ 999) : Lib.atoiAll (itoa n) = .ok n := by
  obtain ⟨m, rfl⟩ : ∃ m : Nat, n = m := ⟨n.toNat, by omega⟩
  rw [ito_nat, dec_small m (by omega)]
  have h := ok_all m (by omega)
  unfold okAt at h
  unfold tri at h
  split at h
  · rename_i v hv
    rw [hv]
    simp only [beq_iff_eq] at h
    rw [h]
  · cases h
/-- What readNumber answers beside yes or no. -/
theorem numR_yes {l : List UInt8} {v : Int} (h : Lib.atoiAll l = .ok v) (h0 : 0 ≤ v) (h9 : v ≤ 999) (e : itoa v = l) : numR l = some v := by
  subst e; exact numR_of h0 h9
theorem numR_no {l : List UInt8} (h : ∀ v, Lib.atoiAll l = .ok v → ¬ (0 ≤ v ∧ v ≤ 999 ∧ itoa v = l)) : numR l = none := by
  cases hn : numR l with
  | none => rfl
  | some n =>
    obtain ⟨h1, h2, h3⟩ := numR_some hn
    have := atoi_ito h2 h3
    rw [h1] at this
    exact absurd ⟨h2, h3, h1⟩ (h n this)
/-- The kinds' names by their places. -/
def nmN (k : Nat) : List UInt8 := nameP k
end Go.Proofs.YthadeccnibnioaaGreatDoor

/- A text's first line, and a line's words, by the place of a byte. -/
namespace Go.Proofs.YthadeccnibnioaaGreatDoor
open Go.Lib (indexByte)
set_option linter.unusedVariables false
theorem idx_ways (l : List UInt8) (c : UInt8) : indexByte l c = -1 ∨ ∃ m : Nat, indexByte l c = m ∧ m < l.length := by
  have hg := Lib.indexByte_ge l c
  by_cases h : indexByte l c = -1
  · exact .inl h
  · right
    obtain ⟨m, hm⟩ : ∃ m : Nat, indexByte l c = m := ⟨(indexByte l c).toNat, by omega⟩
    have := (Lib.indexByte_some hm).1
    exact ⟨m, hm, (List.getElem?_eq_some_iff.1 this).1⟩
theorem idx_cons (b : UInt8) (l : List UInt8) (c : UInt8) : indexByte (b :: l) c = if b = c then 0 else if indexByte l c = -1 then -1 else indexByte l c + 1 := by
  rw [indexByte]
  by_cases h1 : b = c
  · simp [h1]
  · by_cases h2 : indexByte l c = -1 <;> simp [h1, h2]
theorem cut_none : ∀ {l : List UInt8}, indexByte l 10 = -1 → cutB l = (l, [], false)
  | [], _ => rfl
  | b :: l, h => by
    rw [idx_cons] at h
    by_cases h1 : b = 10
    · rw [if_pos h1] at h; cases h
    · rw [if_neg h1] at h
      by_cases h2 : indexByte l 10 = -1
      · rw [cutB, if_neg h1, cut_none h2]
      · rw [if_neg h2] at h
        have := Lib.indexByte_ge l 10
        omega
theorem cut_at : ∀ {l : List UInt8} {m : Nat}, indexByte l 10 = m → cutB l = (l.take m, l.drop (m + 1), true)
  | [], m, h => by rw [indexByte] at h; omega
  | b :: l, m, h => by
    rw [idx_cons] at h
    by_cases h1 : b = 10
    · rw [if_pos h1] at h
      obtain rfl : m = 0 := by omega
      rw [cutB, if_pos h1]; rfl
    · rw [if_neg h1] at h
      by_cases h2 : indexByte l 10 = -1
      · rw [if_pos h2] at h; omega
      · rw [if_neg h2] at h
        cases m with
        | zero => have := Lib.indexByte_ge l 10; omega
        | succ m =>
          rw [cutB, if_neg h1, cut_at (m := m) (by omega)]; rfl
theorem split_none : ∀ {l : List UInt8}, indexByte l 32 = -1 → splitW l = [l] ∧ l.count 32 = 0
  | [], _ => ⟨rfl, rfl⟩
  | b :: l, h => by
    rw [idx_cons] at h
    by_cases h1 : b = 32
    · rw [if_pos h1] at h; cases h
    · rw [if_neg h1] at h
      by_cases h2 : indexByte l 32 = -1
      · obtain ⟨e1, e2⟩ := split_none h2
        refine ⟨by rw [splitW, if_neg h1, e1], ?_⟩
        rw [List.count_cons, e2, if_neg (by simpa using h1)]
      · rw [if_neg h2] at h
        have := Lib.indexByte_ge l 32
        omega
theorem split_at : ∀ {l : List UInt8} {m : Nat}, indexByte l 32 = m → splitW l = l.take m :: splitW (l.drop (m + 1)) ∧ l.count 32 = (l.drop (m + 1)).count 32 + 1
  | [], m, h => by rw [indexByte] at h; omega
  | b :: l, m, h => by
    rw [idx_cons] at h
    by_cases h1 : b = 32
    · rw [if_pos h1] at h
      obtain rfl : m = 0 := by omega
      refine ⟨by rw [splitW, if_pos h1]; rfl, ?_⟩
      rw [List.count_cons, if_pos (by simpa using h1)]; rfl
    · rw [if_neg h1] at h
      by_cases h2 : indexByte l 32 = -1
      · rw [if_pos h2] at h; omega
      · rw [if_neg h2] at h
        cases m with
        | zero => have := Lib.indexByte_ge l 32; omega
        | succ m =>
          obtain ⟨e1, e2⟩ := split_at (l := l) (m := m) (by omega)
          refine ⟨by rw [splitW, if_neg h1, e1]; rfl, ?_⟩
          rw [List.count_cons, if_neg (by simpa using h1), e2]; rfl
theorem split_len : ∀ (n : Nat) (l : List UInt8), l.length ≤ n → (splitW l).length = l.count 32 + 1
  | n, l, hn => by
    rcases idx_ways l 32 with h | ⟨m, h, hm⟩
    · obtain ⟨e1, e2⟩ := split_none h
      rw [e1, e2]; rfl
    · obtain ⟨e1, e2⟩ := split_at h
      cases n with
      | zero => omega
      | succ n =>
        rw [e1, e2, List.length_cons, split_len n _ (by rw [List.length_drop]; omega)]
theorem split_count (l : List UInt8) : (splitW l).length = l.count 32 + 1 := split_len _ l (Nat.le_refl _)
end Go.Proofs.YthadeccnibnioaaGreatDoor

/- A line read: its ways, one by one. -/
namespace Go.Proofs.YthadeccnibnioaaGreatDoor
set_option linter.unusedVariables false
theorem nums_snoc : ∀ {ws : List (List UInt8)} {ns : List Int} {x : List UInt8} {n : Int}, numsR ws = some ns → numR x = some n → numsR (ws ++ [x]) = some (ns ++ [n])
  | [], ns, x, n, h, hx => by
    rw [numsR] at h; injection h with h; subst h
    simp [numsR, hx]
  | w :: ws, ns, x, n, h, hx => by
    rw [numsR] at h
    split at h
    · cases h
    · rename_i m hm
      split at h
      · cases h
      · rename_i ms hms
        injection h with h
        subst h
        rw [List.cons_append, numsR, hm]
        simp only
        rw [nums_snoc hms hx]
        rfl
theorem nums_take {ws : List (List UInt8)} {ns : List Int} {j : Nat} {n : Int} (hj : j < ws.length) (h : numsR (ws.take j) = some ns) (hx : numR ws[j] = some n) : numsR (ws.take (j + 1)) = some (ns ++ [n]) := by
  rw [List.take_succ_eq_append_getElem hj]
  exact nums_snoc h hx
theorem nums_none : ∀ {ws : List (List UInt8)} {j : Nat} (hj : j < ws.length), numR ws[j] = none → numsR ws = none
  | [], j, hj, h => by simp at hj
  | w :: ws, 0, hj, h => by
    rw [numsR]
    rw [List.getElem_cons_zero] at h
    rw [h]
  | w :: ws, j + 1, hj, h => by
    rw [numsR]
    rw [List.getElem_cons_succ] at h
    rw [nums_none (by simpa using hj) h]
    cases numR w <;> rfl
theorem nums_len : ∀ {ws : List (List UInt8)} {ns : List Int}, numsR ws = some ns → ns.length = ws.length := fun h => by
  rw [← numsR_some h, List.length_map]
theorem rd_nokind {l w0 : List UInt8} {ws : List (List UInt8)} (hs : splitW l = w0 :: ws) (hk : kindP w0 = 0) : readNd false l = none := by
  unfold readNd; rw [hs]; simp only; rw [if_pos hk]
theorem rd_nopart {l w0 : List UInt8} {ws : List (List UInt8)} {k : Int} (hs : splitW l = w0 :: ws) (hk : kindP w0 = k) (h0 : k ≠ 0) (hp : partP k ws = none) : readNd false l = none := by
  unfold readNd; rw [hs]; simp only; rw [hk, if_neg h0, hp]
theorem rd_nonum {l w0 own : List UInt8} {ws fr : List (List UInt8)} {k : Int} (hs : splitW l = w0 :: ws) (hk : kindP w0 = k) (h0 : k ≠ 0) (hp : partP k ws = some (fr, own)) (hn : numsR fr = none) : readNd false l = none := by
  unfold readNd; rw [hs]; simp only; rw [hk, if_neg h0, hp]; simp only; rw [hn]
theorem rd_N {l w0 own : List UInt8} {ws fr : List (List UInt8)} {k : Int} {fs : List Int} (hs : splitW l = w0 :: ws) (hk : kindP w0 = k) (h0 : k ≠ 0) (hp : partP k ws = some (fr, own)) (hn : numsR fr = some fs) (hN : hasNP k = true) : readNd false l = (numR own).map fun n => ⟨k, fs, ByteArray.empty, n⟩ := by
  unfold readNd; rw [hs]; simp only; rw [hk, if_neg h0, hp]; simp only; rw [hn]; simp only; rw [if_pos hN]
theorem rd_T {l w0 own : List UInt8} {ws fr : List (List UInt8)} {k : Int} {fs : List Int} (hs : splitW l = w0 :: ws) (hk : kindP w0 = k) (h0 : k ≠ 0) (hp : partP k ws = some (fr, own)) (hn : numsR fr = some fs) (hN : hasNP k = false) (hT : hasTP k = true) : readNd false l = some ⟨k, fs, ⟨own.toArray⟩, 0⟩ := by
  unfold readNd; rw [hs]; simp only; rw [hk, if_neg h0, hp]; simp only; rw [hn]; simp [hN, hT]
theorem rd_O {l w0 own : List UInt8} {ws fr : List (List UInt8)} {k : Int} {fs : List Int} (hs : splitW l = w0 :: ws) (hk : kindP w0 = k) (h0 : k ≠ 0) (hp : partP k ws = some (fr, own)) (hn : numsR fr = some fs) (hN : hasNP k = false) (hT : hasTP k = false) : readNd false l = some ⟨k, fs, ByteArray.empty, 0⟩ := by
  unfold readNd; rw [hs]; simp only; rw [hk, if_neg h0, hp]; simp only; rw [hn]; simp [hN, hT]
theorem join_len (ws : List (List UInt8)) : ∀ x ∈ ws, x.length + 1 ≤ (joinB ws).length := by
  intro x hx
  induction ws with
  | nil => simp at hx
  | cons a ws ih =>
    have e : joinB (a :: ws) = 32 :: a ++ joinB ws := rfl
    rw [e, List.length_append, List.length_cons]
    rcases List.mem_cons.1 hx with rfl | h
    · omega
    · have := ih h; omega
theorem join_many (ws : List (List UInt8)) : ws.length ≤ (joinB ws).length := by
  induction ws with
  | nil => simp
  | cons a ws ih =>
    have e : joinB (a :: ws) = 32 :: a ++ joinB ws := rfl
    rw [e, List.length_append, List.length_cons, List.length_cons]
    omega
theorem split_lens {l w0 : List UInt8} {ws : List (List UInt8)} (hs : splitW l = w0 :: ws) : ws.length ≤ l.length ∧ w0.length ≤ l.length ∧ ∀ x ∈ ws, x.length ≤ l.length := by
  have e := split_join _ _ _ hs
  have h1 := join_many ws
  have h2 := join_len ws
  have e2 : l.length = w0.length + (joinB ws).length := by rw [e, List.length_append]
  refine ⟨by omega, by omega, fun x hx => ?_⟩
  have := h2 x hx; omega
theorem part_sizes {k : Int} {ws fr : List (List UInt8)} {own : List UInt8} (h : partP k ws = some (fr, own)) : (∀ x ∈ fr, x ∈ ws) := by
  unfold partP at h
  split at h
  · split at h
    · cases h
    · split at h
      · injection h with h; injection h with h1 h2; subst h1
        exact fun x hx => List.dropLast_subset _ hx
      · cases h
  · split at h
    · injection h with h; injection h with h1 h2; subst h1
      exact fun x hx => hx
    · cases h
/-- The lines of a text, with whether each is ended. -/
def linesF : Nat → List UInt8 → List (List UInt8 × Bool)
  | 0, _ => []
  | f + 1, l => match l with
    | [] => []
    | b :: r => ((cutB (b :: r)).1, (cutB (b :: r)).2.2) :: linesF f (cutB (b :: r)).2.1
theorem linesF_more : ∀ (f g : Nat) (l : List UInt8), l.length < f → l.length < g → linesF f l = linesF g l
  | 0, g, l, h, _ => by omega
  | f + 1, 0, l, _, h => by omega
  | f + 1, g + 1, [], _, _ => rfl
  | f + 1, g + 1, b :: r, h1, h2 => by
    have hc := cut_less (b :: r) (by simp)
    rw [linesF, linesF]
    rw [linesF_more f g _ (by omega) (by omega)]
def linesP (l : List UInt8) : List (List UInt8 × Bool) := linesF (l.length + 1) l
theorem lines_nil : linesP [] = [] := rfl
theorem lines_cons {l : List UInt8} (h : l ≠ []) : linesP l = ((cutB l).1, (cutB l).2.2) :: linesP (cutB l).2.1 := by
  cases l with
  | nil => exact absurd rfl h
  | cons b r =>
    have hc := cut_less (b :: r) (by simp)
    rw [linesP, linesF]
    rw [linesP, linesF_more _ ((cutB (b :: r)).2.1.length + 1) _ (by omega) (by omega)]
theorem cut_len (l : List UInt8) : (cutB l).1.length ≤ l.length ∧ (cutB l).2.1.length ≤ l.length := by
  by_cases h : (cutB l).2.2 = true
  · have e := congrArg List.length (cut_back l h)
    rw [List.length_append, List.length_cons] at e
    omega
  · rcases idx_ways l 10 with hi | ⟨m, hi, hm⟩
    · rw [cut_none hi]; simp
    · rw [cut_at hi] at h; simp at h
theorem lines_many : ∀ (n : Nat) (l : List UInt8), l.length ≤ n → (linesP l).length ≤ l.length
  | n, [], _ => by simp [lines_nil]
  | 0, b :: r, h => by simp at h
  | n + 1, b :: r, h => by
    have hc := cut_less (b :: r) (by simp)
    rw [lines_cons (by simp), List.length_cons]
    have := lines_many n _ (by omega : (cutB (b :: r)).2.1.length ≤ n)
    omega
theorem rd_sizes {l : List UInt8} {nd : Nd} (h : readNd false l = some nd) : nd.fs.length ≤ l.length ∧ nd.tx.size ≤ l.length := by
  have e := read_line h
  have e2 := congrArg List.length e
  unfold lineB at e2
  rw [List.length_append] at e2
  have h1 := join_many (wordsB nd)
  have h2 : nd.fs.length ≤ (wordsB nd).length := by unfold wordsB; simp
  refine ⟨by omega, ?_⟩
  by_cases hT : hasTP nd.k = true
  · have h3 := join_len (wordsB nd) nd.tx.data.toList (by unfold wordsB; simp [hT])
    have h4 : nd.tx.data.toList.length = nd.tx.size := Array.length_toList
    omega
  · have : nd.tx = ByteArray.empty := by
      unfold readNd at h
      split at h
      · cases h
      · split at h
        · cases h
        · split at h
          · cases h
          · split at h
            · cases h
            · split at h
              · cases hn : numR _ with
                | none => rw [hn] at h; cases h
                | some n => rw [hn] at h; injection h with h; subst h; rfl
              · split at h
                · rename_i hT2
                  exfalso
                  simp at h
                  subst h
                  exact hT hT2
                · injection h with h; subst h; rfl
    rw [this]; exact Nat.zero_le _
/-- One line more, behind right ones. -/
noncomputable def stepL (ah : List Nd) (x : List UInt8 × Bool) : Job :=
  match readNd false x.1 with
  | none => .bad ah.length 2
  | some nd => if x.2 = false then .bad ah.length 2 else if ah.length = 12 then .bad ah.length 4 else if nodeP ah nd = 0 then .ok (ah ++ [nd]) else .bad ah.length (nodeP ah nd)
noncomputable def runL : Job → List (List UInt8 × Bool) → Job
  | .bad a e, _ => .bad a e
  | .ok ah, [] => .ok ah
  | .ok ah, x :: xs => runL (stepL ah x) xs
theorem runL_bad (a e : Nat) : ∀ xs, runL (.bad a e) xs = .bad a e
  | [] => rfl
  | _ :: _ => rfl
theorem runL_app : ∀ (xs : List (List UInt8 × Bool)) (j : Job) (ys : List (List UInt8 × Bool)), runL j (xs ++ ys) = runL (runL j xs) ys
  | xs, .bad a e, ys => by rw [runL_bad, runL_bad, runL_bad]
  | [], .ok ah, ys => rfl
  | x :: xs, .ok ah, ys => by rw [List.cons_append, runL, runL, runL_app xs]
def endL : Job → Job
  | .ok ah => if endsP ah = 0 then .ok ah else .bad ah.length (endsP ah)
  | .bad a e => .bad a e
theorem parse_lines : ∀ (f : Nat) (ah : List Nd) (l : List UInt8), l.length < f → parseF false f ah l = endL (runL (.ok ah) (linesP l))
  | 0, _, _, h => by omega
  | f + 1, ah, l, h => by
    rw [parseF]
    by_cases hl : l = []
    · subst hl
      rw [if_pos rfl, lines_nil]; rfl
    · rw [if_neg hl, lines_cons hl, runL]
      have hc := cut_less l hl
      unfold stepL
      simp only
      cases hr : readNd false (cutB l).1 with
      | none => simp only; rw [runL_bad]; rfl
      | some nd =>
        simp only
        split
        · rw [runL_bad]; rfl
        · split
          · rw [runL_bad]; rfl
          · split
            · exact parse_lines f _ _ (by omega)
            · rw [runL_bad]; rfl
/-- Where one is behind some lines. -/
noncomputable def stL (pre : List (List UInt8 × Bool)) : Job := runL (.ok []) pre
theorem stL_nil : stL [] = .ok [] := rfl
theorem stL_snoc {pre : List (List UInt8 × Bool)} {ah : List Nd} (h : stL pre = .ok ah) (x : List UInt8 × Bool) : stL (pre ++ [x]) = stepL ah x := by
  unfold stL at *
  rw [runL_app, h]
  rw [runL]
  cases stepL ah x with
  | ok l => rfl
  | bad a e => rfl
theorem parse_done {l : List UInt8} {ah : List Nd} (h : stL (linesP l) = .ok ah) : parseP false l = endL (.ok ah) := by
  rw [parseP, parse_lines _ _ _ (by omega)]
  unfold stL at h
  rw [h]
theorem parse_stop {l : List UInt8} {pre suf : List (List UInt8 × Bool)} {a e : Nat} (hl : linesP l = pre ++ suf) (h : stL pre = .bad a e) : parseP false l = .bad a e := by
  rw [parseP, parse_lines _ _ _ (by omega), hl, runL_app]
  unfold stL at h
  rw [h, runL_bad]; rfl
theorem stL_le : ∀ {xs : List (List UInt8 × Bool)} {ah bh : List Nd}, ah.length ≤ 12 → runL (.ok ah) xs = .ok bh → bh.length ≤ 12
  | [], ah, bh, h, e => by rw [runL] at e; injection e with e; subst e; exact h
  | x :: xs, ah, bh, h, e => by
    rw [runL] at e
    cases hs : stepL ah x with
    | bad a b => rw [hs, runL_bad] at e; cases e
    | ok ch =>
      rw [hs] at e
      refine stL_le ?_ e
      unfold stepL at hs
      split at hs
      · cases hs
      · split at hs
        · cases hs
        · split at hs
          · cases hs
          · split at hs
            · injection hs with hs; subst hs; simp; omega
            · cases hs
theorem st_none {ah : List Nd} {x : List UInt8 × Bool} (h : readNd false x.1 = none) : stepL ah x = .bad ah.length 2 := by unfold stepL; rw [h]
theorem st_open {ah : List Nd} {x : List UInt8 × Bool} (h : x.2 = false) : stepL ah x = .bad ah.length 2 := by
  unfold stepL; cases readNd false x.1 <;> simp [h]
theorem st_full {ah : List Nd} {x : List UInt8 × Bool} {nd : Nd} (h : readNd false x.1 = some nd) (h2 : x.2 = true) (h3 : ah.length = 12) : stepL ah x = .bad ah.length 4 := by
  unfold stepL; rw [h]; simp [h2, h3]
theorem st_wrong {ah : List Nd} {x : List UInt8 × Bool} {nd : Nd} (h : readNd false x.1 = some nd) (h2 : x.2 = true) (h3 : ah.length ≠ 12) (h4 : nodeP ah nd ≠ 0) : stepL ah x = .bad ah.length (nodeP ah nd) := by
  unfold stepL; rw [h]; simp [h2, h3, h4]
theorem st_right {ah : List Nd} {x : List UInt8 × Bool} {nd : Nd} (h : readNd false x.1 = some nd) (h2 : x.2 = true) (h3 : ah.length ≠ 12) (h4 : nodeP ah nd = 0) : stepL ah x = .ok (ah ++ [nd]) := by
  unfold stepL; rw [h]; simp [h2, h3, h4]
end Go.Proofs.YthadeccnibnioaaGreatDoor

/- Who uses whom, so far. -/
namespace Go.Proofs.YthadeccnibnioaaGreatDoor

def usTo (L : List Nd) (i : Int) (j : Nat) : List Int := ((List.range j).filter fun m => (L.getD m (sink 0)).fs.contains i).map fun (m : Nat) => (m : Int)
theorem usTo_zero (L : List Nd) (i : Int) : usTo L i 0 = [] := rfl
theorem usTo_all (L : List Nd) (i : Int) : usTo L i L.length = usP L i := rfl
theorem usTo_step {L : List Nd} {i : Int} {j : Nat} (h : j < L.length) : usTo L i (j + 1) = usTo L i j ++ (if L[j].fs.contains i then [(j : Int)] else []) := by
  unfold usTo
  rw [List.range_succ, List.filter_append, List.map_append]
  congr 1
  have : L.getD j (sink 0) = L[j] := by simp [List.getD, h]
  rw [List.filter_cons, List.filter_nil, this]
  split <;> rfl
theorem usTo_lt {L : List Nd} {i : Int} {j : Nat} : ∀ z ∈ usTo L i j, z < j := by
  intro z hz
  unfold usTo at hz
  simp at hz
  obtain ⟨m, hm, rfl⟩ := hz
  omega
theorem usTo_len (L : List Nd) (i : Int) (j : Nat) : (usTo L i j).length ≤ j := by
  unfold usTo; rw [List.length_map]
  exact Nat.le_trans (List.length_filter_le _ _) (by simp)

/-- Who uses node i among those ahead of j, and j itself by the first p of its numbers. -/
def rowP (L : List Nd) (j : Nat) (fs : List Int) (p : Nat) (i : Nat) : List Int := usTo L i j ++ (if (fs.take p).contains (i : Int) then [(j : Int)] else [])
theorem rowP_zero (L : List Nd) (j : Nat) (fs : List Int) (i : Nat) : rowP L j fs 0 i = usTo L i j := by simp [rowP]
theorem rowP_len (L : List Nd) (j : Nat) (fs : List Int) (p i : Nat) : (rowP L j fs p i).length ≤ j + 1 := by
  unfold rowP; rw [List.length_append]
  have := usTo_len L i j
  split <;> simp <;> omega
theorem rowP_end {L : List Nd} {j : Nat} (h : j < L.length) (i : Nat) : rowP L j L[j].fs L[j].fs.length i = usTo L i (j + 1) := by
  rw [usTo_step h, rowP, List.take_length]
theorem rowP_last {L : List Nd} {j : Nat} {fs : List Int} {p i : Nat} : (rowP L j fs p i = [] ∨ (rowP L j fs p i).getLast? ≠ some (j : Int)) ↔ (fs.take p).contains (i : Int) = false := by
  unfold rowP
  cases h : (fs.take p).contains (i : Int) with
  | true => simp
  | false =>
    simp only [Bool.false_eq_true, if_false, List.append_nil, iff_true]
    by_cases h0 : usTo L i j = []
    · exact .inl h0
    · right
      intro hh
      have := usTo_lt _ (List.mem_of_getLast? hh)
      omega
theorem rowP_same {L : List Nd} {j : Nat} {fs : List Int} {p x : Nat} (hp : p < fs.length) (hx : fs[p] = (x : Int)) (h : (fs.take p).contains (x : Int) = true) (i : Nat) : rowP L j fs (p + 1) i = rowP L j fs p i := by
  unfold rowP
  rw [List.take_succ_eq_append_getElem hp, hx]
  congr 1
  by_cases hi : i = x
  · subst hi; simp only [List.contains_append, h, Bool.true_or]
  · simp only [List.contains_append]
    have h2 : List.contains [(x : Int)] (i : Int) = false := by simp; omega
    rw [h2, Bool.or_false]
theorem rowP_more {L : List Nd} {j : Nat} {fs : List Int} {p x : Nat} (hp : p < fs.length) (hx : fs[p] = (x : Int)) (h : (fs.take p).contains (x : Int) = false) (i : Nat) :
    rowP L j fs (p + 1) i = if i = x then rowP L j fs p x ++ [(j : Int)] else rowP L j fs p i := by
  unfold rowP
  rw [List.take_succ_eq_append_getElem hp, hx]
  by_cases hi : i = x
  · subst hi
    simp only [List.contains_append, h, Bool.false_or]
    simp
  · rw [if_neg hi]
    congr 1
    simp only [List.contains_append]
    have h2 : List.contains [(x : Int)] (i : Int) = false := by simp; omega
    rw [h2, Bool.or_false]

theorem all_at {L : List Nd} (h : allP [] L = 0) : ∀ (j : Nat) (hj : j < L.length), nodeP (L.take j) L[j] = 0 := by
  intro j hj
  have e : L = L.take j ++ (L[j] :: L.drop (j + 1)) := by rw [← List.drop_eq_getElem_cons hj, List.take_append_drop]
  rw [e, allP_append] at h
  by_cases h1 : allP [] (L.take j) = 0
  · rw [if_pos h1, List.nil_append, allP] at h
    by_cases h2 : nodeP (L.take j) L[j] = 0
    · exact h2
    · rw [if_neg h2] at h; exact absurd h h2
  · rw [if_neg h1] at h; exact absurd h h1
theorem from_at {A : List Nd} {fs : List Int} (h : fromP A fs = 0) : ∀ x ∈ fs, 0 ≤ x ∧ x < A.length := by
  induction fs with
  | nil => simp
  | cons f r ih =>
    intro x hx
    rw [fromP] at h
    by_cases h1 : fromOne A f = 0
    · rw [if_pos h1] at h
      rcases List.mem_cons.1 hx with rfl | hx
      · unfold fromOne at h1
        split at h1
        · simp at h1
        · omega
      · exact ih h x hx
    · rw [if_neg h1] at h; exact absurd h h1
theorem node_from {A : List Nd} {nd : Nd} (h : nodeP A nd = 0) : nd.fs.length ≤ 4 ∧ (∀ x ∈ nd.fs, 0 ≤ x ∧ x < A.length) ∧ 1 ≤ nd.k ∧ nd.k ≤ 10 ∧ ownP nd = 0 ∧ inLo nd.k ≤ nd.fs.length ∧ (nd.fs.length : Int) ≤ inHi nd.k := by
  unfold nodeP at h
  split at h
  · simp at h
  · split at h
    · simp at h
    · rename_i h1 h2
      have hh : inHi nd.k ≤ 4 := by unfold inHi; split <;> (try split) <;> omega
      split at h
      · rename_i h3; exact ⟨by omega, from_at h3, by omega, by omega, h, by omega, by omega⟩
      · rename_i h3; exact absurd h h3
theorem job_from {L : List Nd} (h : jobP L = 0) (j : Nat) (hj : j < L.length) : L[j].fs.length ≤ 4 ∧ ∀ x ∈ L[j].fs, 0 ≤ x ∧ x < j := by
  have h1 := all_at (job_ok h).2.1 j hj
  obtain ⟨h2, h3, -⟩ := node_from h1
  refine ⟨h2, fun x hx => ?_⟩
  have := h3 x hx
  simp at this
  omega
end Go.Proofs.YthadeccnibnioaaGreatDoor

/- How long a right node's line is. -/
namespace Go.Proofs.YthadeccnibnioaaGreatDoor
set_option linter.unusedVariables false
theorem tx_len {l : List UInt8} (h : txP l = 0) : l.length ≤ 120 := by
  unfold txP at h
  cases hr : readP l with
  | ok t v => exact (read_ok hr).1
  | bad p e => rw [hr] at h; exact absurd h (read_bad_pos hr)
theorem node_tx {ah : List Nd} {nd : Nd} (ha : ah.length ≤ 12) (h : nodeP ah nd = 0) : nd.tx.size ≤ 120 := by
  obtain ⟨-, -, -, -, -, hT, -⟩ := node_ok ha h
  have e : nd.tx.data.toList.length = nd.tx.size := Array.length_toList
  by_cases ht : hasTP nd.k = true
  · unfold nodeP at h
    split at h
    · cases h
    · split at h
      · cases h
      · split at h
        · unfold ownP at h
          split at h
          · cases h
          · split at h
            · cases h
            · split at h
              · rename_i hf; rw [ht] at hf; cases hf
              · have := tx_len h; omega
        · rename_i hne; exact absurd h hne
  · rw [hT (by simpa using ht)]; exact Nat.zero_le _
theorem inHi_le (k : Int) : inHi k ≤ 4 := by unfold inHi; split <;> (try split) <;> omega
theorem node_fs {ah : List Nd} {nd : Nd} (ha : ah.length ≤ 12) (h : nodeP ah nd = 0) : nd.fs.length ≤ 4 := by
  obtain ⟨-, -, hl, -⟩ := node_ok ha h
  have := inHi_le nd.k
  omega
theorem join_bound {c : Nat} : ∀ {ws : List (List UInt8)}, (∀ x ∈ ws, x.length ≤ c) → (joinB ws).length ≤ ws.length * (c + 1)
  | [], _ => by simp [joinB]
  | x :: ws, h => by
    have e : joinB (x :: ws) = 32 :: x ++ joinB ws := rfl
    have h1 := join_bound (ws := ws) (fun y hy => h y (by simp [hy]))
    have h2 := h x (by simp)
    rw [e, List.length_append, List.length_cons, List.length_cons, Nat.add_mul]
    omega
theorem line_len {ah : List Nd} {nd : Nd} (ha : ah.length ≤ 12) (h : nodeP ah nd = 0) : (lineB nd).length ≤ 999 := by
  obtain ⟨hk, hf, -, hn, -, -, -⟩ := node_ok ha h
  have h4 := node_fs ha h
  have htx := node_tx ha h
  have e : nd.tx.data.toList.length = nd.tx.size := Array.length_toList
  have hnl : (nameP nd.k).length ≤ 6 := by rcases kinds hk.1 hk.2 with h | h | h | h | h | h | h | h | h | h <;> rw [h] <;> decide
  have hw : ∀ x ∈ wordsB nd, x.length ≤ 120 := by
    intro x hx
    unfold wordsB at hx
    rw [List.mem_append, List.mem_append] at hx
    rcases hx with (hx | hx) | hx
    · obtain ⟨f, hf1, rfl⟩ := List.mem_map.1 hx
      have := hf f hf1
      have := Lib.itoa_length_le f (by omega) (by omega)
      omega
    · split at hx
      · simp at hx; subst hx
        have := Lib.itoa_length_le nd.n (by omega) (by omega)
        omega
      · simp at hx
    · split at hx
      · simp at hx; subst hx; simp at *; omega
      · simp at hx
  have hc : (wordsB nd).length ≤ 6 := by
    unfold wordsB
    rw [List.length_append, List.length_append, List.length_map]
    have a1 : (if hasNP nd.k = true then [Lib.itoa nd.n] else []).length ≤ 1 := by split <;> simp
    have a2 : (if hasTP nd.k = true then [nd.tx.data.toList] else []).length ≤ 1 := by split <;> simp
    omega
  have hj := join_bound hw
  have := Nat.mul_le_mul_right (120 + 1) hc
  unfold lineB
  rw [List.length_append]
  omega
theorem print_len {L : List Nd} (hl : L.length ≤ 12) (h : allP [] L = 0) : ∀ j, j ≤ L.length → (printB (L.take j)).length ≤ j * 1000
  | 0, _ => by simp [printB]
  | j + 1, hj => by
    have h1 := print_len hl h j (by omega)
    have hj' : j < L.length := by omega
    have h2 := line_len (by rw [List.length_take]; omega) (all_at h j hj')
    rw [List.take_succ_eq_append_getElem hj']
    unfold printB at *
    rw [List.flatMap_append, List.length_append]
    simp only [List.flatMap_cons, List.flatMap_nil, List.append_nil, List.length_append, List.length_cons, List.length_nil]
    omega
theorem print_snoc (L : List Nd) (nd : Nd) : printB (L ++ [nd]) = printB L ++ (lineB nd ++ [10]) := by
  unfold printB; rw [List.flatMap_append]; simp
end Go.Proofs.YthadeccnibnioaaGreatDoor
