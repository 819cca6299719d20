
/- What a text of an expression says, as plain functions on lists of bytes: a tree, how it is read, printed and reckoned. -/
namespace Go.Proofs.YthadeccnibnioaaGreatDoor

inductive Tm where
  | num (v : Nat)
  | vn
  | vs
  | neg (a : Tm)
  | two (op : UInt8) (a b : Tm)
  | cond (a b c : Tm)

inductive Res where
  | ok (t : Tm) (u : List UInt8)
  | bad (pl : Nat) (e : Nat)

def isDg (c : UInt8) : Bool := 48 ≤ c.toNat && c.toNat ≤ 57

def stepV (acc : Nat) (c : UInt8) : Nat := acc * 10 + (c.toNat - 48)
def valFrom (acc : Nat) (l : List UInt8) : Nat := l.foldl stepV acc

theorem valFrom_nil (acc : Nat) : valFrom acc [] = acc := by unfold valFrom; rw [List.foldl_nil]
theorem valFrom_cons (acc : Nat) (c : UInt8) (r : List UInt8) : valFrom acc (c :: r) = valFrom (stepV acc c) r := by unfold valFrom; rw [List.foldl_cons]
theorem stepV_eq (acc : Nat) (c : UInt8) : stepV acc c = acc * 10 + (c.toNat - 48) := by unfold stepV; exact Eq.refl _

def digs (u : List UInt8) : List UInt8 := if u.head? = some 48 then [48] else u.takeWhile isDg

def numF (u : List UInt8) : Res :=
  if digs u ≠ [] ∧ valFrom 0 (digs u) < 9223372036854775808 then .ok (.num (valFrom 0 (digs u))) (u.drop (digs u).length) else .bad u.length 2

def pairF (inC : Nat → List UInt8 → Res) (op : UInt8) (pl : Nat) (r : List UInt8) : Res :=
  match inC pl r with
  | .bad p e => .bad p e
  | .ok a v =>
    if v.head? = some 44 then
      match inC pl (v.drop 1) with
      | .bad p e => .bad p e
      | .ok b v2 => if v2.head? = some 41 then .ok (.two op a b) (v2.drop 1) else .bad v2.length 2
    else .bad v.length 2

def brkF (inC : Nat → List UInt8 → Res) (pl : Nat) (r : List UInt8) : Res :=
  match inC pl r with
  | .bad p e => .bad p e
  | .ok a v => if v.head? = some 41 then .ok a (v.drop 1) else .bad v.length 2

def singleF (inC : Nat → List UInt8 → Res) (u : List UInt8) : Res :=
  if u.head? = some 110 then .ok .vn (u.drop 1)
  else if u.head? = some 115 then .ok .vs (u.drop 1)
  else if u.head? = some 40 then brkF inC u.length (u.drop 1)
  else if [109, 105, 110, 40] <+: u then pairF inC 109 u.length (u.drop 4)
  else if [109, 97, 120, 40] <+: u then pairF inC 77 u.length (u.drop 4)
  else numF u

def negF (inS : Nat → List UInt8 → Res) (u : List UInt8) : Res :=
  match inS u.length (u.drop 1) with
  | .bad p e => .bad p e
  | .ok t v => .ok (.neg t) v

def signF (inC inS : Nat → List UInt8 → Res) (u : List UInt8) : Res :=
  if u.head? = some 45 then negF inS u else singleF inC u

def opAt (ops : List UInt8) (u : List UInt8) : Option UInt8 :=
  match u with
  | [] => none
  | c :: _ => if c ∈ ops then some c else none

def loopF (ops : List UInt8) (part : List UInt8 → Res) : Nat → Tm → List UInt8 → Res
  | f, t, v =>
    match opAt ops v with
    | none => .ok t v
    | some c =>
      match f with
      | 0 => .ok t v
      | f + 1 =>
        match part (v.drop 1) with
        | .bad p e => .bad p e
        | .ok b v2 => loopF ops part f (.two c t b) v2

def rowF (ops : List UInt8) (part : List UInt8 → Res) (u : List UInt8) : Res :=
  match part u with
  | .bad p e => .bad p e
  | .ok t v => loopF ops part v.length t v

def cmpF (sum : List UInt8 → Res) (u : List UInt8) : Res :=
  match sum u with
  | .bad p e => .bad p e
  | .ok a v =>
    match opAt [61, 60, 62] v with
    | none => .ok a v
    | some c =>
      match sum (v.drop 1) with
      | .bad p e => .bad p e
      | .ok b v2 => .ok (.two c a b) v2

def choF (inC : Nat → List UInt8 → Res) (cmp : List UInt8 → Res) (u : List UInt8) : Res :=
  match cmp u with
  | .bad p e => .bad p e
  | .ok a v =>
    if v.head? = some 63 then
      match inC v.length (v.drop 1) with
      | .bad p e => .bad p e
      | .ok b v2 =>
        if v2.head? = some 58 then
          match inC v2.length (v2.drop 1) with
          | .bad p e => .bad p e
          | .ok c v3 => .ok (.cond a b c) v3
        else .bad v2.length 2
    else .ok a v

def mkLev (inC inS : Nat → List UInt8 → Res) : (List UInt8 → Res) × (List UInt8 → Res) :=
  (choF inC (cmpF (rowF [43, 45] (rowF [42, 47, 37] (signF inC inS)))), signF inC inS)

/-- Reading an expression, and one with '-' ahead, where so many levels are left. -/
def lev : Nat → (List UInt8 → Res) × (List UInt8 → Res)
  | 0 => mkLev (fun pl _ => .bad pl 4) (fun pl _ => .bad pl 4)
  | d + 1 => mkLev (fun _ u => (lev d).1 u) (fun _ u => (lev d).2 u)

def inCh : Nat → Nat → List UInt8 → Res
  | 0 => fun pl _ => .bad pl 4
  | d + 1 => fun _ u => (lev d).1 u

def inSg : Nat → Nat → List UInt8 → Res
  | 0 => fun pl _ => .bad pl 4
  | d + 1 => fun _ u => (lev d).2 u

theorem lev_eq (d : Nat) : lev d = mkLev (inCh d) (inSg d) := by cases d <;> rfl

def sgP (d : Nat) : List UInt8 → Res := (lev d).2
def prP (d : Nat) : List UInt8 → Res := rowF [42, 47, 37] (sgP d)
def smP (d : Nat) : List UInt8 → Res := rowF [43, 45] (prP d)
def cpP (d : Nat) : List UInt8 → Res := cmpF (smP d)
def chP (d : Nat) : List UInt8 → Res := (lev d).1

theorem sgP_eq (d : Nat) (u : List UInt8) : sgP d u = signF (inCh d) (inSg d) u := by unfold sgP; rw [lev_eq]; rfl
theorem chP_eq (d : Nat) (u : List UInt8) : chP d u = choF (inCh d) (cpP d) u := by
  unfold chP; rw [lev_eq]; unfold mkLev; simp only; congr 1
  unfold cpP smP prP sgP; rw [lev_eq]; rfl
theorem inCh_zero (pl : Nat) (u : List UInt8) : inCh 0 pl u = .bad pl 4 := rfl
theorem inCh_succ (d pl : Nat) (u : List UInt8) : inCh (d + 1) pl u = chP d u := rfl
theorem inSg_zero (pl : Nat) (u : List UInt8) : inSg 0 pl u = .bad pl 4 := rfl
theorem inSg_succ (d pl : Nat) (u : List UInt8) : inSg (d + 1) pl u = sgP d u := rfl

/-- The whole of a text. -/
def wholeP (l : List UInt8) : Res :=
  match chP 20 l with
  | .bad p e => .bad p e
  | .ok t v => if v = [] then .ok t [] else .bad v.length 2

def readP (l : List UInt8) : Res := if 120 < l.length then .bad l.length 4 else wholeP l

/- what it comes to -/
def wr (x : Int) : Int := (x + 9223372036854775808) % 18446744073709551616 - 9223372036854775808

def of2 (op : UInt8) (a b : Int) : Int :=
  if op = 61 then (if a = b then 1 else 0)
  else if op = 60 then (if a < b then 1 else 0)
  else if op = 62 then (if b < a then 1 else 0)
  else if op = 43 then wr (a + b)
  else if op = 45 then wr (a - b)
  else if op = 42 then wr (a * b)
  else if op = 47 then (if b = 0 then 0 else wr (a.tdiv b))
  else if op = 37 then (if b = 0 then 0 else a.tmod b)
  else if op = 109 then (if a < b then a else b)
  else (if b < a then a else b)

def ev (n s : Int) : Tm → Int
  | .num v => v
  | .vn => n
  | .vs => s
  | .neg a => wr (-(ev n s a))
  | .two op a b => of2 op (ev n s a) (ev n s b)
  | .cond a b c => if ev n s a ≠ 0 then ev n s b else ev n s c

end Go.Proofs.YthadeccnibnioaaGreatDoor

/- What is read follows the grammar, and what follows the grammar is read. -/
namespace Go.Proofs.YthadeccnibnioaaGreatDoor

/-- The bytes s, read at a level (0 the loosest, 5 the closest) with d levels left, say t. -/
inductive Gr : Nat → Nat → List UInt8 → Tm → Prop
  | num (d : Nat) (s : List UInt8) (h : s ≠ []) (hd : ∀ c ∈ s, isDg c = true) (h0 : s.head? = some 48 → s = [48]) (hv : valFrom 0 s < 9223372036854775808) : Gr d 5 s (.num (valFrom 0 s))
  | vn (d : Nat) : Gr d 5 [110] .vn
  | vs (d : Nat) : Gr d 5 [115] .vs
  | brk {d : Nat} {s : List UInt8} {t : Tm} (h : Gr d 0 s t) : Gr (d + 1) 5 (40 :: (s ++ [41])) t
  | mn {d : Nat} {a b : List UInt8} {ta tb : Tm} (ha : Gr d 0 a ta) (hb : Gr d 0 b tb) : Gr (d + 1) 5 (109 :: 105 :: 110 :: 40 :: (a ++ 44 :: (b ++ [41]))) (.two 109 ta tb)
  | mx {d : Nat} {a b : List UInt8} {ta tb : Tm} (ha : Gr d 0 a ta) (hb : Gr d 0 b tb) : Gr (d + 1) 5 (109 :: 97 :: 120 :: 40 :: (a ++ 44 :: (b ++ [41]))) (.two 77 ta tb)
  | neg {d : Nat} {s : List UInt8} {t : Tm} (h : Gr d 4 s t) : Gr (d + 1) 4 (45 :: s) (.neg t)
  | mul {d : Nat} {a b : List UInt8} {ta tb : Tm} (op : UInt8) (ho : op ∈ [42, 47, 37]) (ha : Gr d 3 a ta) (hb : Gr d 4 b tb) : Gr d 3 (a ++ op :: b) (.two op ta tb)
  | add {d : Nat} {a b : List UInt8} {ta tb : Tm} (op : UInt8) (ho : op ∈ [43, 45]) (ha : Gr d 2 a ta) (hb : Gr d 3 b tb) : Gr d 2 (a ++ op :: b) (.two op ta tb)
  | cmp {d : Nat} {a b : List UInt8} {ta tb : Tm} (op : UInt8) (ho : op ∈ [61, 60, 62]) (ha : Gr d 2 a ta) (hb : Gr d 2 b tb) : Gr d 1 (a ++ op :: b) (.two op ta tb)
  | cond {d : Nat} {a b c : List UInt8} {ta tb tc : Tm} (ha : Gr (d + 1) 1 a ta) (hb : Gr d 0 b tb) (hc : Gr d 0 c tc) : Gr (d + 1) 0 (a ++ 63 :: (b ++ 58 :: c)) (.cond ta tb tc)
  | up {d l : Nat} {s : List UInt8} {t : Tm} (hl : l < 5) (h : Gr d (l + 1) s t) : Gr d l s t

theorem Gr.down {d l : Nat} {s : List UInt8} {t : Tm} (h : Gr d l s t) : ∀ k, k ≤ l → l ≤ 5 → Gr d k s t := by
  intro k hk hl
  induction hn : l - k generalizing l with
  | zero => have : k = l := by omega
            subst this; exact h
  | succ n ih =>
    cases l with
    | zero => omega
    | succ l => exact ih (.up (by omega) h) (by omega) (by omega) (by omega)

/- soundness -/
def Snd (d l : Nat) (f : List UInt8 → Res) : Prop := ∀ u t v, f u = .ok t v → ∃ s, u = s ++ v ∧ Gr d l s t

theorem head_cons {u : List UInt8} {c : UInt8} (h : u.head? = some c) : u = c :: u.drop 1 := by
  cases u with
  | nil => simp at h
  | cons a r => simp at h; simp [h]

theorem digs_append (u : List UInt8) : u = digs u ++ u.drop (digs u).length := by
  unfold digs
  split
  · rename_i h; rw [head_cons h]; rfl
  · have h := List.takeWhile_append_dropWhile (p := isDg) (l := u)
    have h2 : (u.takeWhile isDg ++ u.dropWhile isDg).drop (u.takeWhile isDg).length = u.dropWhile isDg := List.drop_left ..
    rw [h] at h2
    rw [h2, h]

theorem digs_isDg (u : List UInt8) : ∀ c ∈ digs u, isDg c = true := by
  unfold digs
  split
  · simp [isDg]
  · intro c hc; exact (List.all_takeWhile (p := isDg) (l := u)) |> fun h => by simpa using (List.all_eq_true.1 h) c hc

theorem digs_zero (u : List UInt8) (h : (digs u).head? = some 48) : digs u = [48] := by
  unfold digs at h ⊢
  split
  · rfl
  · rename_i hn
    rw [if_neg hn] at h
    cases u with
    | nil => simp at h
    | cons a r =>
      simp [List.takeWhile_cons] at h hn
      split at h
      · simp at h; exact absurd h hn
      · simp at h

theorem snd_num (d : Nat) : Snd d 5 numF := by
  intro u t v h
  unfold numF at h
  split at h
  · rename_i hc
    cases h
    exact ⟨digs u, digs_append u, .num d _ hc.1 (digs_isDg u) (digs_zero u) hc.2⟩
  · cases h

theorem snd_brk {d : Nat} {inC : Nat → List UInt8 → Res} (hC : ∀ pl, Snd d 0 (inC pl)) (u : List UInt8) (t : Tm) (v : List UInt8) (pl : Nat) (h : brkF inC pl u = .ok t v) : ∃ s, 40 :: u = s ++ v ∧ Gr (d + 1) 5 s t := by
  unfold brkF at h
  split at h
  · cases h
  · rename_i a w hw
    split at h
    · rename_i hh
      cases h
      obtain ⟨s, hs, hg⟩ := hC _ _ _ _ hw
      refine ⟨40 :: (s ++ [41]), ?_, .brk hg⟩
      rw [hs]; simp
      simpa using head_cons hh
    · cases h

theorem snd_pair {d : Nat} {inC : Nat → List UInt8 → Res} (hC : ∀ pl, Snd d 0 (inC pl)) (op : UInt8) (u : List UInt8) (t : Tm) (v : List UInt8) (pl : Nat) (h : pairF inC op pl u = .ok t v) :
    ∃ a b ta tb, u = a ++ 44 :: (b ++ [41]) ++ v ∧ Gr d 0 a ta ∧ Gr d 0 b tb ∧ t = .two op ta tb := by
  unfold pairF at h
  split at h
  · cases h
  · rename_i ta w hw
    split at h
    · rename_i hh
      split at h
      · cases h
      · rename_i tb w2 hw2
        split at h
        · rename_i hh2
          cases h
          obtain ⟨a, ha, hga⟩ := hC _ _ _ _ hw
          obtain ⟨b, hb, hgb⟩ := hC _ _ _ _ hw2
          refine ⟨a, b, ta, tb, ?_, hga, hgb, rfl⟩
          rw [ha, head_cons hh, hb, head_cons hh2]; simp
        · cases h
    · cases h

theorem snd_single {d : Nat} {inC : Nat → List UInt8 → Res} (hC : ∀ pl, Snd d 0 (inC pl)) : Snd (d + 1) 5 (singleF inC) := by
  intro u t v h
  unfold singleF at h
  split at h
  · rename_i hh; cases h; exact ⟨[110], head_cons hh, .vn _⟩
  split at h
  · rename_i hh; cases h; exact ⟨[115], head_cons hh, .vs _⟩
  split at h
  · rename_i hh
    obtain ⟨s, hs, hg⟩ := snd_brk hC _ _ _ _ h
    exact ⟨s, by rw [head_cons hh]; exact hs, hg⟩
  split at h
  · rename_i hp
    obtain ⟨r, hr⟩ := hp
    subst hr
    obtain ⟨a, b, ta, tb, hu, ha, hb, rfl⟩ := snd_pair hC _ _ _ _ _ h
    refine ⟨_, ?_, .mn ha hb⟩
    simp at hu ⊢; exact hu
  split at h
  · rename_i hp
    obtain ⟨r, hr⟩ := hp
    subst hr
    obtain ⟨a, b, ta, tb, hu, ha, hb, rfl⟩ := snd_pair hC _ _ _ _ _ h
    refine ⟨_, ?_, .mx ha hb⟩
    simp at hu ⊢; exact hu
  · exact snd_num _ _ _ _ h

theorem snd_single0 : Snd 0 5 (singleF fun pl _ => .bad pl 4) := by
  intro u t v h
  unfold singleF at h
  split at h
  · rename_i hh; cases h; exact ⟨[110], head_cons hh, .vn _⟩
  split at h
  · rename_i hh; cases h; exact ⟨[115], head_cons hh, .vs _⟩
  split at h
  · simp [brkF] at h
  split at h
  · simp [pairF] at h
  split at h
  · simp [pairF] at h
  · exact snd_num _ _ _ _ h

theorem snd_sign {d : Nat} {inC inS : Nat → List UInt8 → Res} (hC : Snd d 5 (singleF inC)) (hS : ∀ u t v, negF inS u = .ok t v → u.head? = some 45 → ∃ s, u = s ++ v ∧ Gr d 4 s t) : Snd d 4 (signF inC inS) := by
  intro u t v h
  unfold signF at h
  split at h
  · rename_i hh; exact hS _ _ _ h hh
  · obtain ⟨s, hs, hg⟩ := hC _ _ _ h
    exact ⟨s, hs, .up (by omega) hg⟩

theorem opAt_some {ops u : List UInt8} {c : UInt8} (h : opAt ops u = some c) : u = c :: u.drop 1 ∧ c ∈ ops := by
  unfold opAt at h
  cases u with
  | nil => simp at h
  | cons a r =>
    simp only at h
    split at h
    · rename_i hc; cases h; exact ⟨by simp, hc⟩
    · cases h

theorem snd_loop {d l : Nat} {ops : List UInt8} {part : List UInt8 → Res} (mk : ∀ op a b ta tb, op ∈ ops → Gr d l a ta → Gr d (l + 1) b tb → Gr d l (a ++ op :: b) (.two op ta tb))
    (hp : Snd d (l + 1) part) : ∀ f t0 v0 t v s0, loopF ops part f t0 v0 = .ok t v → Gr d l s0 t0 → ∃ s, v0 = s ++ v ∧ Gr d l (s0 ++ s) t := by
  intro f
  induction f with
  | zero =>
    intro t0 v0 t v s0 h hg
    unfold loopF at h
    split at h
    · cases h; exact ⟨[], by simp, by simpa using hg⟩
    · cases h; exact ⟨[], by simp, by simpa using hg⟩
  | succ f ih =>
    intro t0 v0 t v s0 h hg
    unfold loopF at h
    split at h
    · cases h; exact ⟨[], by simp, by simpa using hg⟩
    · rename_i c hc
      simp only at h
      split at h
      · cases h
      · rename_i b v2 hb
        obtain ⟨hu, hm⟩ := opAt_some hc
        obtain ⟨s1, hs1, hg1⟩ := hp _ _ _ hb
        obtain ⟨s2, hs2, hg2⟩ := ih _ _ _ _ (s0 ++ c :: s1) h (mk c _ _ _ _ hm hg hg1)
        refine ⟨c :: s1 ++ s2, ?_, by simpa using hg2⟩
        rw [hu, hs1, hs2]; simp

theorem snd_row {d l : Nat} (hl : l < 5) {ops : List UInt8} {part : List UInt8 → Res} (mk : ∀ op a b ta tb, op ∈ ops → Gr d l a ta → Gr d (l + 1) b tb → Gr d l (a ++ op :: b) (.two op ta tb))
    (hp : Snd d (l + 1) part) : Snd d l (rowF ops part) := by
  intro u t v h
  unfold rowF at h
  split at h
  · cases h
  · rename_i t0 v0 h0
    obtain ⟨s0, hs0, hg0⟩ := hp _ _ _ h0
    obtain ⟨s, hs, hg⟩ := snd_loop mk hp _ _ _ _ _ s0 h (.up hl hg0)
    exact ⟨s0 ++ s, by rw [hs0, hs]; simp, hg⟩

theorem snd_cmp {d : Nat} {sum : List UInt8 → Res} (hp : Snd d 2 sum) : Snd d 1 (cmpF sum) := by
  intro u t v h
  unfold cmpF at h
  split at h
  · cases h
  · rename_i a w hw
    obtain ⟨s0, hs0, hg0⟩ := hp _ _ _ hw
    split at h
    · cases h; exact ⟨s0, hs0, .up (by omega) hg0⟩
    · rename_i c hc
      split at h
      · cases h
      · rename_i b w2 hb
        cases h
        obtain ⟨hu, hm⟩ := opAt_some hc
        obtain ⟨s1, hs1, hg1⟩ := hp _ _ _ hb
        exact ⟨s0 ++ c :: s1, by rw [hs0, hu, hs1]; simp, .cmp c hm hg0 hg1⟩

theorem snd_lev (d : Nat) : Snd d 0 (chP d) ∧ Snd d 4 (sgP d) := by
  induction d with
  | zero =>
    have h4 : Snd 0 4 (sgP 0) := by
      intro u t v h
      rw [sgP_eq] at h
      exact snd_sign (inS := inSg 0) snd_single0 (by intro u t v h; simp [negF, inSg] at h) u t v h
    have h1 : Snd 0 1 (cpP 0) := snd_cmp (snd_row (by omega) (fun op a b ta tb ho => .add op ho) (snd_row (by omega) (fun op a b ta tb ho => .mul op ho) h4))
    refine ⟨?_, h4⟩
    intro u t v h
    rw [chP_eq] at h
    unfold choF at h
    split at h
    · cases h
    · rename_i a w hw
      obtain ⟨s, hs, hg⟩ := h1 _ _ _ hw
      split at h
      · simp [inCh] at h
      · cases h; exact ⟨s, hs, .up (by omega) hg⟩
  | succ d ih =>
    have h4 : Snd (d + 1) 4 (sgP (d + 1)) := by
      intro u t v h
      rw [sgP_eq] at h
      refine snd_sign (inS := inSg (d + 1)) (snd_single (inC := inCh (d + 1)) (fun pl => ih.1)) ?_ u t v h
      intro u t v h hh
      unfold negF at h
      split at h
      · cases h
      · rename_i t' w hw
        cases h
        obtain ⟨s, hs, hg⟩ := ih.2 _ _ _ hw
        exact ⟨45 :: s, by rw [head_cons hh, hs]; simp, .neg hg⟩
    have h1 : Snd (d + 1) 1 (cpP (d + 1)) := snd_cmp (snd_row (by omega) (fun op a b ta tb ho => .add op ho) (snd_row (by omega) (fun op a b ta tb ho => .mul op ho) h4))
    refine ⟨?_, h4⟩
    intro u t v h
    rw [chP_eq] at h
    unfold choF at h
    split at h
    · cases h
    · rename_i a w hw
      obtain ⟨s, hs, hg⟩ := h1 _ _ _ hw
      split at h
      · rename_i hh
        split at h
        · cases h
        · rename_i b w2 hb
          split at h
          · rename_i hh2
            split at h
            · cases h
            · rename_i c w3 hc
              cases h
              obtain ⟨s1, hs1, hg1⟩ := ih.1 _ _ _ hb
              obtain ⟨s2, hs2, hg2⟩ := ih.1 _ _ _ hc
              exact ⟨s ++ 63 :: (s1 ++ 58 :: s2), by rw [hs, head_cons hh, hs1, head_cons hh2, hs2]; simp, .cond hg hg1 hg2⟩
          · cases h
      · cases h; exact ⟨s, hs, .up (by omega) hg⟩

end Go.Proofs.YthadeccnibnioaaGreatDoor

/- What follows the grammar is read as it says. -/
namespace Go.Proofs.YthadeccnibnioaaGreatDoor

def stp (l : Nat) (c : UInt8) : Prop := isDg c = false ∧ (l ≤ 3 → c ∉ [42, 47, 37]) ∧ (l ≤ 2 → c ∉ [43, 45]) ∧ (l ≤ 1 → c ∉ [61, 60, 62]) ∧ (l = 0 → c ≠ 63)
def Stop (l : Nat) (r : List UInt8) : Prop := ∀ c, r.head? = some c → stp l c

theorem Stop.mono {l k : Nat} {r : List UInt8} (h : Stop l r) (hk : l ≤ k) : Stop k r := by
  intro c hc
  obtain ⟨h1, h2, h3, h4, h5⟩ := h c hc
  exact ⟨h1, fun h => h2 (by omega), fun h => h3 (by omega), fun h => h4 (by omega), fun h => h5 (by omega)⟩

theorem Stop.cons {l : Nat} {c : UInt8} {r : List UInt8} (h : stp l c) : Stop l (c :: r) := by
  intro x hx; simp at hx; exact hx ▸ h

theorem opAt_none {ops : List UInt8} {r : List UInt8} (h : ∀ c, r.head? = some c → c ∉ ops) : opAt ops r = none := by
  cases r with
  | nil => rfl
  | cons a t => simp [opAt, h a rfl]

theorem opAt_cons {ops : List UInt8} {c : UInt8} {r : List UInt8} (h : c ∈ ops) : opAt ops (c :: r) = some c := by simp [opAt, h]

theorem loop_stop {ops : List UInt8} {part : List UInt8 → Res} {r : List UInt8} (h : ∀ c, r.head? = some c → c ∉ ops) (f : Nat) (t : Tm) : loopF ops part f t r = .ok t r := by
  unfold loopF; rw [opAt_none h]

def Shr (f : List UInt8 → Res) : Prop := ∀ u t v, f u = .ok t v → v.length ≤ u.length
theorem Snd.shr {d l : Nat} {f : List UInt8 → Res} (h : Snd d l f) : Shr f := by
  intro u t v hf; obtain ⟨s, hs, _⟩ := h u t v hf; rw [hs]; simp

theorem loop_fuel {ops : List UInt8} {part : List UInt8 → Res} (hp : Shr part) : ∀ f f' t v, v.length ≤ f → v.length ≤ f' → loopF ops part f t v = loopF ops part f' t v := by
  intro f
  induction f with
  | zero =>
    intro f' t v h h'
    have : v = [] := List.length_eq_zero_iff.1 (by omega)
    subst this
    unfold loopF; simp [opAt]
  | succ f ih =>
    intro f' t v h h'
    cases hv : opAt ops v with
    | none => unfold loopF; simp [hv]
    | some c =>
      obtain ⟨hu, _⟩ := opAt_some hv
      have hl : v.length = (v.drop 1).length + 1 := by conv => lhs; rw [hu]
                                                       simp
      cases f' with
      | zero => omega
      | succ f' =>
        unfold loopF
        simp only [hv]
        cases hb : part (v.drop 1) with
        | bad p e => rfl
        | ok b v2 =>
          have := hp _ _ _ hb
          simp only
          exact ih f' _ _ (by omega) (by omega)

theorem loop_cons {ops : List UInt8} {part : List UInt8 → Res} (hp : Shr part) {c : UInt8} (hc : c ∈ ops) {u r : List UInt8} {t b : Tm} (hb : part u = .ok b r) :
    loopF ops part (c :: u).length t (c :: u) = loopF ops part r.length (.two c t b) r := by
  conv => lhs; unfold loopF
  rw [opAt_cons hc]
  simp only [List.length_cons, List.drop_succ_cons, List.drop_zero, hb]
  have := hp _ _ _ hb
  exact loop_fuel hp _ _ _ _ (by omega) (by omega)

theorem gr5_head {d : Nat} {s : List UInt8} {t : Tm} (h : Gr d 5 s t) : ∃ c r, s = c :: r ∧ c ≠ 45 := by
  cases h with
  | num _ _ h hd _ _ =>
    cases s with
    | nil => exact absurd rfl h
    | cons c r =>
      refine ⟨c, r, rfl, ?_⟩
      intro hc; subst hc
      have := hd 45 (by simp); simp [isDg] at this
  | vn => exact ⟨_, _, rfl, by decide⟩
  | vs => exact ⟨_, _, rfl, by decide⟩
  | brk h => exact ⟨_, _, rfl, by decide⟩
  | mn _ _ => exact ⟨_, _, rfl, by decide⟩
  | mx _ _ => exact ⟨_, _, rfl, by decide⟩
  | up hl _ => omega

theorem digs_of {s r : List UInt8} (h : s ≠ []) (hd : ∀ c ∈ s, isDg c = true) (h0 : s.head? = some 48 → s = [48]) (hr : Stop 5 r) : digs (s ++ r) = s := by
  cases s with
  | nil => exact absurd rfl h
  | cons c s =>
    unfold digs
    by_cases hc : c = 48
    · subst hc
      rw [h0 rfl]; simp
    · rw [if_neg (by simpa using hc)]
      have h1 : ∀ x ∈ c :: s, isDg x = true := hd
      rw [List.takeWhile_append_of_pos h1]
      have : r.takeWhile isDg = [] := by
        cases r with
        | nil => rfl
        | cons a t => have := (hr a rfl).1; simp [this]
      rw [this]; simp

def Mot (d : Nat) : Nat → List UInt8 → Tm → Prop
  | 5, s, t => ∀ r, Stop 5 r → singleF (inCh d) (s ++ r) = .ok t r
  | 4, s, t => ∀ r, Stop 4 r → sgP d (s ++ r) = .ok t r
  | 3, s, t => ∀ r, Stop 4 r → prP d (s ++ r) = loopF [42, 47, 37] (sgP d) r.length t r
  | 2, s, t => ∀ r, Stop 3 r → smP d (s ++ r) = loopF [43, 45] (prP d) r.length t r
  | 1, s, t => ∀ r, Stop 1 r → cpP d (s ++ r) = .ok t r
  | 0, s, t => ∀ r, Stop 0 r → chP d (s ++ r) = .ok t r
  | _, _, _ => True

theorem shr_sg (d : Nat) : Shr (sgP d) := (snd_lev d).2.shr
theorem snd_pr (d : Nat) : Snd d 3 (prP d) := snd_row (by omega) (fun op a b ta tb ho => .mul op ho) (snd_lev d).2
theorem shr_pr (d : Nat) : Shr (prP d) := (snd_pr d).shr
theorem snd_sm (d : Nat) : Snd d 2 (smP d) := snd_row (by omega) (fun op a b ta tb ho => .add op ho) (snd_pr d)

theorem stop3_mul {r : List UInt8} {l : Nat} (h : Stop l r) (hl : l ≤ 3) : ∀ c, r.head? = some c → c ∉ [42, 47, 37] := fun c hc => (h c hc).2.1 hl
theorem stop2_add {r : List UInt8} {l : Nat} (h : Stop l r) (hl : l ≤ 2) : ∀ c, r.head? = some c → c ∉ [43, 45] := fun c hc => (h c hc).2.2.1 hl
theorem stop1_cmp {r : List UInt8} {l : Nat} (h : Stop l r) (hl : l ≤ 1) : ∀ c, r.head? = some c → c ∉ [61, 60, 62] := fun c hc => (h c hc).2.2.2.1 hl
theorem stop0 {r : List UInt8} (h : Stop 0 r) : r.head? ≠ some 63 := fun hc => (h 63 hc).2.2.2.2 rfl rfl

theorem cpl {d l : Nat} {s : List UInt8} {t : Tm} (h : Gr d l s t) : Mot d l s t := by
  induction h with
  | num d s h hd h0 hv =>
    intro r hr
    have e := digs_of h hd h0 hr
    cases s with
    | nil => exact absurd rfl h
    | cons c s =>
      have hc := hd c (by simp)
      have hc' : 48 ≤ c.toNat ∧ c.toNat ≤ 57 := by simpa [isDg] using hc
      have g : ∀ x : UInt8, (x.toNat < 48 ∨ 57 < x.toNat) → ¬ c = x := by intro x hx e; subst e; omega
      unfold singleF
      rw [if_neg (by simpa using g 110 (by decide)), if_neg (by simpa using g 115 (by decide)), if_neg (by simpa using g 40 (by decide)), if_neg (by simpa using fun h => (g 109 (by decide) h.symm).elim), if_neg (by simpa using fun h => (g 109 (by decide) h.symm).elim)]
      unfold numF
      rw [e, if_pos ⟨h, hv⟩]; simp
  | vn d => intro r hr; simp [singleF]
  | vs d => intro r hr; simp [singleF]
  | @brk d s t h ih =>
    intro r hr
    have := ih (41 :: r) (Stop.cons (by simp [stp, isDg]))
    simp only [Mot] at *
    simp [singleF, brkF, inCh_succ, this]
  | @mn d a b ta tb ha hb iha ihb =>
    intro r hr
    have h1 := iha (44 :: (b ++ 41 :: r)) (Stop.cons (by simp [stp, isDg]))
    have h2 := ihb (41 :: r) (Stop.cons (by simp [stp, isDg]))
    simp only [Mot] at *
    simp [singleF, pairF, inCh_succ, h1, h2]
  | @mx d a b ta tb ha hb iha ihb =>
    intro r hr
    have h1 := iha (44 :: (b ++ 41 :: r)) (Stop.cons (by simp [stp, isDg]))
    have h2 := ihb (41 :: r) (Stop.cons (by simp [stp, isDg]))
    simp only [Mot] at *
    simp [singleF, pairF, inCh_succ, h1, h2]
  | @neg d s t h ih =>
    intro r hr
    have e : sgP d (s ++ r) = .ok t r := ih r hr
    show sgP (d + 1) _ = _
    rw [sgP_eq]
    simp [signF, negF, inSg_succ, e]
  | @mul d a b ta tb op ho ha hb iha ihb =>
    intro r hr
    have hs : Stop 4 (op :: (b ++ r)) := Stop.cons (by
      simp at ho; rcases ho with rfl | rfl | rfl <;> simp [stp, isDg])
    have h1 := iha _ hs
    have h2 := ihb r hr
    simp only [List.append_assoc, List.cons_append]
    rw [h1]
    exact loop_cons (shr_sg d) ho h2
  | @add d a b ta tb op ho ha hb iha ihb =>
    intro r hr
    have hs : Stop 3 (op :: (b ++ r)) := Stop.cons (by
      simp at ho; rcases ho with rfl | rfl <;> simp [stp, isDg])
    have h1 := iha _ hs
    have h2 : prP d (b ++ r) = .ok tb r := by
      rw [ihb r (hr.mono (by omega))]; exact loop_stop (stop3_mul hr (by omega)) _ _
    simp only [List.append_assoc, List.cons_append]
    rw [h1]
    exact loop_cons (shr_pr d) ho h2
  | @cmp d a b ta tb op ho ha hb iha ihb =>
    intro r hr
    have hs : Stop 2 (op :: (b ++ r)) := Stop.cons (by
      simp at ho; rcases ho with rfl | rfl | rfl <;> simp [stp, isDg])
    have h1 : smP d (a ++ op :: (b ++ r)) = .ok ta (op :: (b ++ r)) := by
      rw [iha _ (hs.mono (by omega))]; exact loop_stop (stop2_add hs (by omega)) _ _
    have h2 : smP d (b ++ r) = .ok tb r := by
      rw [ihb r (hr.mono (by omega))]; exact loop_stop (stop2_add hr (by omega)) _ _
    simp only [List.append_assoc, List.cons_append]
    unfold cpP cmpF
    rw [h1]; simp only
    rw [opAt_cons ho]
    simp [h2]
  | @cond d a b c ta tb tc ha hb hc iha ihb ihc =>
    intro r hr
    have h1 := iha (63 :: (b ++ 58 :: (c ++ r))) (Stop.cons (by simp [stp, isDg]))
    have h2 := ihb (58 :: (c ++ r)) (Stop.cons (by simp [stp, isDg]))
    have h3 := ihc r hr
    simp only [Mot] at *
    rw [chP_eq]
    simp only [List.append_assoc, List.cons_append]
    unfold choF
    rw [h1]
    simp [inCh_succ, h2, h3]
  | @up d l s t hl h ih =>
    match l, hl, h, ih with
    | 0, _, h, ih =>
      intro r hr
      have := ih r (hr.mono (by omega))
      rw [chP_eq]; unfold choF; rw [this]
      simp [stop0 hr]
    | 1, _, h, ih =>
      intro r hr
      have : smP d (s ++ r) = .ok t r := by
        rw [ih r (hr.mono (by omega))]; exact loop_stop (stop2_add hr (by omega)) _ _
      unfold cpP cmpF
      rw [this]; simp only
      rw [opAt_none (stop1_cmp hr (by omega))]
    | 2, _, h, ih =>
      intro r hr
      have : prP d (s ++ r) = .ok t r := by
        rw [ih r (hr.mono (by omega))]; exact loop_stop (stop3_mul hr (by omega)) _ _
      unfold smP rowF
      rw [this]
    | 3, _, h, ih =>
      intro r hr
      have := ih r hr
      unfold prP rowF
      rw [this]
    | 4, _, h, ih =>
      intro r hr
      have := ih r (hr.mono (by omega))
      obtain ⟨c, s', rfl, hc⟩ := gr5_head h
      rw [sgP_eq]; unfold signF
      rw [if_neg (by simpa using hc)]
      exact this

theorem cpl0 {d : Nat} {s : List UInt8} {t : Tm} (h : Gr d 0 s t) (r : List UInt8) (hr : Stop 0 r) : chP d (s ++ r) = .ok t r := cpl h r hr

theorem gr_more {d l : Nat} {s : List UInt8} {t : Tm} (h : Gr d l s t) : Gr (d + 1) l s t := by
  induction h with
  | num d s h hd h0 hv => exact .num _ s h hd h0 hv
  | vn d => exact .vn _
  | vs d => exact .vs _
  | brk _ ih => exact .brk ih
  | mn _ _ iha ihb => exact .mn iha ihb
  | mx _ _ iha ihb => exact .mx iha ihb
  | neg _ ih => exact .neg ih
  | mul op ho _ _ iha ihb => exact .mul op ho iha ihb
  | add op ho _ _ iha ihb => exact .add op ho iha ihb
  | cmp op ho _ _ iha ihb => exact .cmp op ho iha ihb
  | cond _ _ _ iha ihb ihc => exact .cond iha ihb ihc
  | up hl _ ih => exact .up hl ih

/-- A text is read whole, just where it follows the grammar. -/
theorem whole_ok {l : List UInt8} {t : Tm} {v : List UInt8} (h : wholeP l = .ok t v) : v = [] ∧ Gr 20 0 l t := by
  unfold wholeP at h
  split at h
  · cases h
  · rename_i t' v' hc
    split at h
    · rename_i hv
      cases h
      obtain ⟨s, hs, hg⟩ := (snd_lev 20).1 _ _ _ hc
      subst hv
      refine ⟨rfl, ?_⟩
      simp at hs; exact hs ▸ hg
    · cases h

theorem whole_of {l : List UInt8} {t : Tm} (h : Gr 20 0 l t) : wholeP l = .ok t [] := by
  have := cpl0 h [] (by intro c hc; simp at hc)
  simp at this
  simp [wholeP, this]

theorem read_ok {l : List UInt8} {t : Tm} {v : List UInt8} (h : readP l = .ok t v) : l.length ≤ 120 ∧ v = [] ∧ Gr 20 0 l t := by
  unfold readP at h
  split at h
  · cases h
  · rename_i hl
    exact ⟨by omega, whole_ok h⟩

theorem read_of {l : List UInt8} {t : Tm} (hl : l.length ≤ 120) (h : Gr 20 0 l t) : readP l = .ok t [] := by
  unfold readP; rw [if_neg (by omega)]; exact whole_of h

/-- A text within another one, ended by what ends it: if it is right by itself and there too, it says the same there. -/
theorem inner_eq {d : Nat} {a r : List UInt8} {ta t' : Tm} {v : List UInt8} (ha : Gr (d + 1) 0 a ta) (hr : Stop 0 r) (hv : Stop 0 v) (h : chP d (a ++ r) = .ok t' v) : t' = ta ∧ v = r ∧ Gr d 0 a ta := by
  obtain ⟨s, hs, hg⟩ := (snd_lev d).1 _ _ _ h
  have h1 := cpl0 (gr_more hg) v hv
  have h2 := cpl0 ha r hr
  rw [hs, h1] at h2
  injection h2 with e1 e2
  subst e1 e2
  have : s = a := by simpa using hs.symm
  subst this
  exact ⟨rfl, rfl, hg⟩

end Go.Proofs.YthadeccnibnioaaGreatDoor
