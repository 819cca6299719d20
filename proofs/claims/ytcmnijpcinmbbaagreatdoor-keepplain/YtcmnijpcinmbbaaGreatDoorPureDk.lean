/- Files by names, and what takes back what was done: plain. -/
import Derived.Test.YtcmnijpcinmbbaaGreatDoorPureZ
namespace Go.Proofs.YtcmnijpcinmbbaaGreatDoor

/-- Files by their names. -/
abbrev Fs := ByteArray → Option (List UInt8)
def upd (σ : Fs) (k : ByteArray) (o : Option (List UInt8)) : Fs := fun x => if x = k then o else σ x
/-- What stood at a name. -/
structure Pt where
  k : ByteArray
  o : Option (List UInt8)
inductive Bk where
  | one (p : Pt)
  | two (f t : Pt)
def Bk.run : Bk → Fs → Fs
  | .one p, σ => upd σ p.k p.o
  | .two f t, σ => upd (upd σ t.k t.o) f.k f.o
/-- All of them, the last one first. -/
def backs (U : List Bk) (σ : Fs) : Fs := U.foldr Bk.run σ

def nmB (c : UInt8) : Bool := decide (97 ≤ c.toNat ∧ c.toNat ≤ 122) || decide (48 ≤ c.toNat ∧ c.toNat ≤ 57) || decide (c.toNat = 45)
def isNm (s : ByteArray) : Bool := decide (1 ≤ s.size ∧ s.size ≤ 20) && s.data.toList.all nmB
theorem isNm_size {s : ByteArray} (h : isNm s = true) : 1 ≤ s.size ∧ s.size ≤ 20 := by
  unfold isNm at h; simp at h; exact h.1
theorem upd_same (σ : Fs) (k : ByteArray) (o : Option (List UInt8)) : upd σ k o k = o := by simp [upd]
theorem upd_other (σ : Fs) {k x : ByteArray} (o : Option (List UInt8)) (h : x ≠ k) : upd σ k o x = σ x := by simp [upd, h]
/-- What bars a step. -/
def chkP (s bd : Int) (names : List ByteArray) : Int := if 0 ≤ bd ∧ bd ≤ s then 7 else if names.all isNm then 0 else 2
/-- All keys are names. -/
def FsOk (σ : Fs) : Prop := ∀ k, (σ k).isSome = true → isNm k = true
theorem FsOk.upd {σ : Fs} (h : FsOk σ) {k : ByteArray} (hk : isNm k = true) (o : Option (List UInt8)) : FsOk (upd σ k o) := fun x hx => by
  by_cases e : x = k
  · rw [e]; exact hk
  · rw [upd_other σ o e] at hx; exact h x hx
theorem FsOk.none : FsOk (fun _ => none) := fun _ h => by simp at h
def PtOk (p : Pt) : Prop := isNm p.k = true
def BkOk : Bk → Prop
  | .one p => PtOk p
  | .two f t => PtOk f ∧ PtOk t
theorem BkOk.run {b : Bk} (hb : BkOk b) {σ : Fs} (h : FsOk σ) : FsOk (b.run σ) := by
  cases b with
  | one p => exact h.upd hb _
  | two f t => exact (h.upd hb.2 _).upd hb.1 _
theorem backs_snoc (U : List Bk) (b : Bk) (σ : Fs) : backs (U ++ [b]) σ = backs U (b.run σ) := by simp [backs]
/-- A disk, plain. -/
structure Ds where
  σ : Fs
  U : List Bk
  s : Int
  bd : Int
def newD : Ds := ⟨fun _ => none, [], 0, -1⟩
def wrD (d : Ds) (k : ByteArray) (bs : List UInt8) : Int × Ds :=
  if chkP d.s d.bd [k] ≠ 0 then (chkP d.s d.bd [k], d) else if 60000 < bs.length then (4, d) else (0, ⟨upd d.σ k (some bs), d.U ++ [.one ⟨k, d.σ k⟩], d.s + 1, d.bd⟩)
def rmD (d : Ds) (k : ByteArray) : Int × Ds :=
  if chkP d.s d.bd [k] ≠ 0 then (chkP d.s d.bd [k], d) else if (d.σ k).isSome = false then (6, d) else (0, ⟨upd d.σ k none, d.U ++ [.one ⟨k, d.σ k⟩], d.s + 1, d.bd⟩)
def rnD (d : Ds) (f t : ByteArray) : Int × Ds :=
  if chkP d.s d.bd [f, t] ≠ 0 then (chkP d.s d.bd [f, t], d) else if (d.σ f).isSome = false then (6, d) else (0, ⟨upd (upd d.σ f none) t (d.σ f), d.U ++ [.two ⟨f, d.σ f⟩ ⟨t, d.σ t⟩], d.s + 1, d.bd⟩)
def syD (d : Ds) : Int × Ds :=
  if chkP d.s d.bd [] ≠ 0 then (chkP d.s d.bd [], d) else (0, ⟨d.σ, [], d.s + 1, d.bd⟩)
def keepN (U : List Bk) (keep : Int) : Nat := (min (max keep 0) U.length).toNat
def crD (d : Ds) (keep : Int) : Ds := ⟨backs (d.U.drop (keepN d.U keep)) d.σ, [], 0, -1⟩
def rdD (d : Ds) (k : ByteArray) : Int := if isNm k = false then 2 else if (d.σ k).isSome = false then 6 else 0
theorem chk_cases (s bd : Int) (l : List ByteArray) : chkP s bd l = 7 ∨ chkP s bd l = 2 ∨ chkP s bd l = 0 := by
  unfold chkP; split
  · exact .inl rfl
  · split
    · exact .inr (.inr rfl)
    · exact .inr (.inl rfl)
theorem chk_ok {s bd : Int} {l : List ByteArray} (h : chkP s bd l = 0) : l.all isNm = true := by
  unfold chkP at h; split at h
  · omega
  · split at h
    · assumption
    · omega
/-- Few steps so far. -/
def Sm (m : Nat) (d : Ds) : Prop := 0 ≤ d.s ∧ d.s ≤ m ∧ d.U.length ≤ m
theorem Sm.up {m m' : Nat} {d : Ds} (h : Sm m d) (hm : m ≤ m') : Sm m' d := ⟨h.1, by have := h.2.1; omega, by have := h.2.2; omega⟩
theorem Sm.new : Sm 0 newD := ⟨by simp [newD], by simp [newD], by simp [newD]⟩
theorem Sm.wr {m : Nat} {d : Ds} (h : Sm m d) (k : ByteArray) (bs : List UInt8) : Sm (m + 1) (wrD d k bs).2 := by
  unfold wrD; obtain ⟨h1, h2, h3⟩ := h
  split
  · exact ⟨h1, by simp; omega, by simp; omega⟩
  · split
    · exact ⟨h1, by simp; omega, by simp; omega⟩
    · exact ⟨by simp; omega, by simp; omega, by simp; omega⟩
theorem Sm.rm {m : Nat} {d : Ds} (h : Sm m d) (k : ByteArray) : Sm (m + 1) (rmD d k).2 := by
  unfold rmD; obtain ⟨h1, h2, h3⟩ := h
  split
  · exact ⟨h1, by simp; omega, by simp; omega⟩
  · split
    · exact ⟨h1, by simp; omega, by simp; omega⟩
    · exact ⟨by simp; omega, by simp; omega, by simp; omega⟩
theorem Sm.rn {m : Nat} {d : Ds} (h : Sm m d) (k l : ByteArray) : Sm (m + 1) (rnD d k l).2 := by
  unfold rnD; obtain ⟨h1, h2, h3⟩ := h
  split
  · exact ⟨h1, by simp; omega, by simp; omega⟩
  · split
    · exact ⟨h1, by simp; omega, by simp; omega⟩
    · exact ⟨by simp; omega, by simp; omega, by simp; omega⟩
theorem Sm.sy {m : Nat} {d : Ds} (h : Sm m d) : Sm (m + 1) (syD d).2 := by
  unfold syD; obtain ⟨h1, h2, h3⟩ := h
  split
  · exact ⟨h1, by simp; omega, by simp; omega⟩
  · exact ⟨by simp; omega, by simp; omega, by simp⟩
theorem Sm.cr (m : Nat) (d : Ds) (keep : Int) : Sm m (crD d keep) := ⟨by simp [crD], by simp [crD], by simp [crD]⟩

/-- The names of all files, by bytes. -/
def NmsIs (σ : Fs) (l : List ByteArray) : Prop := l.Pairwise (fun a b => a.data.toList ≤ b.data.toList) ∧ l.Nodup ∧ ∀ k, k ∈ l ↔ (σ k).isSome = true
theorem bytes_ext {a b : ByteArray} (h : a.data.toList = b.data.toList) : a = b := by
  cases a; cases b
  congr 1
  exact Array.toList_inj.1 h
theorem NmsIs.unique {σ : Fs} {l l' : List ByteArray} (h : NmsIs σ l) (h' : NmsIs σ l') : l = l' := by
  have hp : l.Perm l' := (List.perm_ext_iff_of_nodup h.2.1 h'.2.1).2 fun k => by rw [h.2.2, h'.2.2]
  exact List.Perm.eq_of_pairwise (le := fun a b => a.data.toList ≤ b.data.toList) (fun a b _ _ h1 h2 => bytes_ext (List.le_antisymm h1 h2)) h.1 h'.1 hp
end Go.Proofs.YtcmnijpcinmbbaaGreatDoor
