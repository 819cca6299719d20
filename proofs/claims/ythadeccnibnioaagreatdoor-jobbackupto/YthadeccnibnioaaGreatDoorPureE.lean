/- What is printed follows the grammar, says the same, and is no longer. -/
import Derived.Test.YthadeccnibnioaaGreatDoorPureD
import Derived.Lib.ItoaNum
namespace Go.Proofs.YthadeccnibnioaaGreatDoor
open Go.Lib (decDigits)

def rk (op : UInt8) : Nat :=
  if op = 63 then 0 else if op ∈ [61, 60, 62] then 1 else if op ∈ [43, 45] then 2 else if op ∈ [42, 47, 37] then 3 else if op = 126 then 4 else 5

def Tm.op : Tm → UInt8
  | .num _ => 48
  | .vn => 110
  | .vs => 115
  | .neg _ => 126
  | .two op _ _ => op
  | .cond _ _ _ => 63

def brk (b : Bool) (s : List UInt8) : List UInt8 := if b then 40 :: (s ++ [41]) else s

/-- How a tree is written. -/
def prt : Tm → List UInt8
  | .num v => decDigits v
  | .vn => [110]
  | .vs => [115]
  | .neg a => 45 :: brk (rk a.op < 4) (prt a)
  | .cond a b c => brk (rk a.op < 1) (prt a) ++ 63 :: (prt b ++ 58 :: prt c)
  | .two op a b =>
    if op = 109 then 109 :: 105 :: 110 :: 40 :: (prt a ++ 44 :: (prt b ++ [41]))
    else if op = 77 then 109 :: 97 :: 120 :: 40 :: (prt a ++ 44 :: (prt b ++ [41]))
    else if rk op = 1 then brk (rk a.op < 2) (prt a) ++ op :: brk (rk b.op < 2) (prt b)
    else if rk op = 2 then brk (rk a.op < 2) (prt a) ++ op :: brk (rk b.op < 3) (prt b)
    else brk (rk a.op < 3) (prt a) ++ op :: brk (rk b.op < 4) (prt b)

theorem valFrom_snoc (p : List UInt8) (c : UInt8) : ∀ acc, valFrom acc (p ++ [c]) = valFrom acc p * 10 + (c.toNat - 48) := by
  induction p with
  | nil => intro acc; rw [List.nil_append, valFrom_cons, valFrom_nil, valFrom_nil, stepV_eq]
  | cons a p ih => intro acc; rw [List.cons_append, valFrom_cons, valFrom_cons, ih]

theorem valFrom_ge (p : List UInt8) : ∀ acc, acc ≤ valFrom acc p := by
  induction p with
  | nil => intro acc; exact Nat.le_refl _
  | cons a p ih => intro acc; have := ih (stepV acc a); rw [valFrom_cons]; have e := stepV_eq acc a; omega

theorem dg_back (s : List UInt8) (h : s ≠ []) (hd : ∀ c ∈ s, isDg c = true) (h0 : s.head? = some 48 → s = [48]) : decDigits (valFrom 0 s) = s := by
  induction hn : s.length generalizing s with
  | zero => exact absurd (List.length_eq_zero_iff.1 hn) h
  | succ n ih =>
    obtain ⟨p, c, rfl⟩ : ∃ p c, s = p ++ [c] := ⟨s.dropLast, s.getLast h, (List.dropLast_concat_getLast h).symm⟩
    have hc : 48 ≤ c.toNat ∧ c.toNat ≤ 57 := by simpa [isDg] using hd c (by simp)
    have hof : ∀ k, k = c.toNat - 48 → UInt8.ofNat (48 + k) = c := by
      intro k hk; subst hk
      have : 48 + (c.toNat - 48) = c.toNat := by omega
      rw [this]; exact UInt8.ofNat_toNat
    rw [valFrom_snoc]
    cases p with
    | nil =>
      rw [valFrom_nil, List.nil_append, Nat.zero_mul, Nat.zero_add]
      rw [decDigits, dif_pos (by omega), hof _ rfl]
    | cons a p =>
      have ha : 48 ≤ a.toNat ∧ a.toNat ≤ 57 := by simpa [isDg] using hd a (by simp)
      have ha48 : ¬ a = 48 := by
        intro e; subst e
        have := h0 (by simp)
        simp at this
      have ha' : a.toNat ≠ 48 := fun e => ha48 (UInt8.toNat_inj.1 (by simpa using e))
      have hpos : 1 ≤ valFrom 0 (a :: p) := by
        have := valFrom_ge p (stepV 0 a); have e := stepV_eq 0 a; rw [valFrom_cons]; omega
      have e1 : (valFrom 0 (a :: p) * 10 + (c.toNat - 48)) / 10 = valFrom 0 (a :: p) := by omega
      have e2 : (valFrom 0 (a :: p) * 10 + (c.toNat - 48)) % 10 = c.toNat - 48 := by omega
      rw [decDigits, dif_neg (by omega), e1, e2, hof _ rfl]
      rw [ih (a :: p) (by simp) (fun x hx => hd x (by simp at hx ⊢; rcases hx with h | h; exact .inl h; exact .inr (.inl h))) (by intro e; simp at e; exact absurd e ha48) (by simpa using hn)]

theorem gr_le5 {d l : Nat} {s : List UInt8} {t : Tm} (h : Gr d l s t) : l ≤ 5 := by
  cases h <;> omega

/-- What is known of a tree that was read. -/
structure Pri (d l : Nat) (s : List UInt8) (t : Tm) : Prop where
  nat : Gr d (rk t.op) (prt t) t
  deep : rk t.op < l → ∃ e, d = e + 1 ∧ Gr e (rk t.op) (prt t) t
  short : (brk (rk t.op < l) (prt t)).length ≤ s.length

theorem rk_le (op : UInt8) : rk op ≤ 5 := by
  unfold rk
  (repeat' split) <;> omega

theorem Pri.at {d l : Nat} {s : List UInt8} {t : Tm} (h : Pri d l s t) (hl : l ≤ 5) : Gr d l (brk (rk t.op < l) (prt t)) t := by
  by_cases hr : rk t.op < l
  · obtain ⟨e, rfl, hg⟩ := h.deep hr
    simp only [brk, hr, decide_true, if_true]
    exact gr_brk (hg.down 0 (by omega) (rk_le _)) l hl
  · simp only [brk, hr, decide_false, Bool.false_eq_true, if_false]
    exact h.nat.down l (by omega) (rk_le _)

theorem brk_len (b : Bool) (s : List UInt8) : s.length ≤ (brk b s).length := by cases b <;> simp [brk]; omega

theorem Pri.zero {d : Nat} {s : List UInt8} {t : Tm} (h : Pri d 0 s t) : Gr d 0 (prt t) t ∧ (prt t).length ≤ s.length :=
  ⟨h.nat.down 0 (by omega) (rk_le _), Nat.le_trans (brk_len _ _) h.short⟩

theorem pri {d l : Nat} {s : List UInt8} {t : Tm} (h : Gr d l s t) : Pri d l s t := by
  induction h with
  | num d s h hd h0 hv =>
    have e := dg_back s h hd h0
    exact ⟨by simp only [prt, e]; exact .num d s h hd h0 hv, by simp [Tm.op, rk], by simp [prt, e, Tm.op, rk, brk]⟩
  | vn d => exact ⟨.vn d, by simp [Tm.op, rk], by simp [prt, Tm.op, rk, brk]⟩
  | vs d => exact ⟨.vs d, by simp [Tm.op, rk], by simp [prt, Tm.op, rk, brk]⟩
  | @brk d s t h ih =>
    obtain ⟨h1, h2⟩ := ih.zero
    refine ⟨gr_more ih.nat, fun _ => ⟨d, rfl, ih.nat⟩, ?_⟩
    unfold Go.Proofs.YthadeccnibnioaaGreatDoor.brk
    split <;> simp <;> omega
  | @mn d a b ta tb ha hb iha ihb =>
    obtain ⟨a1, a2⟩ := iha.zero
    obtain ⟨b1, b2⟩ := ihb.zero
    exact ⟨by simp only [prt, Tm.op, if_true]; exact .mn a1 b1, by simp [Tm.op, rk], by simp [prt, Tm.op, rk, Go.Proofs.YthadeccnibnioaaGreatDoor.brk]; omega⟩
  | @mx d a b ta tb ha hb iha ihb =>
    obtain ⟨a1, a2⟩ := iha.zero
    obtain ⟨b1, b2⟩ := ihb.zero
    exact ⟨by simp only [prt, Tm.op]; exact .mx a1 b1, by simp [Tm.op, rk], by simp [prt, Tm.op, rk, Go.Proofs.YthadeccnibnioaaGreatDoor.brk]; omega⟩
  | @neg d s t h ih =>
    exact ⟨.neg (ih.at (by omega)), by simp [Tm.op, rk], by have := ih.short; simp [prt, Tm.op, rk, Go.Proofs.YthadeccnibnioaaGreatDoor.brk] at this ⊢; omega⟩
  | @mul d a b ta tb op ho ha hb iha ihb =>
    have e : rk op = 3 := by simp at ho; rcases ho with rfl | rfl | rfl <;> rfl
    have en : op ≠ 109 ∧ op ≠ 77 := by simp at ho; rcases ho with rfl | rfl | rfl <;> decide
    have ep : prt (.two op ta tb) = Go.Proofs.YthadeccnibnioaaGreatDoor.brk (rk ta.op < 3) (prt ta) ++ op :: Go.Proofs.YthadeccnibnioaaGreatDoor.brk (rk tb.op < 4) (prt tb) := by simp [prt, en, e]
    have s1 := iha.short
    have s2 := ihb.short
    exact ⟨by simp only [ep, Tm.op, e]; exact .mul op ho (iha.at (by omega)) (ihb.at (by omega)), by simp [Tm.op, e], by
      have eo : (Tm.two op ta tb).op = op := rfl
      rw [ep, eo, e]; simp [Go.Proofs.YthadeccnibnioaaGreatDoor.brk] at s1 s2 ⊢; omega⟩
  | @add d a b ta tb op ho ha hb iha ihb =>
    have e : rk op = 2 := by simp at ho; rcases ho with rfl | rfl <;> rfl
    have en : op ≠ 109 ∧ op ≠ 77 := by simp at ho; rcases ho with rfl | rfl <;> decide
    have ep : prt (.two op ta tb) = Go.Proofs.YthadeccnibnioaaGreatDoor.brk (rk ta.op < 2) (prt ta) ++ op :: Go.Proofs.YthadeccnibnioaaGreatDoor.brk (rk tb.op < 3) (prt tb) := by simp [prt, en, e]
    have s1 := iha.short
    have s2 := ihb.short
    exact ⟨by simp only [ep, Tm.op, e]; exact .add op ho (iha.at (by omega)) (ihb.at (by omega)), by simp [Tm.op, e], by
      have eo : (Tm.two op ta tb).op = op := rfl
      rw [ep, eo, e]; simp [Go.Proofs.YthadeccnibnioaaGreatDoor.brk] at s1 s2 ⊢; omega⟩
  | @cmp d a b ta tb op ho ha hb iha ihb =>
    have e : rk op = 1 := by simp at ho; rcases ho with rfl | rfl | rfl <;> rfl
    have en : op ≠ 109 ∧ op ≠ 77 := by simp at ho; rcases ho with rfl | rfl | rfl <;> decide
    have ep : prt (.two op ta tb) = Go.Proofs.YthadeccnibnioaaGreatDoor.brk (rk ta.op < 2) (prt ta) ++ op :: Go.Proofs.YthadeccnibnioaaGreatDoor.brk (rk tb.op < 2) (prt tb) := by simp [prt, en, e]
    have s1 := iha.short
    have s2 := ihb.short
    exact ⟨by simp only [ep, Tm.op, e]; exact .cmp op ho (iha.at (by omega)) (ihb.at (by omega)), by simp [Tm.op, e], by
      have eo : (Tm.two op ta tb).op = op := rfl
      rw [ep, eo, e]; simp [Go.Proofs.YthadeccnibnioaaGreatDoor.brk] at s1 s2 ⊢; omega⟩
  | @cond d a b c ta tb tc ha hb hc iha ihb ihc =>
    obtain ⟨b1, b2⟩ := ihb.zero
    obtain ⟨c1, c2⟩ := ihc.zero
    have s1 := iha.short
    exact ⟨.cond (iha.at (by omega)) b1 c1, by simp [Tm.op, rk], by simp [prt, Tm.op, rk, Go.Proofs.YthadeccnibnioaaGreatDoor.brk] at s1 ⊢; omega⟩
  | @up d l s t hl h ih =>
    refine ⟨ih.nat, fun hr => ih.deep (by omega), ?_⟩
    have := ih.short
    by_cases hr : rk t.op < l
    · have h2 : rk t.op < l + 1 := by omega
      simp only [Go.Proofs.YthadeccnibnioaaGreatDoor.brk, hr, h2, decide_true, if_true] at this ⊢; exact this
    · simp only [Go.Proofs.YthadeccnibnioaaGreatDoor.brk, hr, decide_false, Bool.false_eq_true, if_false]
      exact Nat.le_trans (brk_len _ _) this

theorem print_ok {l : List UInt8} {t : Tm} {v : List UInt8} (h : readP l = .ok t v) : readP (prt t) = .ok t [] ∧ (prt t).length ≤ l.length := by
  obtain ⟨h1, _, h3⟩ := read_ok h
  obtain ⟨p1, p2⟩ := (pri h3).zero
  exact ⟨read_of (by omega) p1, p2⟩

end Go.Proofs.YthadeccnibnioaaGreatDoor
