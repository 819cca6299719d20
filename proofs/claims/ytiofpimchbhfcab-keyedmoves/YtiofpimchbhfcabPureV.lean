/- A reader's states: what is left, or none where the bytes are not such. Plain mathematics. -/
import Derived.Test.YtiofpimchbhfcabPureZ
namespace Go.Proofs.Ytiofpimchbhfcab

abbrev St := Option (List UInt8)
/-- The number that comes next, the text, how many items; and what is left. -/
def nI : St → Int × St
  | none => (0, none)
  | some l => match rdI l with
    | none => (0, none)
    | some (n, r) => (n, some r)
def nT : St → ByteArray × St
  | none => (⟨#[]⟩, none)
  | some l => match rdT l with
    | none => (⟨#[]⟩, none)
    | some (k, r) => (k, some r)
def nM (st : St) : Int × St := match nI st with
  | (_, none) => (0, none)
  | (n, some r) => if n < 0 ∨ 400 < n then (0, none) else (n, some r)
def nRc (st : St) : Rc × St := (⟨(nT st).1, (nI (nT st).2).1, (nI (nI (nT st).2).2).1⟩, (nI (nI (nT st).2).2).2)
def nHd (st : St) : Hd × St := (⟨(nI st).1, (nT (nI st).2).1, (nI (nT (nI st).2).2).1, (nI (nI (nT (nI st).2).2).2).1⟩, (nI (nI (nT (nI st).2).2).2).2)

theorem nRc_ok (l : List UInt8) : match rdRc l with
    | none => (nRc (some l)).2 = none
    | some (r, q) => nRc (some l) = (r, some q) := by
  cases h1 : rdT l with
  | none => simp [rdRc, nRc, nT, nI, h1]
  | some p1 =>
    obtain ⟨k, l1⟩ := p1
    cases h2 : rdI l1 with
    | none => simp [rdRc, nRc, nT, nI, h1, h2]
    | some p2 =>
      obtain ⟨n, l2⟩ := p2
      cases h3 : rdI l2 with
      | none => simp [rdRc, nRc, nT, nI, h1, h2, h3]
      | some p3 => simp [rdRc, nRc, nT, nI, h1, h2, h3]
theorem nHd_ok (l : List UInt8) : match rdHd l with
    | none => (nHd (some l)).2 = none
    | some (r, q) => nHd (some l) = (r, some q) := by
  cases h0 : rdI l with
  | none => simp [rdHd, nHd, nT, nI, h0]
  | some p0 =>
    obtain ⟨nd, l0⟩ := p0
    cases h1 : rdT l0 with
    | none => simp [rdHd, nHd, nT, nI, h0, h1]
    | some p1 =>
      obtain ⟨k, l1⟩ := p1
      cases h2 : rdI l1 with
      | none => simp [rdHd, nHd, nT, nI, h0, h1, h2]
      | some p2 =>
        obtain ⟨n, l2⟩ := p2
        cases h3 : rdI l2 with
        | none => simp [rdHd, nHd, nT, nI, h0, h1, h2, h3]
        | some p3 => simp [rdHd, nHd, nT, nI, h0, h1, h2, h3]
theorem nRc_no (l : List UInt8) (h : rdRc l = none) : (nRc (some l)).2 = none := by have := nRc_ok l; rw [h] at this; exact this
theorem nRc_yes (l : List UInt8) (r : Rc) (q : List UInt8) (h : rdRc l = some (r, q)) : nRc (some l) = (r, some q) := by have := nRc_ok l; rw [h] at this; exact this
theorem nHd_no (l : List UInt8) (h : rdHd l = none) : (nHd (some l)).2 = none := by have := nHd_ok l; rw [h] at this; exact this
theorem nHd_yes (l : List UInt8) (r : Hd) (q : List UInt8) (h : rdHd l = some (r, q)) : nHd (some l) = (r, some q) := by have := nHd_ok l; rw [h] at this; exact this
theorem nRc_none : (nRc none).2 = none := rfl
theorem nHd_none : (nHd none).2 = none := rfl

/-- Items one behind the other. -/
theorem rdMany_snoc {α : Type} (f : List UInt8 → Option (α × List UInt8)) : ∀ (n : Nat) (l : List UInt8), rdMany f (n + 1) l = match rdMany f n l with
    | none => none
    | some (xs, r) => match f r with
      | none => none
      | some (x, r') => some (xs ++ [x], r')
  | 0, l => by
    simp only [rdMany]
    cases h : f l with
    | none => rfl
    | some p => obtain ⟨x, r⟩ := p; rfl
  | n + 1, l => by
    rw [rdMany]
    cases h : f l with
    | none => simp [rdMany, h]
    | some p =>
      obtain ⟨x, r⟩ := p
      simp only
      rw [rdMany_snoc f n r]
      rw [rdMany, h]
      simp only
      cases h2 : rdMany f n r with
      | none => rfl
      | some p2 =>
        obtain ⟨ys, r2⟩ := p2
        simp only
        cases h3 : f r2 with
        | none => rfl
        | some p3 => obtain ⟨y, r3⟩ := p3; rfl

/-- How far a reading of items has come: what is left and the items, or none. -/
def Came {α : Type} (f : List UInt8 → Option (α × List UInt8)) (l : St) (i : Nat) (st : St) (xs : List α) : Prop := match st with
  | some q => ∃ r, l = some r ∧ rdMany f i r = some (xs, q)
  | none => ∀ r, l = some r → rdMany f i r = none
theorem Came.zero {α : Type} (f : List UInt8 → Option (α × List UInt8)) (l : St) : Came f l 0 l [] := by
  cases l with
  | none => intro r h; cases h
  | some r => exact ⟨r, rfl, rfl⟩
theorem Came.next {α : Type} {f : List UInt8 → Option (α × List UInt8)} {g : St → α × St} (hn : (g none).2 = none) (hg0 : ∀ l, f l = none → (g (some l)).2 = none) (hg1 : ∀ l r q, f l = some (r, q) → g (some l) = (r, some q))
    {l : St} {i : Nat} {st : St} {xs : List α} (h : Came f l i st xs) : Came f l (i + 1) (g st).2 (xs ++ [(g st).1]) := by
  cases st with
  | none =>
    rw [hn]
    intro r hr
    rw [rdMany_snoc, h r hr]
  | some q =>
    obtain ⟨r, rfl, h⟩ := h
    cases hf : f q with
    | none =>
      rw [hg0 q hf]
      intro r' hr'
      injection hr' with hr'
      subst hr'
      rw [rdMany_snoc, h]
      simp only [hf]
    | some p =>
      obtain ⟨x, q'⟩ := p
      rw [hg1 q x q' hf]
      exact ⟨r, rfl, by rw [rdMany_snoc, h]; simp only [hf]⟩
/-- At its end. -/
theorem Came.all {α : Type} {f : List UInt8 → Option (α × List UInt8)} {b : List UInt8} {st : St} {xs : List α} (h : Came f (nM (some b)).2 (nM (some b)).1.toNat st xs) :
    (st = some [] → rdAll f b = some xs) ∧ (st ≠ some [] → rdAll f b = none) := by
  unfold rdAll
  have e : nM (some b) = match rdI b with
    | none => (0, none)
    | some (n, r) => if n < 0 ∨ 400 < n then (0, none) else (n, some r) := by
    cases hb : rdI b <;> simp [nM, nI, hb]
  rw [e] at h
  cases hr : rdI b with
  | none =>
    rw [hr] at h
    refine ⟨fun hs => ?_, fun _ => rfl⟩
    subst hs
    obtain ⟨r, h1, -⟩ := h
    cases h1
  | some p =>
    obtain ⟨n, r⟩ := p
    rw [hr] at h
    simp only at h ⊢
    by_cases hn : n < 0 ∨ 400 < n
    · rw [if_pos hn] at h
      rw [if_pos hn]
      refine ⟨fun hs => ?_, fun _ => rfl⟩
      subst hs
      obtain ⟨r, h1, -⟩ := h
      cases h1
    · rw [if_neg hn] at h
      rw [if_neg hn]
      cases st with
      | none =>
        have := h r rfl
        rw [this]
        exact ⟨(by intro hs; cases hs), fun _ => rfl⟩
      | some q =>
        obtain ⟨r', h1, h2⟩ := h
        injection h1 with h1
        subst h1
        rw [h2]
        cases q with
        | nil => exact ⟨fun _ => rfl, fun hs => absurd rfl hs⟩
        | cons c q => exact ⟨(by intro hs; cases hs), fun _ => rfl⟩
theorem nM_bd (st : St) : 0 ≤ (nM st).1 ∧ (nM st).1 ≤ 400 := by
  unfold nM
  split
  · exact ⟨by decide, by decide⟩
  · split
    · exact ⟨by decide, by decide⟩
    · rename_i h; exact ⟨by simp only; omega, by simp only; omega⟩
theorem nI_bd (st : St) : I64 (nI st).1 := by
  unfold nI
  split
  · exact ⟨by decide, by decide⟩
  · split
    · exact ⟨by decide, by decide⟩
    · rename_i h; exact (rdI_some h).1
/-- A text's steps. -/
theorem nT_steps (st : St) : nT st = match nI st with
    | (_, none) => (⟨#[]⟩, none)
    | (n, some r) => if n < 0 ∨ (r.length : Int) < n then (⟨#[]⟩, none) else (⟨(r.take n.toNat).toArray⟩, some (r.drop n.toNat)) := by
  cases st with
  | none => rfl
  | some l =>
    unfold nT nI rdT
    simp only
    cases h : rdI l with
    | none => rfl
    | some p =>
      obtain ⟨n, r⟩ := p
      simp only
      by_cases hn : n < 0 ∨ (r.length : Int) < n
      · rw [if_pos hn, if_pos hn]
      · rw [if_neg hn, if_neg hn]
theorem nI_zero {st : St} (h : (nI st).2 = none) : (nI st).1 = 0 := by
  unfold nI at h ⊢
  cases st with
  | none => rfl
  | some l =>
    simp only at h ⊢
    cases hr : rdI l with
    | none => rfl
    | some p => rw [hr] at h; cases h
end Go.Proofs.Ytiofpimchbhfcab
