/- Maps from texts, plain: a row that rises by its keys' bytes. -/
import Derived.Below
namespace Go.Proofs.YthcgjbpiiodlgaaDoor
set_option linter.unusedVariables false

abbrev Mp (α : Type) := List (ByteArray × α)
namespace Mp
def kb (k : ByteArray) : List UInt8 := k.data.toList
theorem kb_inj {a b : ByteArray} (h : kb a = kb b) : a = b := by
  obtain ⟨⟨l⟩⟩ := a
  obtain ⟨⟨m⟩⟩ := b
  simp only [kb] at h
  subst h
  rfl
theorem kb_tri (a b : ByteArray) : kb a < kb b ∨ a = b ∨ kb b < kb a := by
  by_cases h1 : kb a < kb b
  · exact .inl h1
  · by_cases h2 : kb b < kb a
    · exact .inr (.inr h2)
    · exact .inr (.inl (kb_inj (List.le_antisymm (List.not_lt.1 h2) (List.not_lt.1 h1))))
theorem kb_irr (a : ByteArray) : ¬ kb a < kb a := List.lt_irrefl _
theorem kb_trans {a b c : ByteArray} (h : kb a < kb b) (k : kb b < kb c) : kb a < kb c := List.lt_trans h k
variable {α : Type}
def Ris (m : Mp α) : Prop := m.Pairwise (fun a b => kb a.1 < kb b.1)
def get : Mp α → ByteArray → Option α
  | [], _ => none
  | p :: m, k => if p.1 = k then some p.2 else get m k
/-- Put: in its place, or in place of what was there. -/
def put : Mp α → ByteArray → α → Mp α
  | [], k, x => [(k, x)]
  | p :: m, k, x => if kb p.1 < kb k then p :: put m k x else if p.1 = k then (k, x) :: m else (k, x) :: p :: m
theorem get_nil (k : ByteArray) : get ([] : Mp α) k = none := rfl
theorem mem_put {m : Mp α} {k : ByteArray} {x : α} {q : ByteArray × α} (h : q ∈ put m k x) : q = (k, x) ∨ q ∈ m := by
  induction m with
  | nil => simp [put] at h; exact .inl h
  | cons p m ih =>
    unfold put at h
    split at h
    · rcases List.mem_cons.1 h with h | h
      · exact .inr (by simp [h])
      · rcases ih h with h | h
        · exact .inl h
        · exact .inr (by simp [h])
    · split at h
      · rcases List.mem_cons.1 h with h | h
        · exact .inl h
        · exact .inr (by simp [h])
      · rcases List.mem_cons.1 h with h | h
        · exact .inl h
        · exact .inr h
theorem ris_put {m : Mp α} (h : Ris m) (k : ByteArray) (x : α) : Ris (put m k x) := by
  induction m with
  | nil => exact List.pairwise_singleton _ _
  | cons p m ih =>
    obtain ⟨h1, h2⟩ := List.pairwise_cons.1 h
    unfold put
    split
    · rename_i hlt
      refine List.pairwise_cons.2 ⟨fun q hq => ?_, ih h2⟩
      rcases mem_put hq with rfl | hq
      · exact hlt
      · exact h1 q hq
    · rename_i hlt
      split
      · rename_i he
        refine List.pairwise_cons.2 ⟨fun q hq => ?_, h2⟩
        have := h1 q hq
        rw [he] at this; exact this
      · rename_i hne
        have hkp : kb k < kb p.1 := by
          rcases kb_tri k p.1 with c | c | c
          · exact c
          · exact absurd c.symm hne
          · exact absurd c hlt
        refine List.pairwise_cons.2 ⟨fun q hq => ?_, h⟩
        rcases List.mem_cons.1 hq with rfl | hq
        · exact hkp
        · exact kb_trans hkp (h1 q hq)
theorem get_put {m : Mp α} (h : Ris m) (k : ByteArray) (x : α) (q : ByteArray) : get (put m k x) q = if q = k then some x else get m q := by
  induction m with
  | nil =>
    show (if k = q then some x else none) = _
    by_cases e : q = k
    · rw [if_pos e, if_pos e.symm]
    · rw [if_neg e, if_neg (fun c => e c.symm)]; rfl
  | cons p m ih =>
    obtain ⟨h1, h2⟩ := List.pairwise_cons.1 h
    unfold put
    split
    · rename_i hlt
      show (if p.1 = q then some p.2 else get (put m k x) q) = if q = k then some x else (if p.1 = q then some p.2 else get m q)
      rw [ih h2]
      by_cases e1 : p.1 = q
      · have e2 : ¬ q = k := fun c => by rw [e1, c] at hlt; exact kb_irr _ hlt
        rw [if_pos e1, if_neg e2, if_pos e1]
      · rw [if_neg e1, if_neg e1]
    · rename_i hlt
      split
      · rename_i he
        show (if k = q then some x else get m q) = if q = k then some x else (if p.1 = q then some p.2 else get m q)
        by_cases e : q = k
        · rw [if_pos e.symm, if_pos e]
        · rw [if_neg (fun c => e c.symm), if_neg e, if_neg (fun c => e (c.symm.trans he))]
      · show (if k = q then some x else get (p :: m) q) = if q = k then some x else get (p :: m) q
        by_cases e : q = k
        · rw [if_pos e.symm, if_pos e]
        · rw [if_neg (fun c => e c.symm), if_neg e]
theorem get_mem {m : Mp α} {k : ByteArray} {x : α} (h : get m k = some x) : (k, x) ∈ m := by
  induction m with
  | nil => cases h
  | cons p m ih =>
    have h' : (if p.1 = k then some p.2 else get m k) = some x := h
    by_cases e : p.1 = k
    · rw [if_pos e] at h'
      injection h' with h'
      subst e h'
      simp
    · rw [if_neg e] at h'
      exact List.mem_cons_of_mem _ (ih h')
theorem mem_get {m : Mp α} (h : Ris m) {k : ByteArray} {x : α} (hm : (k, x) ∈ m) : get m k = some x := by
  induction m with
  | nil => simp at hm
  | cons p m ih =>
    obtain ⟨h1, h2⟩ := List.pairwise_cons.1 h
    show (if p.1 = k then some p.2 else get m k) = some x
    rcases List.mem_cons.1 hm with e | hm
    · rw [← e]; simp
    · have : ¬ p.1 = k := fun e => by have := h1 _ hm; rw [e] at this; exact kb_irr _ this
      rw [if_neg this]; exact ih h2 hm
theorem get_none {m : Mp α} {k : ByteArray} : get m k = none ↔ ∀ q ∈ m, q.1 ≠ k := by
  induction m with
  | nil => simp [get]
  | cons p m ih =>
    show (if p.1 = k then some p.2 else get m k) = none ↔ _
    by_cases e : p.1 = k
    · rw [if_pos e]; simp [e]
    · rw [if_neg e, ih]; simp [e]
/-- Rows that answer alike are the same. -/
theorem ext : ∀ {a b : Mp α}, Ris a → Ris b → (∀ k, get a k = get b k) → a = b
  | [], [], _, _, _ => rfl
  | [], q :: b, _, _, h => by have := h q.1; simp [get] at this
  | p :: a, [], _, _, h => by have := h p.1; simp [get] at this
  | p :: a, q :: b, ha, hb, h => by
    obtain ⟨a1, a2⟩ := List.pairwise_cons.1 ha
    obtain ⟨b1, b2⟩ := List.pairwise_cons.1 hb
    have hp : (p.1, p.2) ∈ q :: b := get_mem (by rw [← h]; simp [get])
    have hq : (q.1, q.2) ∈ p :: a := get_mem (by rw [h]; simp [get])
    have e : p = q := by
      rcases List.mem_cons.1 hp with e | hp
      · exact e
      · rcases List.mem_cons.1 hq with e | hq
        · exact e.symm
        · exact absurd (kb_trans (a1 _ hq) (b1 _ hp)) (kb_irr _)
    subst e
    rw [ext a2 b2 (fun k => ?_)]
    have hk := h k
    have hk' : (if p.1 = k then some p.2 else get a k) = (if p.1 = k then some p.2 else get b k) := hk
    by_cases e : p.1 = k
    · have n1 : get a k = none := get_none.2 (fun r hr c => by have := a1 r hr; rw [c, e] at this; exact kb_irr _ this)
      have n2 : get b k = none := get_none.2 (fun r hr c => by have := b1 r hr; rw [c, e] at this; exact kb_irr _ this)
      rw [n1, n2]
    · rw [if_neg e, if_neg e] at hk'; exact hk'
theorem put_length {m : Mp α} (k : ByteArray) (x : α) : (put m k x).length ≤ m.length + 1 := by
  induction m with
  | nil => simp [put]
  | cons p m ih =>
    unfold put
    split
    · simp; omega
    · split
      · simp
      · simp
/-- One row over another one. -/
def over (m n : Mp α) : Mp α := n.foldl (fun m p => put m p.1 p.2) m
theorem ris_over : ∀ (n m : Mp α), Ris m → Ris (over m n)
  | [], m, h => h
  | p :: n, m, h => ris_over n (put m p.1 p.2) (ris_put h _ _)
theorem get_over : ∀ (n m : Mp α), Ris m → Ris n → ∀ k, get (over m n) k = (get n k).orElse (fun _ => get m k)
  | [], m, _, _, k => rfl
  | p :: n, m, h, hn, k => by
    obtain ⟨n1, n2⟩ := List.pairwise_cons.1 hn
    show get (over (put m p.1 p.2) n) k = _
    rw [get_over n _ (ris_put h _ _) n2, get_put h]
    show _ = (if p.1 = k then some p.2 else get n k).orElse (fun _ => get m k)
    by_cases e : p.1 = k
    · have : get n k = none := get_none.2 (fun r hr c => by have := n1 r hr; rw [c, e] at this; exact kb_irr _ this)
      rw [this, if_pos e, if_pos e.symm]; rfl
    · rw [if_neg e, if_neg (fun c => e c.symm)]
end Mp
end Go.Proofs.YthcgjbpiiodlgaaDoor
