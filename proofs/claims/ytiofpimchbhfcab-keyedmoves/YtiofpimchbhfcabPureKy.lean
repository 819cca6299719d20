/- States, one of each node and key, in a row that rises. Plain mathematics. -/
import Derived.Test.YtiofpimchbhfcabPureZ
namespace Go.Proofs.Ytiofpimchbhfcab

def kH (h : Hd) : List UInt8 := h.key.data.toList
/-- Which one stands ahead; which two are of one node and key. -/
def Ah (a b : Hd) : Prop := a.nd < b.nd ∨ (a.nd = b.nd ∧ kH a < kH b)
def Sm (a b : Hd) : Prop := a.nd = b.nd ∧ a.key = b.key
instance (a b : Hd) : Decidable (Ah a b) := by unfold Ah; exact inferInstance
instance (a b : Hd) : Decidable (Sm a b) := by unfold Sm; exact inferInstance
theorem key_of_kH {a b : Hd} (h : kH a = kH b) : a.key = b.key := by
  obtain ⟨_, ⟨⟨l⟩⟩, _, _⟩ := a
  obtain ⟨_, ⟨⟨m⟩⟩, _, _⟩ := b
  simp only [kH] at h
  subst h
  rfl
theorem Ah.irr (a : Hd) : ¬ Ah a a := by
  rintro (h | ⟨-, h⟩)
  · omega
  · exact List.lt_irrefl _ h
theorem Ah.trans {a b c : Hd} (h : Ah a b) (k : Ah b c) : Ah a c := by
  rcases h with h | ⟨h1, h2⟩ <;> rcases k with k | ⟨k1, k2⟩
  · exact .inl (by omega)
  · exact .inl (by omega)
  · exact .inl (by omega)
  · exact .inr ⟨by omega, List.lt_trans h2 k2⟩
theorem lt_tri (a b : List UInt8) : a < b ∨ a = b ∨ b < a := by
  by_cases h1 : a < b
  · exact .inl h1
  · by_cases h2 : b < a
    · exact .inr (.inr h2)
    · exact .inr (.inl (List.le_antisymm (List.not_lt.1 h2) (List.not_lt.1 h1)))
theorem Ah.tri (a b : Hd) : Ah a b ∨ Sm a b ∨ Ah b a := by
  by_cases h : a.nd = b.nd
  · rcases lt_tri (kH a) (kH b) with h1 | h1 | h1
    · exact .inl (.inr ⟨h, h1⟩)
    · exact .inr (.inl ⟨h, key_of_kH h1⟩)
    · exact .inr (.inr (.inr ⟨h.symm, h1⟩))
  · rcases Int.lt_or_gt_of_ne h with h1 | h1
    · exact .inl (.inl h1)
    · exact .inr (.inr (.inl h1))
theorem Sm.symm {a b : Hd} (h : Sm a b) : Sm b a := ⟨h.1.symm, h.2.symm⟩
theorem Sm.trans {a b c : Hd} (h : Sm a b) (k : Sm b c) : Sm a c := ⟨h.1.trans k.1, h.2.trans k.2⟩
theorem Sm.refl (a : Hd) : Sm a a := ⟨rfl, rfl⟩
theorem Ah.left {a a' b : Hd} (h : Ah a b) (k : Sm a a') : Ah a' b := by
  unfold Ah kH at *; rw [← k.1, ← k.2]; exact h
theorem Ah.right {a b b' : Hd} (h : Ah a b) (k : Sm b b') : Ah a b' := by
  unfold Ah kH at *; rw [← k.1, ← k.2]; exact h
theorem Ah.notSm {a b : Hd} (h : Ah a b) : ¬ Sm a b := fun k => Ah.irr b (h.left k)
theorem Ah.asym {a b : Hd} (h : Ah a b) : ¬ Ah b a := fun k => Ah.irr _ (h.trans k)

def RisH (l : List Hd) : Prop := l.Pairwise Ah
def isAt (n : Int) (k : ByteArray) (x : Hd) : Bool := decide (x.nd = n ∧ x.key = k)
theorem isAt_sm {n : Int} {k : ByteArray} {x : Hd} (y : Hd) (hn : y.nd = n) (hk : y.key = k) : isAt n k x = decide (Sm x y) := by
  unfold isAt; subst hn hk; rfl
def delP (l : List Hd) (n : Int) (k : ByteArray) : List Hd := l.filter (fun x => !isAt n k x)
def putP (l : List Hd) (h : Hd) : List Hd := l.filter (fun x => decide (Ah x h)) ++ h :: l.filter (fun x => decide (Ah h x))
def findH (l : List Hd) (n : Int) (k : ByteArray) : Option Hd := l.find? (isAt n k)

theorem mem_putP (l : List Hd) (h x : Hd) : x ∈ putP l h ↔ x = h ∨ (x ∈ l ∧ ¬ Sm x h) := by
  unfold putP
  simp only [List.mem_append, List.mem_filter, List.mem_cons, decide_eq_true_eq]
  constructor
  · rintro (⟨h1, h2⟩ | h1 | ⟨h1, h2⟩)
    · exact .inr ⟨h1, h2.notSm⟩
    · exact .inl h1
    · exact .inr ⟨h1, fun k => h2.notSm k.symm⟩
  · rintro (h1 | ⟨h1, h2⟩)
    · exact .inr (.inl h1)
    · rcases Ah.tri x h with k | k | k
      · exact .inl ⟨h1, k⟩
      · exact absurd k h2
      · exact .inr (.inr ⟨h1, k⟩)
theorem putP_ris {l : List Hd} (hl : RisH l) (h : Hd) : RisH (putP l h) := by
  unfold putP
  refine List.pairwise_append.2 ⟨hl.filter _, List.pairwise_cons.2 ⟨fun y hy => ?_, hl.filter _⟩, fun x hx y hy => ?_⟩
  · exact of_decide_eq_true (List.mem_filter.1 hy).2
  · have h1 : Ah x h := of_decide_eq_true (List.mem_filter.1 hx).2
    rcases List.mem_cons.1 hy with rfl | hy
    · exact h1
    · exact h1.trans (of_decide_eq_true (List.mem_filter.1 hy).2)
theorem delP_ris {l : List Hd} (hl : RisH l) (n : Int) (k : ByteArray) : RisH (delP l n k) := hl.filter _
theorem mem_delP (l : List Hd) (n : Int) (k : ByteArray) (x : Hd) : x ∈ delP l n k ↔ x ∈ l ∧ ¬ (x.nd = n ∧ x.key = k) := by
  unfold delP isAt
  rw [List.mem_filter]
  by_cases h : x.nd = n ∧ x.key = k <;> simp [h]
theorem ris_ext : ∀ {l m : List Hd}, RisH l → RisH m → (∀ x, x ∈ l ↔ x ∈ m) → l = m
  | [], [], _, _, _ => rfl
  | [], y :: m, _, _, h => by have := (h y).2 (by simp); simp at this
  | x :: l, [], _, _, h => by have := (h x).1 (by simp); simp at this
  | x :: l, y :: m, hl, hm, h => by
    obtain ⟨l1, l2⟩ := List.pairwise_cons.1 hl
    obtain ⟨m1, m2⟩ := List.pairwise_cons.1 hm
    have e : x = y := by
      have hx := (h x).1 (by simp)
      have hy := (h y).2 (by simp)
      rcases List.mem_cons.1 hx with e | hx
      · exact e
      · rcases List.mem_cons.1 hy with e | hy
        · exact e.symm
        · exact absurd (m1 x hx) (l1 y hy).asym
    subst e
    rw [ris_ext l2 m2 (fun z => ?_)]
    constructor
    · intro hz
      rcases List.mem_cons.1 ((h z).1 (List.mem_cons_of_mem _ hz)) with e | hz'
      · subst e; exact absurd (l1 z hz) (Ah.irr z)
      · exact hz'
    · intro hz
      rcases List.mem_cons.1 ((h z).2 (List.mem_cons_of_mem _ hz)) with e | hz'
      · subst e; exact absurd (m1 z hz) (Ah.irr z)
      · exact hz'
theorem ris_uniq {l : List Hd} (hl : RisH l) {x y : Hd} (hx : x ∈ l) (hy : y ∈ l) (h : Sm x y) : x = y := by
  induction l with
  | nil => cases hx
  | cons z l ih =>
    obtain ⟨l1, l2⟩ := List.pairwise_cons.1 hl
    rcases List.mem_cons.1 hx with ex | hx1
    · rcases List.mem_cons.1 hy with ey | hy1
      · rw [ex, ey]
      · subst ex; exact absurd h (l1 y hy1).notSm
    · rcases List.mem_cons.1 hy with ey | hy1
      · subst ey; exact absurd h.symm (l1 x hx1).notSm
      · exact ih l2 hx1 hy1
theorem findH_iff {l : List Hd} (hl : RisH l) (n : Int) (k : ByteArray) (h : Hd) : findH l n k = some h ↔ h ∈ l ∧ h.nd = n ∧ h.key = k := by
  unfold findH
  constructor
  · intro e
    have h1 := List.find?_some e
    exact ⟨List.mem_of_find?_eq_some e, of_decide_eq_true h1⟩
  · rintro ⟨h1, h2, h3⟩
    cases hf : l.find? (isAt n k) with
    | none => have := List.find?_eq_none.1 hf h h1; unfold isAt at this; simp [h2, h3] at this
    | some y =>
      have h4 : y.nd = n ∧ y.key = k := of_decide_eq_true (List.find?_some (p := isAt n k) hf)
      rw [ris_uniq hl (List.mem_of_find?_eq_some hf) h1 ⟨h4.1.trans h2.symm, h4.2.trans h3.symm⟩]
theorem findH_none {l : List Hd} {n : Int} {k : ByteArray} : findH l n k = none ↔ ∀ h ∈ l, ¬ (h.nd = n ∧ h.key = k) := by
  unfold findH
  rw [List.find?_eq_none]
  constructor
  · intro h x hx e; exact h x hx (decide_eq_true e)
  · intro h x hx e; exact h x hx (of_decide_eq_true e)
theorem findH_nil (n : Int) (k : ByteArray) : findH [] n k = none := rfl

theorem three (l : List Hd) (h : Hd) : (l.filter (fun x => decide (Ah x h))).length + (l.filter (fun x => decide (Ah h x))).length + (l.filter (fun x => decide (Sm x h))).length = l.length := by
  induction l with
  | nil => rfl
  | cons x l ih =>
    rcases Ah.tri x h with k | k | k
    · have k1 : ¬ Ah h x := k.asym
      have k2 : ¬ Sm x h := k.notSm
      simp only [List.filter_cons, decide_eq_true k, decide_eq_false k1, decide_eq_false k2, if_true, Bool.false_eq_true, if_false, List.length_cons]
      omega
    · have k1 : ¬ Ah h x := fun e => e.notSm k.symm
      have k2 : ¬ Ah x h := fun e => e.notSm k
      simp only [List.filter_cons, decide_eq_true k, decide_eq_false k1, decide_eq_false k2, if_true, Bool.false_eq_true, if_false, List.length_cons]
      omega
    · have k1 : ¬ Ah x h := k.asym
      have k2 : ¬ Sm x h := fun e => k.notSm e.symm
      simp only [List.filter_cons, decide_eq_true k, decide_eq_false k1, decide_eq_false k2, if_true, Bool.false_eq_true, if_false, List.length_cons]
      omega
theorem sm_len {l : List Hd} (hl : RisH l) (n : Int) (k : ByteArray) : (l.filter (isAt n k)).length = if (findH l n k).isSome then 1 else 0 := by
  induction l with
  | nil => rfl
  | cons x l ih =>
    obtain ⟨l1, l2⟩ := List.pairwise_cons.1 hl
    unfold findH at ih ⊢
    rw [List.filter_cons, List.find?_cons]
    cases hx : isAt n k x with
    | true =>
      have e : l.filter (isAt n k) = [] := List.filter_eq_nil_iff.2 (fun y hy hy' => by
        have h1 := of_decide_eq_true hx
        have h2 := of_decide_eq_true hy'
        exact (l1 y hy).notSm ⟨h1.1.trans h2.1.symm, h1.2.trans h2.2.symm⟩)
      simp [e]
    | false =>
      simp only [Bool.false_eq_true, if_false]
      exact ih l2
theorem putP_len {l : List Hd} (hl : RisH l) (h : Hd) : (putP l h).length = if (findH l h.nd h.key).isSome then l.length else l.length + 1 := by
  have h1 := three l h
  have h2 := sm_len hl h.nd h.key
  have h3 : (fun x => decide (Sm x h)) = isAt h.nd h.key := by funext x; exact (isAt_sm h rfl rfl).symm
  rw [h3] at h1
  unfold putP
  rw [List.length_append, List.length_cons]
  split
  · rename_i hs; rw [if_pos hs] at h2; omega
  · rename_i hs; rw [if_neg hs] at h2; omega
theorem delP_len {l : List Hd} (hl : RisH l) (n : Int) (k : ByteArray) : (delP l n k).length + (if (findH l n k).isSome then 1 else 0) = l.length := by
  rw [← sm_len hl]
  unfold delP
  induction l with
  | nil => rfl
  | cons x l ih =>
    have := ih (List.pairwise_cons.1 hl).2
    simp only [List.filter_cons]
    cases isAt n k x <;> simp <;> omega
theorem find_putP {l : List Hd} (hl : RisH l) (h : Hd) (n : Int) (k : ByteArray) : findH (putP l h) n k = if h.nd = n ∧ h.key = k then some h else findH l n k := by
  by_cases e : h.nd = n ∧ h.key = k
  · rw [if_pos e]
    exact (findH_iff (putP_ris hl h) n k h).2 ⟨(mem_putP l h h).2 (.inl rfl), e⟩
  · rw [if_neg e]
    cases hf : findH l n k with
    | none =>
      rw [findH_none] at hf ⊢
      intro x hx hx'
      rcases (mem_putP l h x).1 hx with rfl | ⟨h1, -⟩
      · exact e hx'
      · exact hf x h1 hx'
    | some y =>
      rw [findH_iff hl] at hf
      rw [findH_iff (putP_ris hl h)]
      exact ⟨(mem_putP l h y).2 (.inr ⟨hf.1, fun k2 => e ⟨k2.1.symm.trans hf.2.1, k2.2.symm.trans hf.2.2⟩⟩), hf.2⟩
theorem find_delP {l : List Hd} (hl : RisH l) (n : Int) (k : ByteArray) (n' : Int) (k' : ByteArray) : findH (delP l n k) n' k' = if n' = n ∧ k' = k then none else findH l n' k' := by
  by_cases e : n' = n ∧ k' = k
  · rw [if_pos e, findH_none]
    obtain ⟨rfl, rfl⟩ := e
    intro x hx
    exact ((mem_delP l n' k' x).1 hx).2
  · rw [if_neg e]
    cases hf : findH l n' k' with
    | none =>
      rw [findH_none] at hf ⊢
      intro x hx
      exact hf x ((mem_delP l n k x).1 hx).1
    | some y =>
      rw [findH_iff hl] at hf
      rw [findH_iff (delP_ris hl n k)]
      exact ⟨(mem_delP l n k y).2 ⟨hf.1, fun k2 => e ⟨hf.2.1.symm.trans k2.1, hf.2.2.symm.trans k2.2⟩⟩, hf.2⟩

/-- The document's way: a walk through the row. -/
def plc (h : Hd) : Bool → List Hd → List Hd
  | done, [] => if done then [] else [h]
  | done, x :: l => if Sm x h then plc h done l else if done = false ∧ Ah h x then h :: x :: plc h true l else x :: plc h done l
theorem plc_true (h : Hd) : ∀ l : List Hd, plc h true l = delP l h.nd h.key
  | [] => rfl
  | x :: l => by
    unfold plc
    rw [plc_true h l]
    unfold delP
    rw [List.filter_cons, isAt_sm h rfl rfl]
    by_cases hs : Sm x h
    · simp [hs]
    · simp [hs]
theorem putP_low {h : Hd} {l : List Hd} (hl : ∀ y ∈ l, Ah h y) : putP l h = h :: l := by
  unfold putP
  rw [List.filter_eq_nil_iff.2 (fun y hy e => (hl y hy).asym (of_decide_eq_true e)), List.filter_eq_self.2 (fun y hy => decide_eq_true (hl y hy))]
  rfl
theorem delP_low {h : Hd} {l : List Hd} (hl : ∀ y ∈ l, Ah h y) : delP l h.nd h.key = l := by
  unfold delP
  refine List.filter_eq_self.2 (fun y hy => ?_)
  rw [isAt_sm h rfl rfl, decide_eq_false (fun e => (hl y hy).notSm e.symm)]
  rfl
theorem plc_low {h : Hd} {l : List Hd} (hl : ∀ y ∈ l, Ah h y) : plc h false l = h :: l := by
  cases l with
  | nil => rfl
  | cons x l =>
    have h1 := hl x (by simp)
    have h2 : ¬ Sm x h := fun e => h1.notSm e.symm
    unfold plc
    rw [if_neg h2, if_pos ⟨rfl, h1⟩, plc_true, delP_low (fun y hy => hl y (List.mem_cons_of_mem _ hy))]
theorem plc_false {h : Hd} : ∀ {l : List Hd}, RisH l → plc h false l = putP l h
  | [], _ => rfl
  | x :: l, hl => by
    obtain ⟨l1, l2⟩ := List.pairwise_cons.1 hl
    rcases Ah.tri x h with k | k | k
    · have k1 : ¬ Sm x h := k.notSm
      have k2 : ¬ Ah h x := k.asym
      unfold plc
      rw [if_neg k1, if_neg (fun e => k2 e.2), plc_false l2]
      unfold putP
      simp [k, k2]
    · have hl' : ∀ y ∈ l, Ah h y := fun y hy => (l1 y hy).left k
      have k1 : ¬ Ah x h := fun e => e.notSm k
      have k2 : ¬ Ah h x := fun e => e.notSm k.symm
      unfold plc
      rw [if_pos k, plc_low hl', ← putP_low hl']
      unfold putP
      simp [k1, k2]
    · have hl' : ∀ y ∈ x :: l, Ah h y := fun y hy => by
        rcases List.mem_cons.1 hy with rfl | hy
        · exact k
        · exact k.trans (l1 y hy)
      rw [plc_low hl', putP_low hl']

/-- Many put, one behind the other. -/
def putAll (l m : List Hd) : List Hd := m.foldl putP l
theorem putAll_ris {l : List Hd} (hl : RisH l) : ∀ m : List Hd, RisH (putAll l m) := by
  intro m
  induction m generalizing l with
  | nil => exact hl
  | cons x m ih => exact ih (putP_ris hl x)
theorem putAll_snoc (l m : List Hd) (x : Hd) : putAll l (m ++ [x]) = putP (putAll l m) x := by
  unfold putAll; rw [List.foldl_append]; rfl
theorem putAll_append (l m m' : List Hd) : putAll l (m ++ m') = putAll (putAll l m) m' := by
  unfold putAll; rw [List.foldl_append]
theorem putAll_take (l m : List Hd) (k : Nat) (h : k < m.length) : putAll l (m.take (k + 1)) = putP (putAll l (m.take k)) m[k] := by
  rw [List.take_succ_eq_append_getElem h, putAll_snoc]
theorem mem_putAll {l m : List Hd} (hm : m.Pairwise (fun a b => ¬ Sm a b)) (x : Hd) : x ∈ putAll l m ↔ x ∈ m ∨ (x ∈ l ∧ ∀ y ∈ m, ¬ Sm x y) := by
  induction m generalizing l with
  | nil => simp [putAll]
  | cons z m ih =>
    obtain ⟨m1, m2⟩ := List.pairwise_cons.1 hm
    show x ∈ putAll (putP l z) m ↔ _
    rw [ih m2, mem_putP]
    constructor
    · rintro (h | ⟨rfl | ⟨h1, h2⟩, h3⟩)
      · exact .inl (List.mem_cons_of_mem _ h)
      · exact .inl (by simp)
      · exact .inr ⟨h1, fun y hy => by rcases List.mem_cons.1 hy with rfl | hy; exact h2; exact h3 y hy⟩
    · rintro (h | ⟨h1, h2⟩)
      · rcases List.mem_cons.1 h with rfl | h
        · exact .inr ⟨.inl rfl, fun y hy => m1 y hy⟩
        · exact .inl h
      · exact .inr ⟨.inr ⟨h1, h2 z (by simp)⟩, fun y hy => h2 y (List.mem_cons_of_mem _ hy)⟩
theorem ris_notSm {l : List Hd} (hl : RisH l) : l.Pairwise (fun a b => ¬ Sm a b) := hl.imp (fun h => h.notSm)
theorem putAll_nil {m : List Hd} (hm : RisH m) : putAll [] m = m :=
  ris_ext (putAll_ris List.Pairwise.nil m) hm (fun x => by rw [mem_putAll (ris_notSm hm)]; simp)
theorem putAll_len {l : List Hd} (hl : RisH l) : ∀ m : List Hd, (putAll l m).length ≤ l.length + m.length := by
  intro m
  induction m generalizing l with
  | nil => simp [putAll]
  | cons x m ih =>
    have h1 := ih (putP_ris hl x)
    have h2 := putP_len hl x
    show (putAll (putP l x) m).length ≤ _
    rw [List.length_cons]
    split at h2 <;> omega
theorem putP_mem_of {P : Hd → Prop} {l : List Hd} {h : Hd} (hl : ∀ x ∈ l, P x) (hh : P h) : ∀ x ∈ putP l h, P x := fun x hx => by
  rcases (mem_putP l h x).1 hx with rfl | ⟨h1, -⟩
  · exact hh
  · exact hl x h1
theorem putAll_mem_of {P : Hd → Prop} {l : List Hd} (hl : ∀ x ∈ l, P x) : ∀ {m : List Hd}, (∀ x ∈ m, P x) → ∀ x ∈ putAll l m, P x := by
  intro m hm
  induction m generalizing l with
  | nil => exact hl
  | cons y m ih => exact ih (putP_mem_of hl (hm y (by simp))) (fun x hx => hm x (List.mem_cons_of_mem _ hx))
theorem find_head {x : Hd} {l : List Hd} (hl : RisH (x :: l)) : findH (x :: l) x.nd x.key = some x ∧ delP (x :: l) x.nd x.key = l := by
  obtain ⟨l1, l2⟩ := List.pairwise_cons.1 hl
  refine ⟨(findH_iff hl _ _ _).2 ⟨by simp, rfl, rfl⟩, ?_⟩
  have h0 := delP_low l1
  unfold delP at h0 ⊢
  rw [List.filter_cons, isAt_sm x rfl rfl, decide_eq_true (Sm.refl x), h0]
  rfl
end Go.Proofs.Ytiofpimchbhfcab
