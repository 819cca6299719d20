/- Records, panes of time: in a row that rises by key and beginning. Plain mathematics. -/
import Derived.Below
namespace Go.Proofs.YtfpfaekbakilpaaDoor
set_option linter.unusedVariables false

structure Rg where
  key : ByteArray
  num : Int
  tm : Int
structure Pn where
  key : ByteArray
  fr : Int
  to : Int
  mn : Int
  sm : Int
  lt : Int
def kb (k : ByteArray) : List UInt8 := k.data.toList
theorem kb_inj {a b : ByteArray} (h : kb a = kb b) : a = b := by
  obtain ⟨⟨l⟩⟩ := a
  obtain ⟨⟨m⟩⟩ := b
  simp only [kb] at h
  subst h
  rfl
theorem lt_tri (a b : List UInt8) : a < b ∨ a = b ∨ b < a := by
  by_cases h1 : a < b
  · exact .inl h1
  · by_cases h2 : b < a
    · exact .inr (.inr h2)
    · exact .inr (.inl (List.le_antisymm (List.not_lt.1 h2) (List.not_lt.1 h1)))
/-- Which place stands ahead, by key and number. -/
def AhK (k : ByteArray) (n : Int) (k' : ByteArray) (n' : Int) : Prop := kb k < kb k' ∨ (k = k' ∧ n < n')
instance (k : ByteArray) (n : Int) (k' : ByteArray) (n' : Int) : Decidable (AhK k n k' n') := by unfold AhK; exact inferInstance
theorem AhK.irr (k : ByteArray) (n : Int) : ¬ AhK k n k n := by
  rintro (h | ⟨-, h⟩)
  · exact List.lt_irrefl _ h
  · omega
theorem AhK.trans {a b c : ByteArray} {x y z : Int} (h : AhK a x b y) (k : AhK b y c z) : AhK a x c z := by
  rcases h with h | ⟨rfl, h2⟩ <;> rcases k with k | ⟨rfl, k2⟩
  · exact .inl (List.lt_trans h k)
  · exact .inl h
  · exact .inl k
  · exact .inr ⟨rfl, by omega⟩
theorem AhK.tri (a : ByteArray) (x : Int) (b : ByteArray) (y : Int) : AhK a x b y ∨ (a = b ∧ x = y) ∨ AhK b y a x := by
  rcases lt_tri (kb a) (kb b) with h | h | h
  · exact .inl (.inl h)
  · have e := kb_inj h
    subst e
    rcases Int.lt_trichotomy x y with h1 | h1 | h1
    · exact .inl (.inr ⟨rfl, h1⟩)
    · exact .inr (.inl ⟨rfl, h1⟩)
    · exact .inr (.inr (.inr ⟨rfl, h1⟩))
  · exact .inr (.inr (.inl h))
def Ah (a b : Pn) : Prop := AhK a.key a.fr b.key b.fr
def Sm (a b : Pn) : Prop := a.fr = b.fr ∧ a.key = b.key
instance (a b : Pn) : Decidable (Ah a b) := by unfold Ah; exact inferInstance
instance (a b : Pn) : Decidable (Sm a b) := by unfold Sm; exact inferInstance
theorem Ah.irr (a : Pn) : ¬ Ah a a := AhK.irr _ _
theorem Ah.trans {a b c : Pn} (h : Ah a b) (k : Ah b c) : Ah a c := AhK.trans h k
theorem Ah.tri (a b : Pn) : Ah a b ∨ Sm a b ∨ Ah b a := by
  rcases AhK.tri a.key a.fr b.key b.fr with h | h | h
  · exact .inl h
  · exact .inr (.inl ⟨h.2, h.1⟩)
  · exact .inr (.inr h)
theorem Sm.symm {a b : Pn} (h : Sm a b) : Sm b a := ⟨h.1.symm, h.2.symm⟩
theorem Sm.trans {a b c : Pn} (h : Sm a b) (k : Sm b c) : Sm a c := ⟨h.1.trans k.1, h.2.trans k.2⟩
theorem Sm.refl (a : Pn) : Sm a a := ⟨rfl, rfl⟩
theorem Ah.left {a a' b : Pn} (h : Ah a b) (k : Sm a a') : Ah a' b := by
  unfold Ah at *; rw [← k.1, ← k.2]; exact h
theorem Ah.right {a b b' : Pn} (h : Ah a b) (k : Sm b b') : Ah a b' := by
  unfold Ah at *; rw [← k.1, ← k.2]; exact h
theorem Ah.notSm {a b : Pn} (h : Ah a b) : ¬ Sm a b := fun k => Ah.irr b (h.left k)
theorem Ah.asym {a b : Pn} (h : Ah a b) : ¬ Ah b a := fun k => Ah.irr _ (h.trans k)

def RisH (l : List Pn) : Prop := l.Pairwise Ah
def isAt (n : Int) (k : ByteArray) (x : Pn) : Bool := decide (x.fr = n ∧ x.key = k)
theorem isAt_sm {n : Int} {k : ByteArray} {x : Pn} (y : Pn) (hn : y.fr = n) (hk : y.key = k) : isAt n k x = decide (Sm x y) := by
  unfold isAt; subst hn hk; rfl
def delP (l : List Pn) (n : Int) (k : ByteArray) : List Pn := l.filter (fun x => !isAt n k x)
def putP (l : List Pn) (h : Pn) : List Pn := l.filter (fun x => decide (Ah x h)) ++ h :: l.filter (fun x => decide (Ah h x))
def findH (l : List Pn) (n : Int) (k : ByteArray) : Option Pn := l.find? (isAt n k)

theorem mem_putP (l : List Pn) (h x : Pn) : x ∈ putP l h ↔ x = h ∨ (x ∈ l ∧ ¬ Sm x h) := by
  unfold putP
  simp only [List.mem_append, List.mem_filter, List.mem_cons, decide_eq_true_eq]
  constructor
  · rintro (⟨h1, h2⟩ | h1 | ⟨h1, h2⟩)
    · exact .inr ⟨h1, h2.notSm⟩
    · exact .inl h1
    · exact .inr ⟨h1, fun k => h2.notSm k.symm⟩
  · rintro (h1 | ⟨h1, h2⟩)
    · exact .inr (.inl h1)
    · rcases Ah.tri x h with k | k | k
      · exact .inl ⟨h1, k⟩
      · exact absurd k h2
      · exact .inr (.inr ⟨h1, k⟩)
theorem putP_ris {l : List Pn} (hl : RisH l) (h : Pn) : RisH (putP l h) := by
  unfold putP
  refine List.pairwise_append.2 ⟨hl.filter _, List.pairwise_cons.2 ⟨fun y hy => ?_, hl.filter _⟩, fun x hx y hy => ?_⟩
  · exact of_decide_eq_true (List.mem_filter.1 hy).2
  · have h1 : Ah x h := of_decide_eq_true (List.mem_filter.1 hx).2
    rcases List.mem_cons.1 hy with rfl | hy
    · exact h1
    · exact h1.trans (of_decide_eq_true (List.mem_filter.1 hy).2)
theorem delP_ris {l : List Pn} (hl : RisH l) (n : Int) (k : ByteArray) : RisH (delP l n k) := hl.filter _
theorem mem_delP (l : List Pn) (n : Int) (k : ByteArray) (x : Pn) : x ∈ delP l n k ↔ x ∈ l ∧ ¬ (x.fr = n ∧ x.key = k) := by
  unfold delP isAt
  rw [List.mem_filter]
  by_cases h : x.fr = n ∧ x.key = k <;> simp [h]
theorem ris_ext : ∀ {l m : List Pn}, RisH l → RisH m → (∀ x, x ∈ l ↔ x ∈ m) → l = m
  | [], [], _, _, _ => rfl
  | [], y :: m, _, _, h => by have := (h y).2 (by simp); simp at this
  | x :: l, [], _, _, h => by have := (h x).1 (by simp); simp at this
  | x :: l, y :: m, hl, hm, h => by
    obtain ⟨l1, l2⟩ := List.pairwise_cons.1 hl
    obtain ⟨m1, m2⟩ := List.pairwise_cons.1 hm
    have e : x = y := by
      have hx := (h x).1 (by simp)
      have hy := (h y).2 (by simp)
      rcases List.mem_cons.1 hx with e | hx
      · exact e
      · rcases List.mem_cons.1 hy with e | hy
        · exact e.symm
        · exact absurd (m1 x hx) (l1 y hy).asym
    subst e
    rw [ris_ext l2 m2 (fun z => ?_)]
    constructor
    · intro hz
      rcases List.mem_cons.1 ((h z).1 (List.mem_cons_of_mem _ hz)) with e | hz'
      · subst e; exact absurd (l1 z hz) (Ah.irr z)
      · exact hz'
    · intro hz
      rcases List.mem_cons.1 ((h z).2 (List.mem_cons_of_mem _ hz)) with e | hz'
      · subst e; exact absurd (m1 z hz) (Ah.irr z)
      · exact hz'
theorem ris_uniq {l : List Pn} (hl : RisH l) {x y : Pn} (hx : x ∈ l) (hy : y ∈ l) (h : Sm x y) : x = y := by
  induction l with
  | nil => cases hx
  | cons z l ih =>
    obtain ⟨l1, l2⟩ := List.pairwise_cons.1 hl
    rcases List.mem_cons.1 hx with ex | hx1
    · rcases List.mem_cons.1 hy with ey | hy1
      · rw [ex, ey]
      · subst ex; exact absurd h (l1 y hy1).notSm
    · rcases List.mem_cons.1 hy with ey | hy1
      · subst ey; exact absurd h.symm (l1 x hx1).notSm
      · exact ih l2 hx1 hy1
theorem findH_iff {l : List Pn} (hl : RisH l) (n : Int) (k : ByteArray) (h : Pn) : findH l n k = some h ↔ h ∈ l ∧ h.fr = n ∧ h.key = k := by
  unfold findH
  constructor
  · intro e
    have h1 := List.find?_some e
    exact ⟨List.mem_of_find?_eq_some e, of_decide_eq_true h1⟩
  · rintro ⟨h1, h2, h3⟩
    cases hf : l.find? (isAt n k) with
    | none => have := List.find?_eq_none.1 hf h h1; unfold isAt at this; simp [h2, h3] at this
    | some y =>
      have h4 : y.fr = n ∧ y.key = k := of_decide_eq_true (List.find?_some (p := isAt n k) hf)
      rw [ris_uniq hl (List.mem_of_find?_eq_some hf) h1 ⟨h4.1.trans h2.symm, h4.2.trans h3.symm⟩]
theorem findH_none {l : List Pn} {n : Int} {k : ByteArray} : findH l n k = none ↔ ∀ h ∈ l, ¬ (h.fr = n ∧ h.key = k) := by
  unfold findH
  rw [List.find?_eq_none]
  constructor
  · intro h x hx e; exact h x hx (decide_eq_true e)
  · intro h x hx e; exact h x hx (of_decide_eq_true e)
theorem findH_nil (n : Int) (k : ByteArray) : findH [] n k = none := rfl

theorem three (l : List Pn) (h : Pn) : (l.filter (fun x => decide (Ah x h))).length + (l.filter (fun x => decide (Ah h x))).length + (l.filter (fun x => decide (Sm x h))).length = l.length := by
  induction l with
  | nil => rfl
  | cons x l ih =>
    rcases Ah.tri x h with k | k | k
    · have k1 : ¬ Ah h x := k.asym
      have k2 : ¬ Sm x h := k.notSm
      simp only [List.filter_cons, decide_eq_true k, decide_eq_false k1, decide_eq_false k2, if_true, Bool.false_eq_true, if_false, List.length_cons]
      omega
    · have k1 : ¬ Ah h x := fun e => e.notSm k.symm
      have k2 : ¬ Ah x h := fun e => e.notSm k
      simp only [List.filter_cons, decide_eq_true k, decide_eq_false k1, decide_eq_false k2, if_true, Bool.false_eq_true, if_false, List.length_cons]
      omega
    · have k1 : ¬ Ah x h := k.asym
      have k2 : ¬ Sm x h := fun e => k.notSm e.symm
      simp only [List.filter_cons, decide_eq_true k, decide_eq_false k1, decide_eq_false k2, if_true, Bool.false_eq_true, if_false, List.length_cons]
      omega
theorem sm_len {l : List Pn} (hl : RisH l) (n : Int) (k : ByteArray) : (l.filter (isAt n k)).length = if (findH l n k).isSome then 1 else 0 := by
  induction l with
  | nil => rfl
  | cons x l ih =>
    obtain ⟨l1, l2⟩ := List.pairwise_cons.1 hl
    unfold findH at ih ⊢
    rw [List.filter_cons, List.find?_cons]
    cases hx : isAt n k x with
    | true =>
      have e : l.filter (isAt n k) = [] := List.filter_eq_nil_iff.2 (fun y hy hy' => by
        have h1 := of_decide_eq_true hx
        have h2 := of_decide_eq_true hy'
        exact (l1 y hy).notSm ⟨h1.1.trans h2.1.symm, h1.2.trans h2.2.symm⟩)
      simp [e]
    | false =>
      simp only [Bool.false_eq_true, if_false]
      exact ih l2
theorem putP_len {l : List Pn} (hl : RisH l) (h : Pn) : (putP l h).length = if (findH l h.fr h.key).isSome then l.length else l.length + 1 := by
  have h1 := three l h
  have h2 := sm_len hl h.fr h.key
  have h3 : (fun x => decide (Sm x h)) = isAt h.fr h.key := by funext x; exact (isAt_sm h rfl rfl).symm
  rw [h3] at h1
  unfold putP
  rw [List.length_append, List.length_cons]
  split
  · rename_i hs; rw [if_pos hs] at h2; omega
  · rename_i hs; rw [if_neg hs] at h2; omega
theorem delP_len {l : List Pn} (hl : RisH l) (n : Int) (k : ByteArray) : (delP l n k).length + (if (findH l n k).isSome then 1 else 0) = l.length := by
  rw [← sm_len hl]
  unfold delP
  induction l with
  | nil => rfl
  | cons x l ih =>
    have := ih (List.pairwise_cons.1 hl).2
    simp only [List.filter_cons]
    cases isAt n k x <;> simp <;> omega
theorem find_putP {l : List Pn} (hl : RisH l) (h : Pn) (n : Int) (k : ByteArray) : findH (putP l h) n k = if h.fr = n ∧ h.key = k then some h else findH l n k := by
  by_cases e : h.fr = n ∧ h.key = k
  · rw [if_pos e]
    exact (findH_iff (putP_ris hl h) n k h).2 ⟨(mem_putP l h h).2 (.inl rfl), e⟩
  · rw [if_neg e]
    cases hf : findH l n k with
    | none =>
      rw [findH_none] at hf ⊢
      intro x hx hx'
      rcases (mem_putP l h x).1 hx with rfl | ⟨h1, -⟩
      · exact e hx'
      · exact hf x h1 hx'
    | some y =>
      rw [findH_iff hl] at hf
      rw [findH_iff (putP_ris hl h)]
      exact ⟨(mem_putP l h y).2 (.inr ⟨hf.1, fun k2 => e ⟨k2.1.symm.trans hf.2.1, k2.2.symm.trans hf.2.2⟩⟩), hf.2⟩
theorem find_delP {l : List Pn} (hl : RisH l) (n : Int) (k : ByteArray) (n' : Int) (k' : ByteArray) : findH (delP l n k) n' k' = if n' = n ∧ k' = k then none else findH l n' k' := by
  by_cases e : n' = n ∧ k' = k
  · rw [if_pos e, findH_none]
    obtain ⟨rfl, rfl⟩ := e
    intro x hx
    exact ((mem_delP l n' k' x).1 hx).2
  · rw [if_neg e]
    cases hf : findH l n' k' with
    | none =>
      rw [findH_none] at hf ⊢
      intro x hx
      exact hf x ((mem_delP l n k x).1 hx).1
    | some y =>
      rw [findH_iff hl] at hf
      rw [findH_iff (delP_ris hl n k)]
      exact ⟨(mem_delP l n k y).2 ⟨hf.1, fun k2 => e ⟨hf.2.1.symm.trans k2.1, hf.2.2.symm.trans k2.2⟩⟩, hf.2⟩

theorem putP_mem_of {P : Pn → Prop} {l : List Pn} {h : Pn} (hl : ∀ x ∈ l, P x) (hh : P h) : ∀ x ∈ putP l h, P x := fun x hx => by
  rcases (mem_putP l h x).1 hx with rfl | ⟨h1, -⟩
  · exact hh
  · exact hl x h1

/-- A sum modulo 2^64, as a number of 64 bits. -/
def w64 (x : Int) : Int := (x + 9223372036854775808) % 18446744073709551616 - 9223372036854775808
theorem w64_id {x : Int} (h : -9223372036854775808 ≤ x) (h' : x < 9223372036854775808) : w64 x = x := by unfold w64; omega
theorem w64_bd (x : Int) : -9223372036854775808 ≤ w64 x ∧ w64 x < 9223372036854775808 := by unfold w64; omega
theorem w64_add (a b : Int) : w64 (w64 a + b) = w64 (a + b) := by unfold w64; omega
theorem w64_add' (a b : Int) : w64 (a + w64 b) = w64 (a + b) := by unfold w64; omega
def pn0 : Pn := ⟨⟨#[]⟩, 0, 0, 0, 0, 0⟩
/-- A pane, one record more; late or not. -/
def bump (size mark : Int) (r : Rg) (fr : Int) (q : Pn) : Pn :=
  if mark ≥ fr + size then ⟨r.key, fr, fr + size, q.mn, q.sm, w64 (q.lt + 1)⟩ else ⟨r.key, fr, fr + size, w64 (q.mn + 1), w64 (q.sm + r.num), q.lt⟩
theorem bump_at (size mark : Int) (r : Rg) (fr : Int) (q : Pn) : (bump size mark r fr q).key = r.key ∧ (bump size mark r fr q).fr = fr ∧ (bump size mark r fr q).to = fr + size := by
  unfold bump; split <;> exact ⟨rfl, rfl, rfl⟩
def upd (size mark : Int) (r : Rg) (L : List Pn) (fr : Int) : List Pn := putP L (bump size mark r fr ((findH L fr r.key).getD pn0))
/-- Where the panes of a time begin, from the last on. -/
def frm (t by_ : Int) (j : Nat) : Int := t / by_ * by_ - j * by_
/-- How many panes a time lies in. -/
def nP (t size by_ : Int) : Nat := (min (t / by_ + 1) ((size - t % by_ - 1) / by_ + 1)).toNat
theorem frm_lt (t size by_ : Int) (h1 : 1 ≤ by_) (h0 : 0 ≤ t) (hs : 1 ≤ size) (j : Nat) : (0 ≤ frm t by_ j ∧ t < frm t by_ j + size) ↔ j < nP t size by_ := by
  have e := Int.mul_ediv_add_emod t by_
  have m0 := Int.emod_nonneg t (show by_ ≠ 0 by omega)
  have m1 := Int.emod_lt_of_pos t (show 0 < by_ by omega)
  have d0 : 0 ≤ t / by_ := Int.ediv_nonneg h0 (by omega)
  have q1 : (j : Int) ≤ (size - t % by_ - 1) / by_ ↔ (j : Int) * by_ ≤ size - t % by_ - 1 := Int.le_ediv_iff_mul_le (by omega)
  have q2 : (0 ≤ t / by_ * by_ - j * by_) ↔ (j : Int) ≤ t / by_ := by
    rw [← Int.sub_mul]
    constructor
    · intro h
      apply Int.not_lt.1
      intro h2
      have : (t / by_ - j) * by_ ≤ -1 * by_ := Int.mul_le_mul_of_nonneg_right (by omega) (by omega)
      omega
    · intro h
      exact Int.mul_nonneg (by omega) (by omega)
  unfold frm nP
  rw [Int.mul_comm] at e
  generalize (j : Int) * by_ = jb at *
  generalize t / by_ * by_ = tb at *
  rw [q2]
  generalize (size - t % by_ - 1) / by_ = s at *
  omega
def takeTo (size by_ mark : Int) (r : Rg) (L : List Pn) (j : Nat) : List Pn := (List.range j).foldl (fun L i => upd size mark r L (frm r.tm by_ i)) L
theorem takeTo_succ (size by_ mark : Int) (r : Rg) (L : List Pn) (j : Nat) : takeTo size by_ mark r L (j + 1) = upd size mark r (takeTo size by_ mark r L j) (frm r.tm by_ j) := by
  unfold takeTo; rw [List.range_succ, List.foldl_append]; rfl
def takeP (size by_ mark : Int) (r : Rg) (L : List Pn) : List Pn := takeTo size by_ mark r L (nP r.tm size by_)
/-- Panes and mark behind some records. -/
def slS (size by_ slack : Int) (l : List Rg) : List Pn × Int := l.foldl (fun s r => (takeP size by_ s.2 r s.1, max s.2 (r.tm - slack))) ([], 0)
def slideP (size by_ slack : Int) (l : List Rg) : List Pn := (slS size by_ slack l).1
theorem slS_snoc (size by_ slack : Int) (l : List Rg) (r : Rg) : slS size by_ slack (l ++ [r]) = (takeP size by_ (slS size by_ slack l).2 r (slS size by_ slack l).1, max (slS size by_ slack l).2 (r.tm - slack)) := by
  unfold slS; rw [List.foldl_append]; rfl
theorem slS_take (size by_ slack : Int) (l : List Rg) (k : Nat) (h : k < l.length) : slS size by_ slack (l.take (k + 1)) = (takeP size by_ (slS size by_ slack (l.take k)).2 l[k] (slS size by_ slack (l.take k)).1, max (slS size by_ slack (l.take k)).2 (l[k].tm - slack)) := by
  rw [List.take_succ_eq_append_getElem h, slS_snoc]
def badR (r : Rg) : Bool := !(decide (r.key.size ≤ 40) && decide (0 ≤ r.tm) && decide (r.tm ≤ 1000000))
/-- What is wrong with records. -/
def recsE (l : List Rg) : Nat := if 400 < l.length then 4 else if l.any badR then 1 else 0
def spanB (n : Int) : Bool := decide (1 ≤ n) && decide (n ≤ 1000000)
def slackB (n : Int) : Bool := decide (0 ≤ n) && decide (n ≤ 1000000)
def slideE (l : List Rg) (size by_ slack : Int) : Nat := if recsE l ≠ 0 then recsE l else if spanB size && spanB by_ && slackB slack && decide (size ≤ 16 * by_) then 0 else 1
theorem upd_ris {size mark : Int} {r : Rg} {L : List Pn} (h : RisH L) (fr : Int) : RisH (upd size mark r L fr) := putP_ris h _
theorem upd_len {size mark : Int} {r : Rg} {L : List Pn} (h : RisH L) (fr : Int) : (upd size mark r L fr).length ≤ L.length + 1 := by
  unfold upd; rw [putP_len h]; split <;> omega
theorem takeTo_ris {size by_ mark : Int} {r : Rg} {L : List Pn} (h : RisH L) (j : Nat) : RisH (takeTo size by_ mark r L j) := by
  induction j with
  | zero => exact h
  | succ j ih => rw [takeTo_succ]; exact upd_ris ih _
theorem takeTo_len {size by_ mark : Int} {r : Rg} {L : List Pn} (h : RisH L) (j : Nat) : (takeTo size by_ mark r L j).length ≤ L.length + j := by
  induction j with
  | zero => exact Nat.le_refl _
  | succ j ih => rw [takeTo_succ]; have := upd_len (size := size) (mark := mark) (r := r) (takeTo_ris (size := size) (by_ := by_) (mark := mark) (r := r) h j) (frm r.tm by_ j); omega
theorem nP_le {t size by_ : Int} (h1 : 1 ≤ by_) (hs : size ≤ 16 * by_) : nP t size by_ ≤ 16 := by
  have m0 := Int.emod_nonneg t (show by_ ≠ 0 by omega)
  have : (size - t % by_ - 1) / by_ ≤ 15 := by
    have : (size - t % by_ - 1) / by_ < 16 := Int.ediv_lt_of_lt_mul (by omega) (by omega)
    omega
  unfold nP; omega
theorem slS_ris (size by_ slack : Int) (l : List Rg) : RisH (slS size by_ slack l).1 := by
  have : ∀ (l : List Rg) (s : List Pn × Int), RisH s.1 → RisH (l.foldl (fun s r => (takeP size by_ s.2 r s.1, max s.2 (r.tm - slack))) s).1 := by
    intro l
    induction l with
    | nil => intro s h; exact h
    | cons r l ih => intro s h; exact ih _ (takeTo_ris h _)
  exact this l _ List.Pairwise.nil
theorem slS_len {size by_ slack : Int} (h1 : 1 ≤ by_) (hs : size ≤ 16 * by_) (l : List Rg) : (slS size by_ slack l).1.length ≤ l.length * 16 := by
  have : ∀ (l : List Rg) (s : List Pn × Int), RisH s.1 → (l.foldl (fun s r => (takeP size by_ s.2 r s.1, max s.2 (r.tm - slack))) s).1.length ≤ s.1.length + l.length * 16 := by
    intro l
    induction l with
    | nil => intro s h; simp
    | cons r l ih =>
      intro s h
      have h2 := ih (takeP size by_ s.2 r s.1, max s.2 (r.tm - slack)) (takeTo_ris h _)
      have h3 := takeTo_len (size := size) (by_ := by_) (mark := s.2) (r := r) h (nP r.tm size by_)
      have h4 := nP_le (t := r.tm) h1 hs
      simp only [List.foldl_cons, List.length_cons]
      unfold takeP at h2 ⊢
      simp only at h2
      omega
  have := this l ([], 0) List.Pairwise.nil
  simpa [slS] using this
theorem slS_mark {size by_ slack : Int} (l : List Rg) (hl : ∀ r ∈ l, r.tm ≤ 1000000) (h0 : 0 ≤ slack) : 0 ≤ (slS size by_ slack l).2 ∧ (slS size by_ slack l).2 ≤ 1000000 := by
  have : ∀ (l : List Rg) (s : List Pn × Int), (∀ r ∈ l, r.tm ≤ 1000000) → 0 ≤ s.2 → s.2 ≤ 1000000 → 0 ≤ (l.foldl (fun s r => (takeP size by_ s.2 r s.1, max s.2 (r.tm - slack))) s).2 ∧ (l.foldl (fun s r => (takeP size by_ s.2 r s.1, max s.2 (r.tm - slack))) s).2 ≤ 1000000 := by
    intro l
    induction l with
    | nil => intro s _ h h'; exact ⟨h, h'⟩
    | cons r l ih =>
      intro s hr h h'
      have := hr r (by simp)
      exact ih _ (fun x hx => hr x (by simp [hx])) (by simp only; omega) (by simp only; omega)
  exact this l _ hl (by simp) (by simp)
end Go.Proofs.YtfpfaekbakilpaaDoor
