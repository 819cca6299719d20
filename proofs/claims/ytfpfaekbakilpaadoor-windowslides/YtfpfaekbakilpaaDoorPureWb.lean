/- Panes: what they count in all; panes side by side. Plain mathematics. -/
import Derived.Test.YtfpfaekbakilpaaDoorPureWa
namespace Go.Proofs.YtfpfaekbakilpaaDoor
set_option linter.unusedVariables false

def sumF (f : Pn → Int) (L : List Pn) : Int := (L.map f).sum
theorem sumF_nil (f : Pn → Int) : sumF f [] = 0 := rfl
theorem sumF_cons (f : Pn → Int) (x : Pn) (L : List Pn) : sumF f (x :: L) = f x + sumF f L := by simp [sumF]
theorem sumF_append (f : Pn → Int) (L M : List Pn) : sumF f (L ++ M) = sumF f L + sumF f M := by simp [sumF]
theorem sumF_take (f : Pn → Int) (L : List Pn) (k : Nat) (h : k < L.length) : sumF f (L.take (k + 1)) = sumF f (L.take k) + f L[k] := by
  rw [List.take_succ_eq_append_getElem h, sumF_append, sumF_cons, sumF_nil]; omega
theorem sumF_three (f : Pn → Int) (l : List Pn) (h : Pn) : sumF f (l.filter (fun x => decide (Ah x h))) + sumF f (l.filter (fun x => decide (Ah h x))) + sumF f (l.filter (isAt h.fr h.key)) = sumF f l := by
  have h3 : isAt h.fr h.key = (fun x => decide (Sm x h)) := by funext x; exact isAt_sm h rfl rfl
  rw [h3]
  induction l with
  | nil => rfl
  | cons x l ih =>
    rcases Ah.tri x h with k | k | k
    · have k1 : ¬ Ah h x := k.asym
      have k2 : ¬ Sm x h := k.notSm
      simp only [List.filter_cons, decide_eq_true k, decide_eq_false k1, decide_eq_false k2, if_true, Bool.false_eq_true, if_false, sumF_cons]
      omega
    · have k1 : ¬ Ah h x := fun e => e.notSm k.symm
      have k2 : ¬ Ah x h := fun e => e.notSm k
      simp only [List.filter_cons, decide_eq_true k, decide_eq_false k1, decide_eq_false k2, if_true, Bool.false_eq_true, if_false, sumF_cons]
      omega
    · have k1 : ¬ Ah x h := k.asym
      have k2 : ¬ Sm x h := fun e => k.notSm e.symm
      simp only [List.filter_cons, decide_eq_true k, decide_eq_false k1, decide_eq_false k2, if_true, Bool.false_eq_true, if_false, sumF_cons]
      omega
theorem sumF_at (f : Pn → Int) {l : List Pn} (hl : RisH l) (n : Int) (k : ByteArray) : sumF f (l.filter (isAt n k)) = ((findH l n k).map f).getD 0 := by
  induction l with
  | nil => rfl
  | cons x l ih =>
    obtain ⟨l1, l2⟩ := List.pairwise_cons.1 hl
    unfold findH at ih ⊢
    rw [List.filter_cons, List.find?_cons]
    cases hx : isAt n k x with
    | true =>
      have e : l.filter (isAt n k) = [] := List.filter_eq_nil_iff.2 (fun y hy hy' => by
        have h1 := of_decide_eq_true hx
        have h2 := of_decide_eq_true hy'
        exact (l1 y hy).notSm ⟨h1.1.trans h2.1.symm, h1.2.trans h2.2.symm⟩)
      simp [e, sumF]
    | false =>
      simp only [Bool.false_eq_true, if_false]
      exact ih l2
theorem sumF_put (f : Pn → Int) {l : List Pn} (hl : RisH l) (h : Pn) : sumF f (putP l h) + ((findH l h.fr h.key).map f).getD 0 = sumF f l + f h := by
  have h1 := sumF_three f l h
  rw [sumF_at f hl] at h1
  unfold putP
  rw [sumF_append, sumF_cons]
  omega
theorem sumF_upd (f : Pn → Int) {L : List Pn} (hl : RisH L) (size mark : Int) (r : Rg) (fr : Int) (f0 : f pn0 = 0) : sumF f (upd size mark r L fr) = sumF f L + f (bump size mark r fr ((findH L fr r.key).getD pn0)) - f ((findH L fr r.key).getD pn0) := by
  have h1 := sumF_put f hl (bump size mark r fr ((findH L fr r.key).getD pn0))
  obtain ⟨b1, b2, b3⟩ := bump_at size mark r fr ((findH L fr r.key).getD pn0)
  rw [b1, b2] at h1
  unfold upd
  cases hf : findH L fr r.key with
  | none =>
    rw [hf] at h1
    simp only [Option.map_none, Option.getD_none] at h1 ⊢
    rw [f0]; omega
  | some y =>
    rw [hf] at h1
    simp only [Option.map_some, Option.getD_some] at h1 ⊢
    omega

/-- Panes as they come of few records. -/
structure Iv (size : Int) (N : Int) (L : List Pn) : Prop where
  ris : RisH L
  mn : ∀ p ∈ L, 0 ≤ p.mn
  lt : ∀ p ∈ L, 0 ≤ p.lt
  one : ∀ p ∈ L, 1 ≤ p.mn + p.lt
  le : ∀ p ∈ L, p.mn + p.lt ≤ N
  to : ∀ p ∈ L, p.to = p.fr + size
  sm : ∀ p ∈ L, -9223372036854775808 ≤ p.sm ∧ p.sm < 9223372036854775808
theorem Iv.nil (size : Int) : Iv size 0 [] := ⟨List.Pairwise.nil, by simp, by simp, by simp, by simp, by simp, by simp⟩
theorem Iv.find {size N : Int} {L : List Pn} (h : Iv size N L) (h0 : 0 ≤ N) (fr : Int) (k : ByteArray) : 0 ≤ ((findH L fr k).getD pn0).mn ∧ 0 ≤ ((findH L fr k).getD pn0).lt ∧ ((findH L fr k).getD pn0).mn + ((findH L fr k).getD pn0).lt ≤ N ∧ -9223372036854775808 ≤ ((findH L fr k).getD pn0).sm ∧ ((findH L fr k).getD pn0).sm < 9223372036854775808 := by
  cases hf : findH L fr k with
  | none => simp [pn0, h0]
  | some y =>
    have := ((findH_iff h.ris fr k y).1 hf).1
    exact ⟨h.mn y this, h.lt y this, h.le y this, h.sm y this⟩
theorem bump_cnt {size mark : Int} {r : Rg} {fr : Int} {q : Pn} {N : Int} (h1 : 0 ≤ q.mn) (h2 : 0 ≤ q.lt) (h3 : q.mn + q.lt ≤ N) (hN : N < 4611686018427387904) : 0 ≤ (bump size mark r fr q).mn ∧ 0 ≤ (bump size mark r fr q).lt ∧ (bump size mark r fr q).mn + (bump size mark r fr q).lt = q.mn + q.lt + 1 := by
  unfold bump
  split
  · simp only
    rw [w64_id (by omega) (by omega)]
    omega
  · simp only
    rw [w64_id (x := q.mn + 1) (by omega) (by omega)]
    omega
theorem bump_sm {size mark : Int} {r : Rg} {fr : Int} {q : Pn} (h : -9223372036854775808 ≤ q.sm ∧ q.sm < 9223372036854775808) : -9223372036854775808 ≤ (bump size mark r fr q).sm ∧ (bump size mark r fr q).sm < 9223372036854775808 := by
  unfold bump
  split
  · exact h
  · exact w64_bd _
theorem Iv.upd {size N : Int} {L : List Pn} (h : Iv size N L) (h0 : 0 ≤ N) (hN : N < 4611686018427387904) (mark : Int) (r : Rg) (fr : Int) : Iv size (N + 1) (upd size mark r L fr) := by
  obtain ⟨a1, a2, a3, a4⟩ := h.find h0 fr r.key
  obtain ⟨b1, b2, b3⟩ := bump_cnt (size := size) (mark := mark) (r := r) (fr := fr) a1 a2 a3 hN
  obtain ⟨c1, c2, c3⟩ := bump_at size mark r fr ((findH L fr r.key).getD pn0)
  have b4 := bump_sm (size := size) (mark := mark) (r := r) (fr := fr) a4
  refine ⟨upd_ris h.ris _, ?_, ?_, ?_, ?_, ?_, ?_⟩
  · exact putP_mem_of h.mn b1
  · exact putP_mem_of h.lt b2
  · exact putP_mem_of h.one (by omega)
  · exact putP_mem_of (fun x hx => by have := h.le x hx; omega) (by omega)
  · exact putP_mem_of h.to (by rw [c3, c2])
  · exact putP_mem_of h.sm b4
theorem cnt_upd {size N : Int} {L : List Pn} (h : Iv size N L) (h0 : 0 ≤ N) (hN : N < 4611686018427387904) (mark : Int) (r : Rg) (fr : Int) : sumF (fun p => p.mn + p.lt) (_root_.Go.Proofs.YtfpfaekbakilpaaDoor.upd size mark r L fr) = sumF (fun p => p.mn + p.lt) L + 1 := by
  obtain ⟨a1, a2, a3, a4⟩ := h.find h0 fr r.key
  obtain ⟨b1, b2, b3⟩ := bump_cnt (size := size) (mark := mark) (r := r) (fr := fr) a1 a2 a3 hN
  rw [sumF_upd _ h.ris _ _ _ _ rfl]
  omega
theorem Iv.takeTo {size by_ mark N : Int} {L : List Pn} {r : Rg} (h : Iv size N L) (h0 : 0 ≤ N) : ∀ j : Nat, N + j < 4611686018427387904 → Iv size (N + j) (takeTo size by_ mark r L j) ∧ sumF (fun p => p.mn + p.lt) (_root_.Go.Proofs.YtfpfaekbakilpaaDoor.takeTo size by_ mark r L j) = sumF (fun p => p.mn + p.lt) L + j
  | 0, _ => ⟨by rw [show N + ((0 : Nat) : Int) = N from by omega]; exact h, by simp [_root_.Go.Proofs.YtfpfaekbakilpaaDoor.takeTo]⟩
  | j + 1, hj => by
    obtain ⟨i1, i2⟩ := Iv.takeTo (by_ := by_) (mark := mark) (r := r) h h0 j (by omega)
    rw [takeTo_succ]
    refine ⟨?_, ?_⟩
    · have := i1.upd (by omega) (by omega) mark r (frm r.tm by_ j)
      rw [show N + ((j + 1 : Nat) : Int) = N + j + 1 from by omega]; exact this
    · rw [cnt_upd i1 (by omega) (by omega), i2]; omega
def totP (size by_ : Int) (l : List Rg) : Nat := (l.map (fun r => nP r.tm size by_)).sum
theorem totP_take (size by_ : Int) (l : List Rg) (k : Nat) (h : k < l.length) : totP size by_ (l.take (k + 1)) = totP size by_ (l.take k) + nP l[k].tm size by_ := by
  unfold totP; rw [List.take_succ_eq_append_getElem h, List.map_append, List.sum_append]; simp only [List.map_cons, List.map_nil, List.sum_cons, List.sum_nil, Nat.add_zero]
theorem snoc_ind {α : Type} {P : List α → Prop} (h0 : P []) (hs : ∀ l r, P l → P (l ++ [r])) : ∀ l, P l := by
  intro l
  have : ∀ m : List α, P m.reverse := by
    intro m
    induction m with
    | nil => exact h0
    | cons x m ih => rw [List.reverse_cons]; exact hs _ _ ih
  simpa using this l.reverse
theorem sl_iv {size by_ slack : Int} (h1 : 1 ≤ by_) (hs : size ≤ 16 * by_) (l : List Rg) : l.length ≤ 1000000 → Iv size (totP size by_ l) (slS size by_ slack l).1 ∧ sumF (fun p => p.mn + p.lt) (slS size by_ slack l).1 = totP size by_ l ∧ totP size by_ l ≤ l.length * 16 := by
  refine snoc_ind (P := fun l => l.length ≤ 1000000 → Iv size (totP size by_ l) (slS size by_ slack l).1 ∧ sumF (fun p => p.mn + p.lt) (slS size by_ slack l).1 = totP size by_ l ∧ totP size by_ l ≤ l.length * 16) ?_ ?_ l
  · intro _; exact ⟨Iv.nil size, rfl, by simp [totP]⟩
  · intro l r ih hl
    rw [List.length_append] at hl
    simp only [List.length_cons, List.length_nil] at hl
    obtain ⟨i1, i2, i3⟩ := ih (by omega)
    have h4 := nP_le (t := r.tm) h1 hs
    have e : totP size by_ (l ++ [r]) = totP size by_ l + nP r.tm size by_ := by unfold totP; simp
    rw [slS_snoc, e]
    obtain ⟨j1, j2⟩ := Iv.takeTo (by_ := by_) (mark := (slS size by_ slack l).2) (r := r) i1 (by omega) (nP r.tm size by_) (by omega)
    refine ⟨?_, ?_, ?_⟩
    · simp only; rw [Int.natCast_add]; exact j1
    · simp only; unfold takeP; rw [j2, i2]; omega
    · rw [List.length_append]; simp only [List.length_cons, List.length_nil]; omega
theorem nP_layers {t by_ k : Int} (h1 : 1 ≤ by_) (h0 : 0 ≤ t) (hk : 1 ≤ k) : (nP t (by_ * k) by_ : Int) = min (t / by_ + 1) k := by
  have m0 := Int.emod_nonneg t (show by_ ≠ 0 by omega)
  have m1 := Int.emod_lt_of_pos t (show 0 < by_ by omega)
  have d0 : 0 ≤ t / by_ := Int.ediv_nonneg h0 (by omega)
  have e : (by_ * k - t % by_ - 1) / by_ = k - 1 := by
    have : by_ * k - t % by_ - 1 = (by_ - 1 - t % by_) + by_ * (k - 1) := by rw [Int.mul_sub, Int.mul_one]; omega
    rw [this, Int.add_mul_ediv_left _ _ (by omega), Int.ediv_eq_zero_of_lt (by omega) (by omega)]
    omega
  unfold nP
  rw [e]
  omega
theorem nP_side {t size : Int} (h1 : 1 ≤ size) (h0 : 0 ≤ t) : nP t size size = 1 := by
  have := nP_layers (t := t) (by_ := size) (k := 1) h1 h0 (by omega)
  rw [Int.mul_one] at this
  have d0 : 0 ≤ t / size := Int.ediv_nonneg h0 (by omega)
  omega
theorem take_side {size mark : Int} {r : Rg} {L : List Pn} (h1 : 1 ≤ size) (h0 : 0 ≤ r.tm) : takeP size size mark r L = upd size mark r L (r.tm / size * size) := by
  unfold takeP
  rw [nP_side h1 h0]
  show takeTo size size mark r L (0 + 1) = _
  rw [takeTo_succ]
  have : frm r.tm size 0 = r.tm / size * size := by unfold frm; simp
  rw [this]
  rfl
end Go.Proofs.YtfpfaekbakilpaaDoor
