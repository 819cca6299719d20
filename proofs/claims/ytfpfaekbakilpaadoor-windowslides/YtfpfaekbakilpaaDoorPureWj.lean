/- The document's sessions, plain. -/
import Derived.Test.YtfpfaekbakilpaaDoorPureWd
import Derived.Test.YtfpfaekbakilpaaDoorPureWi
namespace Go.Proofs.YtfpfaekbakilpaaDoor
set_option linter.unusedVariables false

/-- Whether a pane lies against another one. -/
def tch (q p : Pn) : Prop := q.key = p.key ∧ q.fr < p.to ∧ p.fr < q.to
instance (q p : Pn) : Decidable (tch q p) := by unfold tch; exact inferInstance
def joinP (q p : Pn) : Pn := ⟨p.key, min p.fr q.fr, max p.to q.to, w64 (p.mn + q.mn), w64 (p.sm + q.sm), p.lt⟩
def jStep (s : Pn × List Pn) (q : Pn) : Pn × List Pn := if tch q s.1 then (joinP q s.1, s.2) else (s.1, s.2 ++ [q])
def jAll (p : Pn) (L : List Pn) : Pn × List Pn := L.foldl jStep (p, [])
def rP (gap : Int) (r : Rg) : Pn := ⟨r.key, r.tm, r.tm + gap, 1, r.num, 0⟩
def dsStep (gap : Int) (L : List Pn) (r : Rg) : List Pn := putP (jAll (rP gap r) L).2 (jAll (rP gap r) L).1
def dsP (gap : Int) (l : List Rg) : List Pn := l.foldl (dsStep gap) []
theorem jAll_snoc (p : Pn) (L : List Pn) (q : Pn) : jAll p (L ++ [q]) = jStep (jAll p L) q := by unfold jAll; rw [List.foldl_append]; rfl
theorem jAll_take (p : Pn) (L : List Pn) (k : Nat) (h : k < L.length) : jAll p (L.take (k + 1)) = jStep (jAll p (L.take k)) L[k] := by
  rw [List.take_succ_eq_append_getElem h, jAll_snoc]
theorem dsP_take (gap : Int) (l : List Rg) (k : Nat) (h : k < l.length) : dsP gap (l.take (k + 1)) = dsStep gap (dsP gap (l.take k)) l[k] := by
  unfold dsP; rw [List.take_succ_eq_append_getElem h, List.foldl_append]; rfl
/-- Records of a pane. -/
def inP (p : Pn) (r : Rg) : Bool := decide (r.key = p.key) && decide (p.fr ≤ r.tm) && decide (r.tm < p.to)
theorem inP_iff {p : Pn} {r : Rg} : inP p r = true ↔ r.key = p.key ∧ p.fr ≤ r.tm ∧ r.tm < p.to := by
  unfold inP; simp [and_assoc]
def cntP (l : List Rg) (p : Pn) : Int := ((l.filter (inP p)).length : Nat)
def smP (l : List Rg) (p : Pn) : Int := w64 (((l.filter (inP p)).map (·.num)).sum)
/-- These panes are the sessions of these records. -/
structure IsSe (gap : Int) (l : List Rg) (P : List Pn) : Prop where
  ris : RisH P
  apart : ∀ p ∈ P, ∀ q ∈ P, p.key = q.key → p.fr < q.fr → p.to ≤ q.fr
  all : ∀ r ∈ l, ∃ p ∈ P, inP p r = true
  one : ∀ p ∈ P, p.mn = w64 (cntP l p) ∧ p.sm = smP l p ∧ p.lt = 0
  first : ∀ p ∈ P, ∃ r ∈ l, inP p r = true ∧ r.tm = p.fr
  last : ∀ p ∈ P, ∃ r ∈ l, inP p r = true ∧ r.tm + gap = p.to
  top : ∀ p ∈ P, ∀ r ∈ l, inP p r = true → r.tm + gap ≤ p.to
  near : ∀ p ∈ P, ∀ r ∈ l, inP p r = true → r.tm = p.fr ∨ ∃ x ∈ l, inP p x = true ∧ x.tm < r.tm ∧ r.tm < x.tm + gap
/-- One of them has its beginning in the other row too. -/
theorem se_fr {gap : Int} (hg : 1 ≤ gap) {l : List Rg} {P Q : List Pn} (hP : IsSe gap l P) (hQ : IsSe gap l Q) (p : Pn) (hp : p ∈ P) : ∃ q ∈ Q, q.key = p.key ∧ q.fr = p.fr := by
  obtain ⟨r, hr, r1', r2⟩ := hP.first p hp
  obtain ⟨r1, -, -⟩ := inP_iff.1 r1'
  obtain ⟨q, hq, iq⟩ := hQ.all r hr
  obtain ⟨q1, q2, q3⟩ := inP_iff.1 iq
  refine ⟨q, hq, q1.symm.trans r1, ?_⟩
  apply Int.le_antisymm
  · omega
  · apply Int.not_lt.1
    intro hlt
    rcases hQ.near q hq r hr iq with h | ⟨x, hx, ix, x1, x2⟩
    · omega
    · obtain ⟨y1, y2, y3⟩ := inP_iff.1 ix
      obtain ⟨p', hp', ip'⟩ := hP.all x hx
      obtain ⟨z1, z2, z3⟩ := inP_iff.1 ip'
      have ht := hP.top p' hp' x hx ip'
      have hk : p'.key = p.key := z1.symm.trans (y1.trans (q1.symm.trans r1))
      have := hP.apart p' hp' p hp hk (by omega)
      omega
theorem least_of {l : List Rg} {A : Rg → Prop} (h : ∃ r ∈ l, A r) : ∃ r ∈ l, A r ∧ ∀ x ∈ l, A x → r.tm ≤ x.tm := by
  classical
  induction l with
  | nil => obtain ⟨r, hr, -⟩ := h; simp at hr
  | cons a l ih =>
    by_cases hl : ∃ r ∈ l, A r
    · obtain ⟨r, hr, h1, h2⟩ := ih hl
      by_cases ha : A a ∧ a.tm < r.tm
      · refine ⟨a, by simp, ha.1, fun x hx hA => ?_⟩
        rcases List.mem_cons.1 hx with rfl | hx
        · exact Int.le_refl _
        · have := h2 x hx hA; omega
      · refine ⟨r, by simp [hr], h1, fun x hx hA => ?_⟩
        rcases List.mem_cons.1 hx with rfl | hx
        · apply Int.not_lt.1; intro h; exact ha ⟨hA, h⟩
        · exact h2 x hx hA
    · obtain ⟨r, hr, h1⟩ := h
      rcases List.mem_cons.1 hr with rfl | hr
      · refine ⟨r, by simp, h1, fun x hx hA => ?_⟩
        rcases List.mem_cons.1 hx with rfl | hx
        · exact Int.le_refl _
        · exact absurd ⟨x, hx, hA⟩ hl
      · exact absurd ⟨r, hr, h1⟩ hl
theorem se_to {gap : Int} (hg : 1 ≤ gap) {l : List Rg} {P Q : List Pn} (hP : IsSe gap l P) (hQ : IsSe gap l Q) {p q : Pn} (hp : p ∈ P) (hq : q ∈ Q) (hk : q.key = p.key) (hf : q.fr = p.fr) : q.to ≤ p.to := by
  apply Int.not_lt.1
  intro hlt
  obtain ⟨e, he, ie, e2⟩ := hQ.last q hq
  obtain ⟨e1, e3, e4⟩ := inP_iff.1 ie
  obtain ⟨f, hf', if', f2⟩ := hP.first p hp
  obtain ⟨f1, f3, f4⟩ := inP_iff.1 if'
  have hel : ∃ r ∈ l, inP q r = true ∧ p.to ≤ r.tm := by
    refine ⟨e, he, ie, ?_⟩
    apply Int.not_lt.1
    intro h
    have := hP.top p hp e he (inP_iff.2 ⟨e1.trans hk, by omega, h⟩)
    omega
  obtain ⟨r, hr, ⟨r1, r2⟩, r3⟩ := least_of hel
  obtain ⟨a1, a2, a3⟩ := inP_iff.1 r1
  rcases hQ.near q hq r hr r1 with h | ⟨x, hx, ix, x1, x2⟩
  · omega
  · obtain ⟨y1, y2, y3⟩ := inP_iff.1 ix
    by_cases hxp : x.tm < p.to
    · have := hP.top p hp x hx (inP_iff.2 ⟨y1.trans hk, by omega, hxp⟩)
      omega
    · have := r3 x hx ⟨ix, by omega⟩
      omega
theorem se_uniq {gap : Int} (hg : 1 ≤ gap) {l : List Rg} {P Q : List Pn} (hP : IsSe gap l P) (hQ : IsSe gap l Q) : P = Q := by
  have half : ∀ {P Q : List Pn}, IsSe gap l P → IsSe gap l Q → ∀ p ∈ P, p ∈ Q := by
    intro P Q hP hQ p hp
    obtain ⟨q, hq, k, f⟩ := se_fr hg hP hQ p hp
    have t1 := se_to hg hP hQ hp hq k f
    have t2 := se_to hg hQ hP hq hp k.symm f.symm
    have t : q.to = p.to := by omega
    obtain ⟨p1, p2, p3⟩ := hP.one p hp
    obtain ⟨q1, q2, q3⟩ := hQ.one q hq
    have e : inP q = inP p := by funext r; unfold inP; rw [k, f, t]
    unfold cntP at p1 q1
    unfold smP at p2 q2
    rw [e] at q1 q2
    have : q = p := by
      obtain ⟨a1, a2, a3, a4, a5, a6⟩ := p
      obtain ⟨b1, b2, b3, b4, b5, b6⟩ := q
      simp only at *
      subst k f t
      have e1 := q1.trans p1.symm
      have e2 := q2.trans p2.symm
      have e3 := q3.trans p3.symm
      subst e1 e2 e3
      rfl
    exact this ▸ hq
  exact ris_ext hP.ris hQ.ris (fun x => ⟨half hP hQ x, half hQ hP x⟩)
theorem perm_sum {a b : List Int} (h : a.Perm b) : a.sum = b.sum := by
  induction h with
  | nil => rfl
  | cons x _ ih => simp [ih]
  | swap x y l => simp; omega
  | trans _ _ i1 i2 => exact i1.trans i2
theorem IsSe.perm {gap : Int} {l m : List Rg} {P : List Pn} (h : IsSe gap l P) (hp : l.Perm m) : IsSe gap m P := by
  have hm : ∀ r, r ∈ l ↔ r ∈ m := fun r => hp.mem_iff
  refine ⟨h.ris, h.apart, fun r hr => h.all r ((hm r).2 hr), fun p hp' => ?_, fun p hp' => ?_, fun p hp' => ?_, fun p hp' r hr => h.top p hp' r ((hm r).2 hr), fun p hp' r hr i => ?_⟩
  · obtain ⟨h1, h2, h3⟩ := h.one p hp'
    have e : (l.filter (inP p)).Perm (m.filter (inP p)) := hp.filter _
    refine ⟨?_, ?_, h3⟩
    · rw [h1]; unfold cntP; rw [e.length_eq]
    · rw [h2]; unfold smP; rw [perm_sum (e.map _)]
  · obtain ⟨r, hr, h1⟩ := h.first p hp'; exact ⟨r, (hm r).1 hr, h1⟩
  · obtain ⟨r, hr, h1⟩ := h.last p hp'; exact ⟨r, (hm r).1 hr, h1⟩
  · rcases h.near p hp' r ((hm r).2 hr) i with h1 | ⟨x, hx, h1⟩
    · exact .inl h1
    · exact .inr ⟨x, (hm x).1 hx, h1⟩
end Go.Proofs.YtfpfaekbakilpaaDoor
