/- The document's sessions are the sessions, whatever the order. Plain mathematics. -/
import Derived.Test.YtfpfaekbakilpaaDoorPureWj
namespace Go.Proofs.YtfpfaekbakilpaaDoor
set_option linter.unusedVariables false

/-- What comes of joining one with all that it touches. -/
structure JOk (p0 J : Pn) (T : List Pn) : Prop where
  key : J.key = p0.key
  lt : J.lt = p0.lt
  fr : J.fr ≤ p0.fr
  to : p0.to ≤ J.to
  all : ∀ a ∈ T, J.fr ≤ a.fr ∧ a.to ≤ J.to
  fr1 : J.fr = p0.fr ∨ ∃ a ∈ T, J.fr = a.fr
  to1 : J.to = p0.to ∨ ∃ a ∈ T, J.to = a.to
  mn : J.mn = w64 (p0.mn + (T.map (·.mn)).sum)
  sm : J.sm = w64 (p0.sm + (T.map (·.sm)).sum)
theorem join_ok {p0 : Pn} (hm : p0.mn = w64 p0.mn) (hs : p0.sm = w64 p0.sm) (hf : p0.fr < p0.to) {L : List Pn} (hl : RisH L) (hap : ∀ p ∈ L, ∀ q ∈ L, p.key = q.key → p.fr < q.fr → p.to ≤ q.fr) (hw : ∀ p ∈ L, p.fr < p.to) :
    ∀ A : List Pn, (∃ B, L = A ++ B) → (jAll p0 A).2 = A.filter (fun q => decide (¬ tch q p0)) ∧ JOk p0 (jAll p0 A).1 (A.filter (fun q => decide (tch q p0))) := by
  intro A
  refine snoc_ind (P := fun A => (∃ B, L = A ++ B) → (jAll p0 A).2 = A.filter (fun q => decide (¬ tch q p0)) ∧ JOk p0 (jAll p0 A).1 (A.filter (fun q => decide (tch q p0)))) (fun _ => ⟨rfl, ⟨rfl, rfl, Int.le_refl _, Int.le_refl _, by simp, .inl rfl, .inl rfl, by simpa [jAll] using hm, by simpa [jAll] using hs⟩⟩) (fun A q ih => ?_) A
  rintro ⟨B, hB⟩
  obtain ⟨i1, i2⟩ := ih ⟨q :: B, by simpa using hB⟩
  rw [jAll_snoc]
  have hq : q ∈ L := by rw [hB]; simp
  have hlt : ∀ a ∈ A, a ∈ L ∧ (a.key = q.key → a.fr < q.fr ∧ a.to ≤ q.fr) := fun a ha => by
    have haL : a ∈ L := by rw [hB]; simp [ha]
    refine ⟨haL, fun hk => ?_⟩
    have h1 : Ah a q := by
      rw [hB] at hl
      have := (List.pairwise_append.1 (List.pairwise_append.1 hl).1).2.2 a ha q (by simp)
      exact this
    rcases h1 with h1 | ⟨-, h1⟩
    · rw [hk] at h1; exact absurd h1 (List.lt_irrefl _)
    · exact ⟨h1, hap a haL q hq hk h1⟩
  have hwq := hw q hq
  have heq : tch q (jAll p0 A).1 ↔ tch q p0 := by
    unfold tch
    rw [i2.key]
    constructor
    · rintro ⟨k, h1, h2⟩
      refine ⟨k, ?_, ?_⟩
      · rcases i2.to1 with e | ⟨a, ha, e⟩
        · omega
        · obtain ⟨ha1, ha2⟩ := List.mem_filter.1 ha
          have ht : tch a p0 := of_decide_eq_true ha2
          have := (hlt a ha1).2 (ht.1.trans k.symm)
          omega
      · rcases i2.fr1 with e | ⟨a, ha, e⟩
        · omega
        · obtain ⟨ha1, ha2⟩ := List.mem_filter.1 ha
          have ht : tch a p0 := of_decide_eq_true ha2
          have h3 := (hlt a ha1).2 (ht.1.trans k.symm)
          have := ht.2.2
          omega
    · rintro ⟨k, h1, h2⟩
      exact ⟨k, by have := i2.to; omega, by have := i2.fr; omega⟩
  rw [List.filter_append, List.filter_append]
  by_cases ht : tch q p0
  · have e1 : jStep (jAll p0 A) q = (joinP q (jAll p0 A).1, (jAll p0 A).2) := if_pos (heq.2 ht)
    rw [e1]
    refine ⟨by simp [ht, i1], ?_⟩
    have e2 : [q].filter (fun q => decide (tch q p0)) = [q] := by simp [ht]
    rw [e2]
    refine ⟨i2.key, i2.lt, ?_, ?_, ?_, ?_, ?_, ?_, ?_⟩
    · simp only [joinP]; have := i2.fr; omega
    · simp only [joinP]; have := i2.to; omega
    · intro a ha
      simp only [joinP]
      rcases List.mem_append.1 ha with ha | ha
      · have := i2.all a ha; omega
      · simp at ha; subst ha; omega
    · simp only [joinP]
      rcases Int.le_total (jAll p0 A).1.fr q.fr with h | h
      · rw [Int.min_eq_left h]
        rcases i2.fr1 with e | ⟨a, ha, e⟩
        · exact .inl e
        · exact .inr ⟨a, by simp [List.mem_filter.1 ha |>.1, of_decide_eq_true (List.mem_filter.1 ha).2], e⟩
      · rw [Int.min_eq_right h]; exact .inr ⟨q, by simp, rfl⟩
    · simp only [joinP]
      rcases Int.le_total q.to (jAll p0 A).1.to with h | h
      · rw [Int.max_eq_left h]
        rcases i2.to1 with e | ⟨a, ha, e⟩
        · exact .inl e
        · exact .inr ⟨a, by simp [List.mem_filter.1 ha |>.1, of_decide_eq_true (List.mem_filter.1 ha).2], e⟩
      · rw [Int.max_eq_right h]; exact .inr ⟨q, by simp, rfl⟩
    · simp only [joinP]
      rw [i2.mn, w64_add, List.map_append, List.sum_append]
      simp [Int.add_assoc]
    · simp only [joinP]
      rw [i2.sm, w64_add, List.map_append, List.sum_append]
      simp [Int.add_assoc]
  · have e1 : jStep (jAll p0 A) q = ((jAll p0 A).1, (jAll p0 A).2 ++ [q]) := if_neg (fun h => ht (heq.1 h))
    rw [e1]
    refine ⟨by simp [ht, i1], ?_⟩
    have e2 : [q].filter (fun q => decide (tch q p0)) = [] := by simp [ht]
    rw [e2, List.append_nil]
    exact i2
/-- Sums over disjoint parts. -/
def wS (f : Rg → Int) (l : List Rg) (c : Rg → Bool) : Int := ((l.filter c).map f).sum
theorem wS_or (f : Rg → Int) (c d : Rg → Bool) : ∀ l : List Rg, (∀ x ∈ l, ¬ (c x = true ∧ d x = true)) → wS f l (fun x => c x || d x) = wS f l c + wS f l d
  | [], _ => rfl
  | x :: l, h => by
    have ih := wS_or f c d l (fun y hy => h y (by simp [hy]))
    have h0 := h x (by simp)
    unfold wS at *
    simp only [List.filter_cons]
    cases hc : c x <;> cases hd : d x <;> simp [hc, hd] at h0 ⊢ <;> omega
theorem wS_any (f : Rg → Int) (l : List Rg) : ∀ T : List Pn, T.Pairwise (fun a b => ∀ x ∈ l, ¬ (inP a x = true ∧ inP b x = true)) → wS f l (fun x => T.any (fun a => inP a x)) = (T.map (fun a => wS f l (inP a))).sum
  | [], _ => by
    have : l.filter (fun x => ([] : List Pn).any (fun a => inP a x)) = [] := List.filter_eq_nil_iff.2 (fun x _ => by simp)
    unfold wS; rw [this]; rfl
  | a :: T, h => by
    obtain ⟨h1, h2⟩ := List.pairwise_cons.1 h
    have ih := wS_any f l T h2
    have := wS_or f (inP a) (fun x => T.any (fun a => inP a x)) l (fun x hx ⟨e1, e2⟩ => by
      obtain ⟨b, hb, hb2⟩ := List.any_eq_true.1 e2
      exact h1 b hb x hx ⟨e1, hb2⟩)
    rw [List.map_cons, List.sum_cons, ← ih, ← this]
    rfl
theorem cntP_w (l : List Rg) (p : Pn) : cntP l p = wS (fun _ => 1) l (inP p) := by
  unfold cntP wS
  generalize l.filter (inP p) = m
  induction m with
  | nil => rfl
  | cons x m ih => simp only [List.length_cons, List.map_cons, List.sum_cons, ← ih]; omega
theorem wS_congr {f : Rg → Int} {l : List Rg} {c d : Rg → Bool} (h : ∀ x ∈ l, c x = d x) : wS f l c = wS f l d := by
  unfold wS; rw [List.filter_congr h]
theorem wS_snoc (f : Rg → Int) (l : List Rg) (r : Rg) (c : Rg → Bool) : wS f (l ++ [r]) c = wS f l c + (if c r = true then f r else 0) := by
  unfold wS
  rw [List.filter_append, List.map_append, List.sum_append]
  cases h : c r <;> simp [h]
theorem w64_sum {α : Type} (f g : α → Int) : ∀ (T : List α) (x : Int), (∀ a ∈ T, f a = w64 (g a)) → w64 (x + (T.map f).sum) = w64 (x + (T.map g).sum)
  | [], _, _ => rfl
  | a :: T, x, h => by
    rw [List.map_cons, List.sum_cons, List.map_cons, List.sum_cons, ← Int.add_assoc, ← Int.add_assoc, w64_sum f g T (x + f a) (fun b hb => h b (by simp [hb])), h a (by simp)]
    rw [← w64_add, w64_add', w64_add]
theorem ris_apart {gap : Int} {l : List Rg} {P : List Pn} (h : IsSe gap l P) : P.Pairwise (fun a b => ∀ x ∈ l, ¬ (inP a x = true ∧ inP b x = true)) := by
  have h1 : P.Pairwise (fun a b => (a ∈ P ∧ b ∈ P) ∧ Ah a b) := by
    have := List.Pairwise.and_mem.1 h.ris
    exact this.imp (fun h => ⟨⟨h.1, h.2.1⟩, h.2.2⟩)
  refine h1.imp ?_
  rintro a b ⟨⟨ha, hb⟩, hab⟩ x hx ⟨e1, e2⟩
  obtain ⟨a1, a2, a3⟩ := inP_iff.1 e1
  obtain ⟨b1, b2, b3⟩ := inP_iff.1 e2
  rcases hab with k | ⟨k, f⟩
  · rw [← a1, ← b1] at k; exact List.lt_irrefl _ k
  · have := h.apart a ha b hb k f; omega
/-- One record more. -/
theorem se_step {gap : Int} (hg : 1 ≤ gap) {l : List Rg} {P : List Pn} (h : IsSe gap l P) (r : Rg) (hn : r.num = w64 r.num) : IsSe gap (l ++ [r]) (dsStep gap P r) := by
  have hwide : ∀ p ∈ P, p.fr + gap ≤ p.to := fun p hp => by
    obtain ⟨f, hf, i, e⟩ := h.first p hp
    have := h.top p hp f hf i; omega
  obtain ⟨j1, j2⟩ := join_ok (p0 := rP gap r) (by show (1 : Int) = w64 1; decide) hn (by show r.tm < r.tm + gap; omega) h.ris h.apart (fun p hp => by have := hwide p hp; omega) P ⟨[], by simp⟩
  have hun : dsStep gap P r = putP (jAll (rP gap r) P).2 (jAll (rP gap r) P).1 := rfl
  rw [hun, j1]
  clear hun j1
  generalize (jAll (rP gap r) P).1 = J at *
  have pk : (rP gap r).key = r.key := rfl
  have pf : (rP gap r).fr = r.tm := rfl
  have pt : (rP gap r).to = r.tm + gap := rfl
  have pm : (rP gap r).mn = 1 := rfl
  have ps : (rP gap r).sm = r.num := rfl
  have pl : (rP gap r).lt = 0 := rfl
  have jk := j2.key; have jf := j2.fr; have jt := j2.to; have jmn := j2.mn; have jsm := j2.sm; have jl := j2.lt
  rw [pk] at jk
  rw [pf] at jf
  rw [pt] at jt
  rw [pl] at jl
  have hT : ∀ a ∈ P, tch a (rP gap r) → a.key = J.key ∧ J.fr ≤ a.fr ∧ a.to ≤ J.to ∧ a.fr < r.tm + gap ∧ r.tm < a.to := fun a ha ht => by
    have := j2.all a (List.mem_filter.2 ⟨ha, decide_eq_true ht⟩)
    exact ⟨ht.1.trans jk.symm, this.1, this.2, ht.2.1, ht.2.2⟩
  have hJf : J.fr = r.tm ∨ ∃ a ∈ P, tch a (rP gap r) ∧ J.fr = a.fr := by
    rcases j2.fr1 with e | ⟨a, ha, e⟩
    · exact .inl e
    · exact .inr ⟨a, (List.mem_filter.1 ha).1, of_decide_eq_true (List.mem_filter.1 ha).2, e⟩
  have hJt : J.to = r.tm + gap ∨ ∃ a ∈ P, tch a (rP gap r) ∧ J.to = a.to := by
    rcases j2.to1 with e | ⟨a, ha, e⟩
    · exact .inl e
    · exact .inr ⟨a, (List.mem_filter.1 ha).1, of_decide_eq_true (List.mem_filter.1 ha).2, e⟩
  -- who is kept lies apart
  have hK : ∀ q ∈ P, ¬ tch q (rP gap r) → q.key = J.key → q.to ≤ J.fr ∨ J.to ≤ q.fr := fun q hq hn hk => by
    have hno : q.to ≤ r.tm ∨ r.tm + gap ≤ q.fr := by
      rcases Int.lt_or_le q.fr (r.tm + gap) with h1 | h1
      · rcases Int.lt_or_le r.tm q.to with h2 | h2
        · exact absurd ⟨hk.trans jk, h1, h2⟩ hn
        · exact .inl h2
      · exact .inr h1
    rcases hno with h1 | h1
    · left
      rcases hJf with e | ⟨a, ha, ht, e⟩
      · omega
      · obtain ⟨t1, t2, t3, t4, t5⟩ := hT a ha ht
        rcases Int.lt_trichotomy a.fr q.fr with c | c | c
        · have := h.apart a ha q hq (t1.trans hk.symm) c
          have := hwide q hq; omega
        · have : a = q := ris_uniq h.ris ha hq ⟨c, t1.trans hk.symm⟩
          subst this; exact absurd ht hn
        · have := h.apart q hq a ha (hk.trans t1.symm) c; omega
    · right
      rcases hJt with e | ⟨a, ha, ht, e⟩
      · omega
      · obtain ⟨t1, t2, t3, t4, t5⟩ := hT a ha ht
        have := h.apart a ha q hq (t1.trans hk.symm) (by omega); omega
  have hin : inP J r = true := inP_iff.2 ⟨jk.symm, by omega, by omega⟩
  have hnr : ∀ q ∈ P, ¬ tch q (rP gap r) → inP q r = false := fun q hq hn => by
    cases hc : inP q r with
    | false => rfl
    | true =>
      obtain ⟨a1, a2, a3⟩ := inP_iff.1 hc
      exact absurd ⟨a1.symm, by show q.fr < r.tm + gap; omega, by show r.tm < q.to; omega⟩ hn
  have hJT : ∀ x ∈ l, inP J x = true ↔ ∃ a ∈ P, tch a (rP gap r) ∧ inP a x = true := fun x hx => by
    constructor
    · intro hj
      obtain ⟨a1, a2, a3⟩ := inP_iff.1 hj
      obtain ⟨a, ha, ia⟩ := h.all x hx
      obtain ⟨b1, b2, b3⟩ := inP_iff.1 ia
      by_cases ht : tch a (rP gap r)
      · exact ⟨a, ha, ht, ia⟩
      · have := hK a ha ht (b1.symm.trans a1); omega
    · rintro ⟨a, ha, ht, ia⟩
      obtain ⟨b1, b2, b3⟩ := inP_iff.1 ia
      obtain ⟨t1, t2, t3, -⟩ := hT a ha ht
      exact inP_iff.2 ⟨b1.trans t1, by omega, by omega⟩
  have hmem : ∀ x, x ∈ putP (P.filter (fun q => decide (¬ tch q (rP gap r)))) J ↔ x = J ∨ (x ∈ P ∧ ¬ tch x (rP gap r)) := fun x => by
    rw [mem_putP, List.mem_filter]
    constructor
    · rintro (e | ⟨⟨h1, h2⟩, -⟩)
      · exact .inl e
      · exact .inr ⟨h1, by simpa using h2⟩
    · rintro (e | ⟨h1, h2⟩)
      · exact .inl e
      · refine .inr ⟨⟨h1, by simpa using h2⟩, fun hs => ?_⟩
        have := hK x h1 h2 hs.2
        have := hwide x h1
        have := hs.1
        omega
  have hTd := (ris_apart h).sublist (List.filter_sublist (p := fun q => decide (tch q (rP gap r))) (l := P))
  have hsumT : ∀ f : Rg → Int, wS f (l ++ [r]) (inP J) = f r + (((P.filter (fun q => decide (tch q (rP gap r)))).map (fun a => wS f l (inP a))).sum) := fun f => by
    rw [wS_snoc, if_pos hin, ← wS_any f l _ hTd, Int.add_comm]
    congr 1
    refine wS_congr (fun x hx => ?_)
    rw [Bool.eq_iff_iff, hJT x hx, List.any_eq_true]
    constructor
    · rintro ⟨a, ha, ht, ia⟩; exact ⟨a, List.mem_filter.2 ⟨ha, decide_eq_true ht⟩, ia⟩
    · rintro ⟨a, ha, ia⟩; exact ⟨a, (List.mem_filter.1 ha).1, of_decide_eq_true (List.mem_filter.1 ha).2, ia⟩
  refine ⟨putP_ris (h.ris.filter _) J, ?_, ?_, ?_, ?_, ?_, ?_, ?_⟩
  · intro p hp q hq hk hf
    rcases (hmem p).1 hp with rfl | ⟨hp1, hp2⟩ <;> rcases (hmem q).1 hq with rfl | ⟨hq1, hq2⟩
    · omega
    · rcases hK q hq1 hq2 hk.symm with c | c
      · have := hwide q hq1; omega
      · exact c
    · rcases hK p hp1 hp2 hk with c | c
      · exact c
      · have := hwide p hp1; omega
    · exact h.apart p hp1 q hq1 hk hf
  · intro x hx
    rcases List.mem_append.1 hx with hx | hx
    · obtain ⟨a, ha, ia⟩ := h.all x hx
      by_cases ht : tch a (rP gap r)
      · exact ⟨J, (hmem J).2 (.inl rfl), (hJT x hx).2 ⟨a, ha, ht, ia⟩⟩
      · exact ⟨a, (hmem a).2 (.inr ⟨ha, ht⟩), ia⟩
    · simp at hx; subst hx; exact ⟨J, (hmem J).2 (.inl rfl), hin⟩
  · intro p hp
    rcases (hmem p).1 hp with rfl | ⟨hp1, hp2⟩
    · refine ⟨?_, ?_, jl⟩
      · rw [jmn, cntP_w, hsumT, pm]
        exact w64_sum _ _ _ _ (fun a ha => by rw [(h.one a (List.mem_filter.1 ha).1).1, cntP_w])
      · rw [jsm]
        show _ = w64 (wS (·.num) (l ++ [r]) (inP _))
        rw [hsumT, ps]
        exact w64_sum _ _ _ _ (fun a ha => (h.one a (List.mem_filter.1 ha).1).2.1)
    · obtain ⟨o1, o2, o3⟩ := h.one p hp1
      have hnn := hnr p hp1 hp2
      refine ⟨?_, ?_, o3⟩
      · rw [o1, cntP_w, cntP_w, wS_snoc, hnn]; simp
      · rw [o2]
        show w64 (wS (·.num) l (inP p)) = w64 (wS (·.num) (l ++ [r]) (inP p))
        rw [wS_snoc, hnn]; simp
  · intro p hp
    rcases (hmem p).1 hp with rfl | ⟨hp1, hp2⟩
    · rcases hJf with e | ⟨a, ha, ht, e⟩
      · exact ⟨r, by simp, hin, e.symm⟩
      · obtain ⟨f, hf, i, e2⟩ := h.first a ha
        exact ⟨f, by simp [hf], (hJT f hf).2 ⟨a, ha, ht, i⟩, by omega⟩
    · obtain ⟨f, hf, i, e2⟩ := h.first p hp1
      exact ⟨f, by simp [hf], i, e2⟩
  · intro p hp
    rcases (hmem p).1 hp with rfl | ⟨hp1, hp2⟩
    · rcases hJt with e | ⟨a, ha, ht, e⟩
      · exact ⟨r, by simp, hin, e.symm⟩
      · obtain ⟨f, hf, i, e2⟩ := h.last a ha
        exact ⟨f, by simp [hf], (hJT f hf).2 ⟨a, ha, ht, i⟩, by omega⟩
    · obtain ⟨f, hf, i, e2⟩ := h.last p hp1
      exact ⟨f, by simp [hf], i, e2⟩
  · intro p hp x hx i
    rcases (hmem p).1 hp with rfl | ⟨hp1, hp2⟩
    · rcases List.mem_append.1 hx with hx | hx
      · obtain ⟨a, ha, ht, ia⟩ := (hJT x hx).1 i
        have := h.top a ha x hx ia
        have := (hT a ha ht).2.2.1
        omega
      · simp at hx; subst hx; exact jt
    · rcases List.mem_append.1 hx with hx | hx
      · exact h.top p hp1 x hx i
      · simp at hx; subst hx; rw [hnr p hp1 hp2] at i; cases i
  · intro p hp x hx i
    rcases (hmem p).1 hp with rfl | ⟨hp1, hp2⟩
    · rcases List.mem_append.1 hx with hx | hx
      · obtain ⟨a, ha, ht, ia⟩ := (hJT x hx).1 i
        obtain ⟨t1, t2, t3, t4, t5⟩ := hT a ha ht
        rcases h.near a ha x hx ia with e | ⟨y, hy, iy, y1, y2⟩
        · by_cases e2 : a.fr = p.fr
          · exact .inl (e.trans e2)
          · by_cases e3 : r.tm < a.fr
            · exact .inr ⟨r, by simp, hin, by omega, by omega⟩
            · exfalso
              rcases hJf with c | ⟨b, hb, hbt, c⟩
              · omega
              · obtain ⟨u1, u2, u3, u4, u5⟩ := hT b hb hbt
                have := h.apart b hb a ha (u1.trans t1.symm) (by omega)
                omega
        · exact .inr ⟨y, by simp [hy], (hJT y hy).2 ⟨a, ha, ht, iy⟩, y1, y2⟩
      · simp at hx; subst hx
        rcases hJf with c | ⟨b, hb, hbt, c⟩
        · exact .inl c.symm
        · obtain ⟨u1, u2, u3, u4, u5⟩ := hT b hb hbt
          by_cases e : x.tm = p.fr
          · exact .inl e
          right
          by_cases hz : ∃ z ∈ l, inP b z = true ∧ x.tm ≤ z.tm
          · obtain ⟨z, hz1, ⟨z2, z3⟩, z4⟩ := least_of hz
            rcases h.near b hb z hz1 z2 with e2 | ⟨y, hy, iy, y1, y2⟩
            · omega
            · have hyx : y.tm < x.tm := by
                apply Int.not_le.1
                intro hle
                have := z4 y hy ⟨iy, hle⟩
                omega
              exact ⟨y, by simp [hy], (hJT y hy).2 ⟨b, hb, hbt, iy⟩, hyx, by omega⟩
          · obtain ⟨f, hf, fi, fe⟩ := h.last b hb
            have hfx : f.tm < x.tm := by
              apply Int.not_le.1
              intro hle
              exact hz ⟨f, hf, fi, hle⟩
            exact ⟨f, by simp [hf], (hJT f hf).2 ⟨b, hb, hbt, fi⟩, hfx, by omega⟩
    · rcases List.mem_append.1 hx with hx | hx
      · rcases h.near p hp1 x hx i with e | ⟨y, hy, iy, y1, y2⟩
        · exact .inl e
        · exact .inr ⟨y, by simp [hy], iy, y1, y2⟩
      · simp at hx; subst hx; rw [hnr p hp1 hp2] at i; cases i
theorem ds_is {gap : Int} (hg : 1 ≤ gap) (l : List Rg) : (∀ r ∈ l, r.num = w64 r.num) → IsSe gap l (dsP gap l) := by
  refine snoc_ind (P := fun l => (∀ r ∈ l, r.num = w64 r.num) → IsSe gap l (dsP gap l)) (fun _ => ⟨List.Pairwise.nil, by simp [dsP], by simp, by simp [dsP], by simp [dsP], by simp [dsP], by simp [dsP], by simp [dsP]⟩) (fun l r ih hn => ?_) l
  have e : dsP gap (l ++ [r]) = dsStep gap (dsP gap l) r := by unfold dsP; rw [List.foldl_append]; rfl
  rw [e]
  exact se_step hg (ih (fun x hx => hn x (by simp [hx]))) r (hn r (by simp))
end Go.Proofs.YtfpfaekbakilpaaDoor
