/- Sessions. Plain mathematics. -/
import Derived.Test.YtfpfaekbakilpaaDoorPureWc
namespace Go.Proofs.YtfpfaekbakilpaaDoor
set_option linter.unusedVariables false

def seNew (gap : Int) (r : Rg) : Pn := ⟨r.key, r.tm, r.tm + gap, w64 (0 + 1), w64 (0 + r.num), 0⟩
def seAdd (gap : Int) (q : Pn) (r : Rg) : Pn := ⟨q.key, q.fr, r.tm + gap, w64 (q.mn + 1), w64 (q.sm + r.num), q.lt⟩
/-- The panes so far, the last one first; one record more. -/
def seStep (gap : Int) : List Pn → Rg → List Pn
  | [], r => [seNew gap r]
  | q :: D, r => if q.key = r.key ∧ r.tm < q.to then seAdd gap q r :: D else seNew gap r :: q :: D
def sesR (gap : Int) (l : List Rg) : List Pn := l.foldl (seStep gap) []
def sesP (gap : Int) (l : List Rg) : List Pn := (sesR gap l).reverse
theorem sesR_take (gap : Int) (l : List Rg) (k : Nat) (h : k < l.length) : sesR gap (l.take (k + 1)) = seStep gap (sesR gap (l.take k)) l[k] := by
  unfold sesR; rw [List.take_succ_eq_append_getElem h, List.foldl_append]; rfl
theorem sesR_snoc (gap : Int) (l : List Rg) (r : Rg) : sesR gap (l ++ [r]) = seStep gap (sesR gap l) r := by
  unfold sesR; rw [List.foldl_append]; rfl
theorem seStep_yes (gap : Int) (q : Pn) (D : List Pn) (r : Rg) (h : q.key = r.key ∧ r.tm < q.to) : seStep gap (q :: D) r = seAdd gap q r :: D := by
  show (if q.key = r.key ∧ r.tm < q.to then seAdd gap q r :: D else seNew gap r :: q :: D) = _
  rw [if_pos h]
theorem seStep_no (gap : Int) (q : Pn) (D : List Pn) (r : Rg) (h : ¬ (q.key = r.key ∧ r.tm < q.to)) : seStep gap (q :: D) r = seNew gap r :: q :: D := by
  show (if q.key = r.key ∧ r.tm < q.to then seAdd gap q r :: D else seNew gap r :: q :: D) = _
  rw [if_neg h]
theorem seStep_len (gap : Int) (L : List Pn) (r : Rg) : (seStep gap L r).length ≤ L.length + 1 := by
  cases L with
  | nil => simp [seStep]
  | cons q D =>
    by_cases h : q.key = r.key ∧ r.tm < q.to
    · rw [seStep_yes gap q D r h]; simp
    · rw [seStep_no gap q D r h]; simp
theorem sesR_len (gap : Int) (l : List Rg) : (sesR gap l).length ≤ l.length := by
  refine snoc_ind (P := fun l => (sesR gap l).length ≤ l.length) (by simp [sesR]) (fun l r ih => ?_) l
  rw [sesR_snoc]
  have := seStep_len gap (sesR gap l) r
  simp only [List.length_append, List.length_cons, List.length_nil]
  omega
/-- Sorted by key and time. -/
def AhR (a b : Rg) : Prop := AhK a.key a.tm b.key b.tm
instance (a b : Rg) : Decidable (AhR a b) := by unfold AhR; exact inferInstance
def SrtR (l : List Rg) : Prop := l.Pairwise (fun a b => ¬ AhR b a)
theorem nAh_trans {a b c : Rg} (h1 : ¬ AhR b a) (h2 : ¬ AhR c b) : ¬ AhR c a := by
  intro h
  unfold AhR at *
  rcases AhK.tri a.key a.tm b.key b.tm with k | k | k
  · exact h2 (AhK.trans h k)
  · rw [k.1, k.2] at h; exact h2 h
  · exact h1 k
theorem same_of {a b : Rg} (h1 : ¬ AhR a b) (h2 : ¬ AhR b a) : a.key = b.key ∧ a.tm = b.tm := by
  unfold AhR at *
  rcases AhK.tri a.key a.tm b.key b.tm with k | k | k
  · exact absurd k h1
  · exact k
  · exact absurd k h2
/-- Two of one key and time may be exchanged. -/
theorem seStep_swap {gap : Int} (hg : 1 ≤ gap) (L : List Pn) {a b : Rg} (hk : a.key = b.key) (ht : a.tm = b.tm) : seStep gap (seStep gap L a) b = seStep gap (seStep gap L b) a := by
  obtain ⟨ka, na, ta⟩ := a
  obtain ⟨kb', nb, tb⟩ := b
  simp only at hk ht
  subst hk ht
  have e1 : ∀ x : Int, w64 (w64 (x + na) + nb) = w64 (w64 (x + nb) + na) := fun x => by
    rw [w64_add, w64_add, show x + na + nb = x + nb + na from by omega]
  have hlt : ta < ta + gap := by omega
  cases L with
  | nil => simp [seStep, seNew, seAdd, hlt]; simpa using e1 0
  | cons q D =>
    by_cases h : q.key = ka ∧ ta < q.to
    · simp [seStep, h, seAdd, hlt, e1]
    · simp only [seStep, if_neg h, seNew, seAdd, hlt, and_self, if_true]
      rw [e1]
theorem fold_move {gap : Int} (hg : 1 ≤ gap) : ∀ (p : List Rg) (L : List Pn) (a : Rg), (∀ x ∈ p, x.key = a.key ∧ x.tm = a.tm) → (p ++ [a]).foldl (seStep gap) L = (a :: p).foldl (seStep gap) L
  | [], _, _, _ => rfl
  | b :: p, L, a, h => by
    have hb := h b (by simp)
    have := fold_move hg p (seStep gap L b) a (fun x hx => h x (by simp [hx]))
    simp only [List.cons_append, List.foldl_cons] at this ⊢
    rw [this, seStep_swap hg L hb.1 hb.2]
theorem fold_srt {gap : Int} (hg : 1 ≤ gap) : ∀ (l m : List Rg) (L : List Pn), l.Perm m → SrtR l → SrtR m → l.foldl (seStep gap) L = m.foldl (seStep gap) L
  | [], m, L, hp, _, _ => by rw [List.Perm.nil_eq hp]
  | a :: t, m, L, hp, hl, hm => by
    have ha : a ∈ m := hp.mem_iff.1 (by simp)
    obtain ⟨p, s, rfl⟩ := List.append_of_mem ha
    obtain ⟨l1, l2⟩ := List.pairwise_cons.1 hl
    have hps : ∀ x ∈ p, x.key = a.key ∧ x.tm = a.tm := fun x hx => by
      have h1 : ¬ AhR a x := (List.pairwise_append.1 hm).2.2 x hx a (by simp)
      have hx2 : x ∈ a :: t := hp.mem_iff.2 (by simp [hx])
      rcases List.mem_cons.1 hx2 with rfl | hx3
      · exact ⟨rfl, rfl⟩
      · exact same_of (l1 x hx3) h1
    have hp2 : t.Perm (p ++ s) := by
      have := hp.trans List.perm_middle
      exact this.cons_inv
    have hm2 : SrtR (p ++ s) := List.Pairwise.sublist (List.Sublist.append (List.Sublist.refl p) (List.sublist_cons_self a s)) hm
    have e : (p ++ a :: s).foldl (seStep gap) L = (p ++ s).foldl (seStep gap) (seStep gap L a) := by
      have h3 := fold_move hg p L a hps
      rw [show p ++ a :: s = (p ++ [a]) ++ s from by simp, List.foldl_append, h3, List.foldl_append]
      rfl
    rw [e, List.foldl_cons]
    exact fold_srt hg t (p ++ s) (seStep gap L a) hp2 l2 hm2
theorem ses_perm {gap : Int} (hg : 1 ≤ gap) {l m : List Rg} (hp : l.Perm m) (hl : SrtR l) (hm : SrtR m) : sesR gap l = sesR gap m := fold_srt hg l m [] hp hl hm

/-- What the panes of sorted records are like. -/
structure SeOK (gap : Int) (n : Nat) (L : List Pn) : Prop where
  lt : ∀ p ∈ L, p.lt = 0
  wide : ∀ p ∈ L, gap ≤ p.to - p.fr
  mn : ∀ p ∈ L, 1 ≤ p.mn ∧ p.mn ≤ n
  sum : sumF (fun p => p.mn) L = n
  fr : ∀ p ∈ L, 0 ≤ p.fr ∧ p.to ≤ 2000000
  apart : L.Pairwise (fun a b => a.key = b.key → b.to ≤ a.fr)
  ord : L.Pairwise (fun a b => ¬ kb a.key < kb b.key)
theorem se_ok {gap : Int} (hg : 1 ≤ gap) (hg2 : gap ≤ 1000000) (l : List Rg) (hs : SrtR l) (hr : ∀ r ∈ l, 0 ≤ r.tm ∧ r.tm ≤ 1000000) (hn : l.length ≤ 1000000) : SeOK gap l.length (sesR gap l) ∧ (∀ p ∈ sesR gap l, ∃ r ∈ l, r.key = p.key ∧ r.tm + gap = p.to) := by
  revert hs hr hn
  refine snoc_ind (P := fun l => SrtR l → (∀ r ∈ l, 0 ≤ r.tm ∧ r.tm ≤ 1000000) → l.length ≤ 1000000 → SeOK gap l.length (sesR gap l) ∧ (∀ p ∈ sesR gap l, ∃ r ∈ l, r.key = p.key ∧ r.tm + gap = p.to)) (fun _ _ _ => ⟨⟨by simp [sesR], by simp [sesR], by simp [sesR], rfl, by simp [sesR], by simp [sesR], by simp [sesR]⟩, by simp [sesR]⟩) (fun l r ih hs hr hn => ?_) l
  have hs1 : SrtR l := (List.pairwise_append.1 hs).1
  have hlast : ∀ x ∈ l, ¬ AhR r x := fun x hx => (List.pairwise_append.1 hs).2.2 x hx r (by simp)
  obtain ⟨t0, t1⟩ := hr r (by simp)
  simp only [List.length_append, List.length_cons, List.length_nil] at hn ⊢
  obtain ⟨i1, i2⟩ := ih hs1 (fun x hx => hr x (by simp [hx])) (by omega)
  rw [sesR_snoc]
  have hw1 : w64 (0 + 1) = 1 := by decide
  have hbig : ∀ p ∈ sesR gap l, p.key = r.key → p.to ≤ r.tm + gap := fun p hp hk => by
    obtain ⟨x, hx, x1, x2⟩ := i2 p hp
    have := hlast x hx
    unfold AhR AhK at this
    have h3 : ¬ (r.key = x.key ∧ r.tm < x.tm) := fun e => this (.inr e)
    have h4 : ¬ r.tm < x.tm := fun e => h3 ⟨(x1.trans hk).symm, e⟩
    omega
  generalize sesR gap l = L at *
  cases L with
  | nil =>
    have hl0 := i1.sum
    simp only [sumF_nil] at hl0
    have hl1 : l.length = 0 := by omega
    refine ⟨⟨?_, ?_, ?_, ?_, ?_, ?_, ?_⟩, ?_⟩
    · intro p hp; simp [seStep] at hp; subst hp; rfl
    · intro p hp; simp [seStep] at hp; subst hp; simp only [seNew]; omega
    · intro p hp; simp [seStep] at hp; subst hp; simp only [seNew, hw1]; omega
    · simp only [seStep, sumF_cons, sumF_nil, seNew, hw1]; omega
    · intro p hp; simp [seStep] at hp; subst hp; simp only [seNew]; omega
    · simp [seStep]
    · simp [seStep]
    · intro p hp; simp [seStep] at hp; subst hp; exact ⟨r, by simp, rfl, rfl⟩
  | cons q D =>
    obtain ⟨a1, a2⟩ := List.pairwise_cons.1 i1.apart
    obtain ⟨o1, o2⟩ := List.pairwise_cons.1 i1.ord
    have hkb : ∀ p ∈ q :: D, ¬ kb r.key < kb p.key := fun p hp hlt => by
      obtain ⟨x, hx, x1, x2⟩ := i2 p hp
      exact hlast x hx (.inl (by rw [x1]; exact hlt))
    have q1 := i1.mn q (by simp)
    have q2 := i1.fr q (by simp)
    have q3 := i1.wide q (by simp)
    have hmnD : ∀ p ∈ D, 1 ≤ p.mn ∧ p.mn ≤ l.length := fun p hp => i1.mn p (by simp [hp])
    have hsum := i1.sum
    rw [sumF_cons] at hsum
    by_cases h : q.key = r.key ∧ r.tm < q.to
    · have e : seStep gap (q :: D) r = seAdd gap q r :: D := seStep_yes gap q D r h
      rw [e]
      have hmq : (seAdd gap q r).mn = q.mn + 1 := by unfold seAdd; exact w64_id (by omega) (by omega)
      have hto := hbig q (by simp) h.1
      refine ⟨⟨?_, ?_, ?_, ?_, ?_, ?_, ?_⟩, ?_⟩
      · intro p hp
        rcases List.mem_cons.1 hp with rfl | hp
        · exact i1.lt q (by simp)
        · exact i1.lt p (by simp [hp])
      · intro p hp
        rcases List.mem_cons.1 hp with rfl | hp
        · simp only [seAdd]; omega
        · exact i1.wide p (by simp [hp])
      · intro p hp
        rcases List.mem_cons.1 hp with rfl | hp
        · rw [hmq]; omega
        · have := hmnD p hp; omega
      · rw [sumF_cons, hmq]; omega
      · intro p hp
        rcases List.mem_cons.1 hp with rfl | hp
        · simp only [seAdd]; omega
        · exact i1.fr p (by simp [hp])
      · exact List.pairwise_cons.2 ⟨fun b hb hk => a1 b hb hk, a2⟩
      · exact List.pairwise_cons.2 ⟨fun b hb => o1 b hb, o2⟩
      · intro p hp
        rcases List.mem_cons.1 hp with rfl | hp
        · exact ⟨r, by simp, h.1.symm, rfl⟩
        · obtain ⟨x, hx, x1, x2⟩ := i2 p (by simp [hp])
          exact ⟨x, by simp [hx], x1, x2⟩
    · have e : seStep gap (q :: D) r = seNew gap r :: q :: D := seStep_no gap q D r h
      rw [e]
      refine ⟨⟨?_, ?_, ?_, ?_, ?_, ?_, ?_⟩, ?_⟩
      · intro p hp
        rcases List.mem_cons.1 hp with rfl | hp
        · rfl
        · exact i1.lt p hp
      · intro p hp
        rcases List.mem_cons.1 hp with rfl | hp
        · simp only [seNew]; omega
        · exact i1.wide p hp
      · intro p hp
        rcases List.mem_cons.1 hp with rfl | hp
        · simp only [seNew, hw1]; omega
        · have := i1.mn p hp; omega
      · rw [sumF_cons, sumF_cons]; simp only [seNew, hw1]; omega
      · intro p hp
        rcases List.mem_cons.1 hp with rfl | hp
        · simp only [seNew]; omega
        · exact i1.fr p hp
      · refine List.pairwise_cons.2 ⟨fun b hb hk => ?_, i1.apart⟩
        simp only [seNew] at hk ⊢
        have hbq : b.key = q.key → b.to ≤ q.to := fun hk2 => by
          rcases List.mem_cons.1 hb with rfl | hb2
          · omega
          · have := a1 b hb2 hk2.symm; omega
        by_cases hq : q.key = r.key
        · have h2 : ¬ r.tm < q.to := fun e => h ⟨hq, e⟩
          have := hbq (hk.symm.trans hq.symm)
          omega
        · rcases List.mem_cons.1 hb with rfl | hb2
          · exact absurd hk.symm hq
          · exfalso
            have c1 := o1 b hb2
            have c2 := hkb q (by simp)
            rw [← hk] at c1
            rcases lt_tri (kb q.key) (kb r.key) with c | c | c
            · exact c1 c
            · exact hq (kb_inj c)
            · exact c2 c
      · exact List.pairwise_cons.2 ⟨fun b hb => hkb b hb, i1.ord⟩
      · intro p hp
        rcases List.mem_cons.1 hp with rfl | hp
        · exact ⟨r, by simp, rfl, rfl⟩
        · obtain ⟨x, hx, x1, x2⟩ := i2 p hp
          exact ⟨x, by simp [hx], x1, x2⟩
/-- With a greater gap there are no more. -/
theorem ses_more {gap more : Int} (hg : gap ≤ more) (l : List Rg) : (sesR more l).length ≤ (sesR gap l).length ∧ ((sesR gap l = [] ∧ sesR more l = []) ∨ ∃ p D q E, sesR gap l = p :: D ∧ sesR more l = q :: E ∧ p.key = q.key ∧ p.to - gap = q.to - more) := by
  refine snoc_ind (P := fun l => (sesR more l).length ≤ (sesR gap l).length ∧ ((sesR gap l = [] ∧ sesR more l = []) ∨ ∃ p D q E, sesR gap l = p :: D ∧ sesR more l = q :: E ∧ p.key = q.key ∧ p.to - gap = q.to - more)) ⟨by simp [sesR], .inl ⟨rfl, rfl⟩⟩ (fun l r ih => ?_) l
  rw [sesR_snoc, sesR_snoc]
  obtain ⟨i1, i2⟩ := ih
  rcases i2 with ⟨e1, e2⟩ | ⟨p, D, q, E, e1, e2, e3, e4⟩
  · rw [e1, e2]
    exact ⟨by simp [seStep], .inr ⟨_, _, _, _, rfl, rfl, rfl, by simp only [seNew]; omega⟩⟩
  · rw [e1, e2] at i1 ⊢
    simp only [List.length_cons] at i1
    by_cases h1 : p.key = r.key ∧ r.tm < p.to
    · have h2 : q.key = r.key ∧ r.tm < q.to := ⟨e3 ▸ h1.1, by omega⟩
      rw [seStep_yes _ _ _ _ h1, seStep_yes _ _ _ _ h2]
      exact ⟨by simpa using i1, .inr ⟨_, _, _, _, rfl, rfl, e3, by simp only [seAdd]; omega⟩⟩
    · rw [seStep_no _ _ _ _ h1]
      by_cases h2 : q.key = r.key ∧ r.tm < q.to
      · rw [seStep_yes _ _ _ _ h2]
        exact ⟨by simp only [List.length_cons]; omega, .inr ⟨_, _, _, _, rfl, rfl, by simp only [seNew, seAdd]; exact h2.1.symm, by simp only [seNew, seAdd]; omega⟩⟩
      · rw [seStep_no _ _ _ _ h2]
        exact ⟨by simp only [List.length_cons]; omega, .inr ⟨_, _, _, _, rfl, rfl, rfl, by simp only [seNew]; omega⟩⟩
end Go.Proofs.YtfpfaekbakilpaaDoor
