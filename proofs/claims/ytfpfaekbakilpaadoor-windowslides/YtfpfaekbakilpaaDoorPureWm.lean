/- Where a session is put between others. Plain mathematics. -/
import Derived.Test.YtfpfaekbakilpaaDoorPureWl
namespace Go.Proofs.YtfpfaekbakilpaaDoor
set_option linter.unusedVariables false

def plcP (K : List Pn) (J : Pn) : Nat := (K.filter (fun x => decide (Ah x J))).length
theorem plcP_le (K : List Pn) (J : Pn) : plcP K J ≤ K.length := List.length_filter_le _ _
theorem ahead_take {K : List Pn} (hK : RisH K) (J : Pn) : K.filter (fun x => decide (Ah x J)) = K.take (plcP K J) := by
  unfold plcP
  induction K with
  | nil => rfl
  | cons x K ih =>
    obtain ⟨h1, h2⟩ := List.pairwise_cons.1 hK
    by_cases h : Ah x J
    · rw [List.filter_cons_of_pos (by simpa using h), List.length_cons, List.take_succ_cons, ← ih h2]
    · have e : (x :: K).filter (fun x => decide (Ah x J)) = [] := List.filter_eq_nil_iff.2 (fun y hy => by
        rcases List.mem_cons.1 hy with rfl | hy
        · simpa using h
        · have := h1 y hy
          simp only [decide_eq_true_eq]
          intro c; exact h (this.trans c))
      rw [e]; rfl
theorem plcP_lt {K : List Pn} (hK : RisH K) (J : Pn) (i : Nat) (hi : i < plcP K J) : Ah (K[i]'(by have := plcP_le K J; omega)) J := by
  have hl := plcP_le K J
  have hm : K[i] ∈ K.take (plcP K J) := List.mem_take_iff_getElem.2 ⟨i, by omega, rfl⟩
  rw [← ahead_take hK] at hm
  exact of_decide_eq_true (List.mem_filter.1 hm).2
theorem plcP_ge {K : List Pn} (hK : RisH K) (J : Pn) (h : plcP K J < K.length) : ¬ Ah K[plcP K J] J := by
  intro hA
  have hm : K[plcP K J] ∈ K.filter (fun x => decide (Ah x J)) := List.mem_filter.2 ⟨List.getElem_mem h, decide_eq_true hA⟩
  rw [ahead_take hK] at hm
  obtain ⟨i, hi, he⟩ := List.mem_take_iff_getElem.1 hm
  have hi2 : i < plcP K J := by omega
  have h1 : Ah K[i] K[plcP K J] := List.pairwise_iff_getElem.1 hK i (plcP K J) (by omega) h hi2
  rw [he] at h1
  exact Ah.irr _ h1
theorem put_ins {K : List Pn} (hK : RisH K) (J : Pn) (hn : ∀ x ∈ K, ¬ Sm x J) : putP K J = K.take (plcP K J) ++ J :: K.drop (plcP K J) := by
  refine ((put_at hK J (plcP K J) (plcP_le K J) (fun i hi => plcP_lt hK J i hi)).2 (fun h => ?_)).1
  rcases Ah.tri J K[plcP K J] with c | c | c
  · exact c
  · exact absurd c.symm (hn _ (List.getElem_mem h))
  · exact absurd c (plcP_ge hK J h)
theorem se_noSm {gap : Int} (hg : 1 ≤ gap) {l : List Rg} {P : List Pn} (h : IsSe gap l P) (r : Rg) (hn : r.num = w64 r.num) : ∀ x ∈ (jAll (rP gap r) P).2, ¬ Sm x (jAll (rP gap r) P).1 := by
  have hwide : ∀ p ∈ P, p.fr + gap ≤ p.to := fun p hp => by
    obtain ⟨f, hf, i, e⟩ := h.first p hp
    have := h.top p hp f hf i; omega
  obtain ⟨j1, j2⟩ := join_ok (p0 := rP gap r) (by show (1 : Int) = w64 1; decide) hn (by show r.tm < r.tm + gap; omega) h.ris h.apart (fun p hp => by have := hwide p hp; omega) P ⟨[], by simp⟩
  rw [j1]
  generalize (jAll (rP gap r) P).1 = J at *
  have pk : (rP gap r).key = r.key := rfl
  have pf : (rP gap r).fr = r.tm := rfl
  have pt : (rP gap r).to = r.tm + gap := rfl
  intro q hq hs
  obtain ⟨hq1, hq2⟩ := List.mem_filter.1 hq
  have hn2 : ¬ tch q (rP gap r) := by simpa using hq2
  have hw := hwide q hq1
  have hno : q.to ≤ r.tm ∨ r.tm + gap ≤ q.fr := by
    rcases Int.lt_or_le q.fr (r.tm + gap) with h1 | h1
    · rcases Int.lt_or_le r.tm q.to with h2 | h2
      · exact absurd ⟨hs.2.trans j2.key, h1, h2⟩ hn2
      · exact .inl h2
    · exact .inr h1
  have jf := j2.fr
  rw [pf] at jf
  have e0 := hs.1
  rcases hno with h1 | h1
  · rcases j2.fr1 with e | ⟨a, ha, e⟩
    · rw [pf] at e; omega
    · obtain ⟨ha1, ha2⟩ := List.mem_filter.1 ha
      have ht : tch a (rP gap r) := of_decide_eq_true ha2
      have : a = q := ris_uniq h.ris ha1 hq1 ⟨by omega, (ht.1.trans j2.key.symm).trans hs.2.symm⟩
      subst this; exact hn2 ht
  · omega
theorem ds_ins {gap : Int} (hg : 1 ≤ gap) (l : List Rg) (hm : ∀ r ∈ l, r.num = w64 r.num) (k : Nat) (hk : k < l.length) :
    dsP gap (l.take (k + 1)) = (jAll (rP gap l[k]) (dsP gap (l.take k))).2.take (plcP (jAll (rP gap l[k]) (dsP gap (l.take k))).2 (jAll (rP gap l[k]) (dsP gap (l.take k))).1) ++ (jAll (rP gap l[k]) (dsP gap (l.take k))).1 :: (jAll (rP gap l[k]) (dsP gap (l.take k))).2.drop (plcP (jAll (rP gap l[k]) (dsP gap (l.take k))).2 (jAll (rP gap l[k]) (dsP gap (l.take k))).1) := by
  rw [dsP_take gap l k hk]
  exact put_ins (jAll_ris _ (dsP_ris gap _)) _ (se_noSm hg (ds_is hg _ (fun r hr => hm r (List.mem_of_mem_take hr))) _ (hm _ (List.getElem_mem hk)))
end Go.Proofs.YtfpfaekbakilpaaDoor
