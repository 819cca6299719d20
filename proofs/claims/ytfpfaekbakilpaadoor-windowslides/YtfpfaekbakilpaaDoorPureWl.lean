/- Sorted records: the document's sessions are the program's. Plain mathematics. -/
import Derived.Test.YtfpfaekbakilpaaDoorPureWk
namespace Go.Proofs.YtfpfaekbakilpaaDoor
set_option linter.unusedVariables false

theorem jAll_none (p : Pn) : ∀ A : List Pn, (∀ q ∈ A, ¬ tch q p) → jAll p A = (p, A) := by
  intro A
  refine snoc_ind (P := fun A => (∀ q ∈ A, ¬ tch q p) → jAll p A = (p, A)) (fun _ => rfl) (fun A q ih h => ?_) A
  rw [jAll_snoc, ih (fun x hx => h x (by simp [hx]))]
  exact if_neg (h q (by simp))
theorem put_end {L : List Pn} {h : Pn} (hA : ∀ x ∈ L, Ah x h) : putP L h = L ++ [h] := by
  unfold putP
  rw [List.filter_eq_self.2 (fun x hx => decide_eq_true (hA x hx)), List.filter_eq_nil_iff.2 (fun x hx => by simpa using (hA x hx).asym)]
theorem ses_fr {gap : Int} (l : List Rg) : ∀ p ∈ sesR gap l, ∃ r ∈ l, r.key = p.key ∧ r.tm = p.fr := by
  refine snoc_ind (P := fun l => ∀ p ∈ sesR gap l, ∃ r ∈ l, r.key = p.key ∧ r.tm = p.fr) (by simp [sesR]) (fun l r ih => ?_) l
  rw [sesR_snoc]
  intro p hp
  have new : p = seNew gap r → ∃ x ∈ l ++ [r], x.key = p.key ∧ x.tm = p.fr := fun e => by subst e; exact ⟨r, by simp, rfl, rfl⟩
  have old : p ∈ sesR gap l → ∃ x ∈ l ++ [r], x.key = p.key ∧ x.tm = p.fr := fun hp => by
    obtain ⟨x, hx, h1⟩ := ih p hp; exact ⟨x, by simp [hx], h1⟩
  generalize sesR gap l = L at *
  cases L with
  | nil => simp [seStep] at hp; exact new hp
  | cons q D =>
    by_cases h : q.key = r.key ∧ r.tm < q.to
    · rw [seStep_yes gap q D r h] at hp
      rcases List.mem_cons.1 hp with rfl | hp
      · obtain ⟨x, hx, h1⟩ := ih q (by simp); exact ⟨x, by simp [hx], h1⟩
      · exact old (by simp [hp])
    · rw [seStep_no gap q D r h] at hp
      rcases List.mem_cons.1 hp with rfl | hp
      · exact new rfl
      · exact old hp
theorem ds_srt {gap : Int} (hg : 1 ≤ gap) (hg2 : gap ≤ 1000000) (l : List Rg) : SrtR l → (∀ r ∈ l, 0 ≤ r.tm ∧ r.tm ≤ 1000000) → l.length ≤ 1000000 → (∀ r ∈ l, r.num = w64 r.num) → dsP gap l = sesP gap l := by
  refine snoc_ind (P := fun l => SrtR l → (∀ r ∈ l, 0 ≤ r.tm ∧ r.tm ≤ 1000000) → l.length ≤ 1000000 → (∀ r ∈ l, r.num = w64 r.num) → dsP gap l = sesP gap l) (fun _ _ _ _ => rfl) (fun l r ih hs hr hn hm => ?_) l
  have hs1 : SrtR l := (List.pairwise_append.1 hs).1
  have hlast : ∀ x ∈ l, ¬ AhR r x := fun x hx => (List.pairwise_append.1 hs).2.2 x hx r (by simp)
  simp only [List.length_append, List.length_cons, List.length_nil] at hn
  have hr1 : ∀ x ∈ l, 0 ≤ x.tm ∧ x.tm ≤ 1000000 := fun x hx => hr x (by simp [hx])
  have e0 := ih hs1 hr1 (by omega) (fun x hx => hm x (by simp [hx]))
  have e : dsP gap (l ++ [r]) = dsStep gap (dsP gap l) r := by unfold dsP; rw [List.foldl_append]; rfl
  rw [e, e0]
  obtain ⟨i1, i2⟩ := se_ok hg hg2 l hs1 hr1 (by omega)
  have i3 := ses_fr (gap := gap) l
  have hrn := hm r (by simp)
  obtain ⟨t0, t1⟩ := hr r (by simp)
  have hfr : ∀ p ∈ sesR gap l, p.key = r.key → p.fr ≤ r.tm := fun p hp hk => by
    obtain ⟨x, hx, x1, x2⟩ := i3 p hp
    have := hlast x hx
    unfold AhR AhK at this
    apply Int.not_lt.1
    intro h; exact this (.inr ⟨(x1.trans hk).symm, by omega⟩)
  have hto : ∀ p ∈ sesR gap l, p.key = r.key → p.to ≤ r.tm + gap := fun p hp hk => by
    obtain ⟨x, hx, x1, x2⟩ := i2 p hp
    have := hlast x hx
    unfold AhR AhK at this
    apply Int.not_lt.1
    intro h; exact this (.inr ⟨(x1.trans hk).symm, by omega⟩)
  have hkb : ∀ p ∈ sesR gap l, kb p.key < kb r.key ∨ p.key = r.key := fun p hp => by
    obtain ⟨x, hx, x1, x2⟩ := i2 p hp
    have h3 := hlast x hx
    rcases lt_tri (kb p.key) (kb r.key) with c | c | c
    · exact .inl c
    · exact .inr (kb_inj c)
    · exact absurd (.inl (by rw [x1]; exact c)) h3
  unfold sesP
  rw [sesR_snoc]
  generalize sesR gap l = L at *
  have hw := i1.wide
  have enew : rP gap r = seNew gap r := by
    unfold rP seNew
    rw [show w64 (0 + 1) = 1 from by decide, Int.zero_add, ← hrn]
  have hnew : (∀ q ∈ L, ¬ tch q (rP gap r)) → dsStep gap L.reverse r = (seNew gap r :: L).reverse := fun hno => by
    unfold dsStep
    rw [jAll_none _ _ (fun q hq => hno q (by simpa using hq)), List.reverse_cons]
    simp only
    rw [put_end (fun x hx => ?_), enew]
    have hx' : x ∈ L := by simpa using hx
    rcases hkb x hx' with c | c
    · exact .inl c
    · refine .inr ⟨c, ?_⟩
      show x.fr < r.tm
      have h1 := hfr x hx' c
      have h2 := hw x hx'
      have h3 := hno x hx'
      unfold tch at h3
      have h4 : ¬ (r.tm < x.to) := fun h => h3 ⟨c, by show x.fr < r.tm + gap; omega, h⟩
      omega
  cases L with
  | nil => exact hnew (by simp)
  | cons q D =>
    obtain ⟨a1, a2⟩ := List.pairwise_cons.1 i1.apart
    obtain ⟨o1, o2⟩ := List.pairwise_cons.1 i1.ord
    -- all behind the first one lie below it
    have hD : ∀ x ∈ D, x.key = r.key → q.key = r.key ∧ x.to ≤ q.fr := fun x hx hk => by
      rcases hkb q (by simp) with c | c
      · rw [← hk] at c; exact absurd c (o1 x hx)
      · exact ⟨c, a1 x hx (c.trans hk.symm)⟩
    have hDn : ∀ x ∈ D, ¬ tch x (rP gap r) := fun x hx ⟨k, h1, h2⟩ => by
      obtain ⟨c, c2⟩ := hD x hx k
      have := hfr q (by simp) c
      have h3 : r.tm < x.to := h2
      omega
    by_cases h : q.key = r.key ∧ r.tm < q.to
    · rw [seStep_yes gap q D r h]
      have ht : tch q (rP gap r) := ⟨h.1, by show q.fr < r.tm + gap; have := hfr q (by simp) h.1; omega, h.2⟩
      unfold dsStep
      rw [List.reverse_cons, jAll_snoc, jAll_none _ _ (fun x hx => hDn x (by simpa using hx))]
      have e1 : jStep (rP gap r, D.reverse) q = (joinP q (rP gap r), D.reverse) := if_pos ht
      rw [e1]
      simp only
      have e2 : joinP q (rP gap r) = seAdd gap q r := by
        have f1 := hfr q (by simp) h.1
        have f2 := hto q (by simp) h.1
        have f3 := i1.lt q (by simp)
        unfold joinP seAdd rP
        simp only
        rw [Int.min_eq_right f1, Int.max_eq_left f2, h.1, f3, Int.add_comm 1, Int.add_comm r.num]
      rw [e2, put_end (fun x hx => ?_), List.reverse_cons]
      have hx' : x ∈ D := by simpa using hx
      rcases hkb x (by simp [hx']) with c | c
      · left; show kb x.key < kb q.key; rw [h.1]; exact c
      · obtain ⟨c1, c2⟩ := hD x hx' c
        right
        refine ⟨c.trans c1.symm, ?_⟩
        show x.fr < q.fr
        have := hw x (by simp [hx']); omega
    · rw [seStep_no gap q D r h]
      refine hnew (fun x hx => ?_)
      rcases List.mem_cons.1 hx with rfl | hx
      · rintro ⟨k, -, h2⟩; exact h ⟨k, h2⟩
      · exact hDn x hx
theorem ds_ses {gap : Int} (hg : 1 ≤ gap) (hg2 : gap ≤ 1000000) {l ys : List Rg} (hp : ys.Perm l) (hs : SrtR ys) (hr : ∀ r ∈ l, 0 ≤ r.tm ∧ r.tm ≤ 1000000) (hn : l.length ≤ 1000000) (hm : ∀ r ∈ l, r.num = w64 r.num) : dsP gap l = sesP gap ys := by
  have hr2 : ∀ r ∈ ys, 0 ≤ r.tm ∧ r.tm ≤ 1000000 := fun r h => hr r (hp.mem_iff.1 h)
  have hm2 : ∀ r ∈ ys, r.num = w64 r.num := fun r h => hm r (hp.mem_iff.1 h)
  rw [← ds_srt hg hg2 ys hs hr2 (by rw [hp.length_eq]; exact hn) hm2]
  exact se_uniq hg (ds_is hg l hm) ((ds_is hg ys hm2).perm hp)
theorem jAll_len (p : Pn) (L : List Pn) : (jAll p L).2.length ≤ L.length := by
  refine snoc_ind (P := fun L => (jAll p L).2.length ≤ L.length) (by simp [jAll]) (fun L q ih => ?_) L
  rw [jAll_snoc]
  unfold jStep
  split
  · simp only [List.length_append, List.length_cons, List.length_nil]; omega
  · simp only [List.length_append, List.length_cons, List.length_nil]; omega
theorem jAll_ris (p : Pn) {L : List Pn} (h : RisH L) : RisH (jAll p L).2 := by
  have : (jAll p L).2.Sublist L := by
    refine snoc_ind (P := fun L => (jAll p L).2.Sublist L) (by simp [jAll]) (fun L q ih => ?_) L
    rw [jAll_snoc]
    unfold jStep
    split
    · exact ih.trans (List.sublist_append_left _ _)
    · exact ih.append (List.Sublist.refl _)
  exact List.Pairwise.sublist this h
theorem dsP_ris (gap : Int) (l : List Rg) : RisH (dsP gap l) := by
  refine snoc_ind (P := fun l => RisH (dsP gap l)) List.Pairwise.nil (fun l r ih => ?_) l
  have e : dsP gap (l ++ [r]) = dsStep gap (dsP gap l) r := by unfold dsP; rw [List.foldl_append]; rfl
  rw [e]
  exact putP_ris (jAll_ris _ ih) _
theorem dsP_len (gap : Int) (l : List Rg) : (dsP gap l).length ≤ l.length := by
  refine snoc_ind (P := fun l => (dsP gap l).length ≤ l.length) (by simp [dsP]) (fun l r ih => ?_) l
  have e : dsP gap (l ++ [r]) = dsStep gap (dsP gap l) r := by unfold dsP; rw [List.foldl_append]; rfl
  rw [e]
  unfold dsStep
  have h1 := jAll_len (rP gap r) (dsP gap l)
  rw [putP_len (jAll_ris _ (dsP_ris gap l))]
  simp only [List.length_append, List.length_cons, List.length_nil]
  split <;> omega
end Go.Proofs.YtfpfaekbakilpaaDoor
