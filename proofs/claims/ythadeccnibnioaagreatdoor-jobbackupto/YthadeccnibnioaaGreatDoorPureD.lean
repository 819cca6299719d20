/- Expressions put together in brackets: what the whole says where it is right. -/
import Derived.Test.YthadeccnibnioaaGreatDoorHs
namespace Go.Proofs.YthadeccnibnioaaGreatDoor

theorem pr_sg {d : Nat} {u v : List UInt8} {t : Tm} (h : prP d u = .ok t v) : ∃ t' v', sgP d u = .ok t' v' := by
  unfold prP rowF at h
  split at h
  · cases h
  · rename_i t' v' h'; exact ⟨t', v', h'⟩
theorem sm_pr {d : Nat} {u v : List UInt8} {t : Tm} (h : smP d u = .ok t v) : ∃ t' v', prP d u = .ok t' v' := by
  unfold smP rowF at h
  split at h
  · cases h
  · rename_i t' v' h'; exact ⟨t', v', h'⟩
theorem cp_sm {d : Nat} {u v : List UInt8} {t : Tm} (h : cpP d u = .ok t v) : ∃ t' v', smP d u = .ok t' v' := by
  unfold cpP cmpF at h
  split at h
  · cases h
  · rename_i t' v' h'; exact ⟨t', v', h'⟩
theorem ch_cp {d : Nat} {u v : List UInt8} {t : Tm} (h : chP d u = .ok t v) : ∃ t' v', cpP d u = .ok t' v' := by
  rw [chP_eq] at h
  unfold choF at h
  split at h
  · cases h
  · rename_i t' v' h'; exact ⟨t', v', h'⟩
theorem ch_sg {d : Nat} {u v : List UInt8} {t : Tm} (h : chP d u = .ok t v) : ∃ t' v', sgP d u = .ok t' v' := by
  obtain ⟨_, _, h1⟩ := ch_cp h
  obtain ⟨_, _, h2⟩ := cp_sm h1
  obtain ⟨_, _, h3⟩ := sm_pr h2
  exact pr_sg h3

theorem stop41 (r : List UInt8) : Stop 0 (41 :: r) := Stop.cons (by simp [stp, isDg])
theorem stop44 (r : List UInt8) : Stop 0 (44 :: r) := Stop.cons (by simp [stp, isDg])
theorem stop58 (r : List UInt8) : Stop 0 (58 :: r) := Stop.cons (by simp [stp, isDg])
theorem stop_nil (l : Nat) : Stop l [] := by intro c hc; simp at hc

theorem stop_head {v : List UInt8} {c : UInt8} (h : v.head? = some c) (hc : ∀ r, Stop 0 (c :: r)) : Stop 0 v := by
  rw [head_cons h]; exact hc _

theorem brk_inv {d : Nat} {a r v : List UInt8} {ta t : Tm} (ha : Gr d 0 a ta) (h : sgP d (40 :: (a ++ 41 :: r)) = .ok t v) : t = ta ∧ v = r ∧ ∃ e, d = e + 1 ∧ Gr e 0 a ta := by
  rw [sgP_eq] at h
  have e : signF (inCh d) (inSg d) (40 :: (a ++ 41 :: r)) = brkF (inCh d) (40 :: (a ++ 41 :: r)).length (a ++ 41 :: r) := rfl
  rw [e] at h
  unfold brkF at h
  cases d with
  | zero => simp [inCh] at h
  | succ d =>
    rw [inCh_succ] at h
    split at h
    · cases h
    · rename_i t' w hw
      split at h
      · rename_i hh
        cases h
        obtain ⟨e1, e2, e3⟩ := inner_eq ha (stop41 r) (stop_head hh stop41) hw
        subst e1 e2
        exact ⟨rfl, by simp, d, rfl, e3⟩
      · cases h

theorem gr_brk {e : Nat} {a : List UInt8} {ta : Tm} (ha : Gr e 0 a ta) (l : Nat) (hl : l ≤ 5) : Gr (e + 1) l (40 :: (a ++ [41])) ta := (Gr.brk ha).down l hl (by omega)

theorem first_brk {d : Nat} {a r : List UInt8} {ta t : Tm} {v : List UInt8} (ha : Gr d 0 a ta) (h : chP d (40 :: (a ++ 41 :: r)) = .ok t v) : ∃ e, d = e + 1 ∧ Gr e 0 a ta := by
  obtain ⟨_, _, h1⟩ := ch_sg h
  exact (brk_inv ha h1).2.2

theorem join_mul {d : Nat} {a b r v : List UInt8} {ta tb t : Tm} {op : UInt8} (ho : op ∈ [42, 47, 37]) (ha : Gr d 0 a ta) (hb : Gr d 0 b tb)
    (h : chP d (40 :: (a ++ 41 :: op :: 40 :: (b ++ 41 :: r))) = .ok t v) : ∃ e, d = e + 1 ∧ Gr e 0 a ta ∧ Gr e 0 b tb := by
  obtain ⟨e, rfl, hae⟩ := first_brk ha h
  obtain ⟨_, _, h1⟩ := ch_cp h
  obtain ⟨_, _, h2⟩ := cp_sm h1
  obtain ⟨_, _, h3⟩ := sm_pr h2
  have hs : Stop 4 (op :: 40 :: (b ++ 41 :: r)) := Stop.cons (by simp at ho; rcases ho with rfl | rfl | rfl <;> simp [stp, isDg])
  have := cpl (gr_brk hae 3 (by omega)) _ hs
  simp only [List.cons_append, List.append_assoc, List.nil_append] at this
  rw [this] at h3
  unfold loopF at h3
  rw [opAt_cons ho] at h3
  simp only [List.length_cons, List.drop_succ_cons, List.drop_zero] at h3
  split at h3
  · cases h3
  · rename_i t' v' hv
    obtain ⟨_, _, e', he, hbe⟩ := brk_inv hb hv
    have : e' = e := by omega
    exact ⟨e, rfl, hae, this ▸ hbe⟩

theorem join_add {d : Nat} {a b r v : List UInt8} {ta tb t : Tm} {op : UInt8} (ho : op ∈ [43, 45]) (ha : Gr d 0 a ta) (hb : Gr d 0 b tb)
    (h : chP d (40 :: (a ++ 41 :: op :: 40 :: (b ++ 41 :: r))) = .ok t v) : ∃ e, d = e + 1 ∧ Gr e 0 a ta ∧ Gr e 0 b tb := by
  obtain ⟨e, rfl, hae⟩ := first_brk ha h
  obtain ⟨_, _, h1⟩ := ch_cp h
  obtain ⟨_, _, h2⟩ := cp_sm h1
  have hs : Stop 3 (op :: 40 :: (b ++ 41 :: r)) := Stop.cons (by simp at ho; rcases ho with rfl | rfl <;> simp [stp, isDg])
  have := cpl (gr_brk hae 2 (by omega)) _ hs
  simp only [List.cons_append, List.append_assoc, List.nil_append] at this
  rw [this] at h2
  unfold loopF at h2
  rw [opAt_cons ho] at h2
  simp only [List.length_cons, List.drop_succ_cons, List.drop_zero] at h2
  split at h2
  · cases h2
  · rename_i t' v' hv
    obtain ⟨_, _, h3⟩ := pr_sg hv
    obtain ⟨_, _, e', he, hbe⟩ := brk_inv hb h3
    have : e' = e := by omega
    exact ⟨e, rfl, hae, this ▸ hbe⟩

theorem join_cmp {d : Nat} {a b r v : List UInt8} {ta tb t : Tm} {op : UInt8} (ho : op ∈ [61, 60, 62]) (ha : Gr d 0 a ta) (hb : Gr d 0 b tb)
    (h : chP d (40 :: (a ++ 41 :: op :: 40 :: (b ++ 41 :: r))) = .ok t v) : ∃ e, d = e + 1 ∧ Gr e 0 a ta ∧ Gr e 0 b tb := by
  obtain ⟨e, rfl, hae⟩ := first_brk ha h
  obtain ⟨_, _, h1⟩ := ch_cp h
  have hs : Stop 2 (op :: 40 :: (b ++ 41 :: r)) := Stop.cons (by simp at ho; rcases ho with rfl | rfl | rfl <;> simp [stp, isDg])
  have := cpl (gr_brk hae 2 (by omega)) _ (hs.mono (by omega))
  rw [loop_stop (stop2_add hs (by omega))] at this
  simp only [List.cons_append, List.append_assoc, List.nil_append] at this
  unfold cpP cmpF at h1
  rw [this] at h1
  simp only [opAt_cons ho, List.drop_succ_cons, List.drop_zero] at h1
  split at h1
  · cases h1
  · rename_i t' v' hv
    obtain ⟨_, _, h2⟩ := sm_pr hv
    obtain ⟨_, _, h3⟩ := pr_sg h2
    obtain ⟨_, _, e', he, hbe⟩ := brk_inv hb h3
    have : e' = e := by omega
    exact ⟨e, rfl, hae, this ▸ hbe⟩

theorem join_cond {d : Nat} {a b c r v : List UInt8} {ta tb tc t : Tm} (ha : Gr (d + 2) 0 a ta) (hb : Gr (d + 1) 0 b tb) (hc : Gr (d + 1) 0 c tc)
    (h : chP (d + 2) (40 :: (a ++ 41 :: 63 :: 40 :: (b ++ 41 :: 58 :: 40 :: (c ++ 41 :: r)))) = .ok t v) : Gr (d + 1) 0 a ta ∧ Gr d 0 b tb ∧ Gr d 0 c tc := by
  obtain ⟨e, he, hae⟩ := first_brk ha h
  have he' : e = d + 1 := by omega
  subst he'
  rw [chP_eq] at h
  unfold choF at h
  have h1 := cpl (gr_brk hae 1 (by omega)) (63 :: 40 :: (b ++ 41 :: 58 :: 40 :: (c ++ 41 :: r))) (Stop.cons (by simp [stp, isDg]))
  simp only [List.cons_append, List.append_assoc, List.nil_append] at h1
  rw [h1] at h
  simp only [List.head?_cons, if_true, List.drop_succ_cons, List.drop_zero, inCh_succ] at h
  split at h
  · cases h
  · rename_i t2 v2 hv2
    obtain ⟨e2, he2, hbe⟩ := first_brk hb hv2
    have he2' : e2 = d := by omega
    subst he2'
    have h2 := cpl0 (gr_brk hbe 0 (by omega)) (58 :: 40 :: (c ++ 41 :: r)) (stop58 _)
    simp only [List.cons_append, List.append_assoc, List.nil_append] at h2
    rw [h2] at hv2
    cases hv2
    simp only [List.head?_cons, if_true, List.drop_succ_cons, List.drop_zero] at h
    split at h
    · cases h
    · rename_i t3 v3 hv3
      obtain ⟨e3, he3, hce⟩ := first_brk hc hv3
      have he3' : e3 = e2 := by omega
      exact ⟨hae, hbe, he3' ▸ hce⟩

theorem join_pair {d : Nat} {x y z : UInt8} (op : UInt8) {a b r v : List UInt8} {ta tb t : Tm} (hx : [x, y, z] = [109, 105, 110] ∧ op = 109 ∨ [x, y, z] = [109, 97, 120] ∧ op = 77) (ha : Gr (d + 1) 0 a ta) (hb : Gr (d + 1) 0 b tb)
    (h : chP (d + 1) (x :: y :: z :: 40 :: (a ++ 44 :: (b ++ 41 :: r))) = .ok t v) : Gr d 0 a ta ∧ Gr d 0 b tb := by
  obtain ⟨t1, v1, h1⟩ := ch_sg h
  rw [sgP_eq] at h1
  have h2 : pairF (inCh (d + 1)) op (x :: y :: z :: 40 :: (a ++ 44 :: (b ++ 41 :: r))).length (a ++ 44 :: (b ++ 41 :: r)) = .ok t1 v1 := by
    rcases hx with ⟨hx, rfl⟩ | ⟨hx, rfl⟩ <;> (simp at hx; obtain ⟨rfl, rfl, rfl⟩ := hx; rw [← h1]; simp [signF, singleF])
  unfold pairF at h2
  simp only [inCh_succ] at h2
  split at h2
  · cases h2
  · rename_i t3 v3 h3
    split at h2
    · rename_i hh
      obtain ⟨e1, e2, e3⟩ := inner_eq ha (stop44 _) (stop_head hh stop44) h3
      subst e1 e2
      split at h2
      · cases h2
      · rename_i t4 v4 h4
        split at h2
        · rename_i hh4
          simp only [List.drop_succ_cons, List.drop_zero] at h4
          obtain ⟨f1, f2, f3⟩ := inner_eq hb (stop41 _) (stop_head hh4 stop41) h4
          exact ⟨e3, f3⟩
        · cases h2
    · cases h2

theorem read_ch {l : List UInt8} {t : Tm} {v : List UInt8} (h : readP l = .ok t v) : chP 20 l = .ok t [] ∧ l.length ≤ 120 := by
  obtain ⟨h1, _, h3⟩ := read_ok h
  have := cpl0 h3 [] (stop_nil 0)
  simp at this
  exact ⟨this, h1⟩

end Go.Proofs.YthadeccnibnioaaGreatDoor
