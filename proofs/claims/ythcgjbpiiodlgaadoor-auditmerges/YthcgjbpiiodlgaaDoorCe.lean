/- The document's Merge. -/
import Derived.Test.YthcgjbpiiodlgaaDoorCd
namespace Go.Proofs.YthcgjbpiiodlgaaDoor
open Go.RowKit Mp Dn
set_option linter.unusedVariables false

theorem lno_lines {w : World} {base n : Nat} {A : Option Addr} {c : Nat} {tv : List (ByteArray × Value)} {ls : List Ln} (h : LnO w base (.slice A n c) tv ls) (hk : ∀ l ∈ ls, l.1.size ≤ 9223372036854775807) : LnsAt w A ls := by
  cases hl : ls with
  | nil => exact .inl rfl
  | cons l0 r =>
    obtain ⟨g, o, _, _, _, rfl, _⟩ := h.at (p := 0) (by rw [hl]; simp)
    rw [← hl]
    refine .inr ⟨g, o, rfl, fun i hi => ?_⟩
    obtain ⟨g', o', An, cn, cur, e, -, q0, q1, hp', -, q2⟩ := h.at (p := i) hi
    injection e with e
    injection e with e1 e2 _
    subst e1; subst e2
    obtain ⟨_, _, e, h1, h2⟩ := q2.slice
    injection e with _ _ e
    unfold maxLen at h2
    exact ⟨q0, ⟨An, cn, q1, cs_ints q2.cells, by omega, by omega⟩, hk _ (List.getElem_mem hi)⟩
noncomputable def dmE (a b : List Ln) : Nat := if linesE (mergeP a b) = 0 then 0 else 4
noncomputable def dmV (a b : List Ln) : List Ln := if linesE (mergeP a b) = 0 then mergeP a b else []
set_option maxRecDepth 100000 in
set_option maxHeartbeats 4000000 in
theorem dmerge_any (w : World) (la lb : Option Addr) (c d n m : Nat) (a b : List Ln) (ha : LnsAt w la a) (hb : LnsAt w lb b) (hn : n = a.length) (hm : m = b.length) (hA : LOk a) (hB : LOk b) :
    Calls Tryd.prog 10 #[.slice la n c, .slice lb m d] w fun e w' => ∃ A cc, e = .returned (.tuple #[.slice A (dmV a b).length cc, .int .i64 (dmE a b : Nat)]) ∧ LnsAt w' A (dmV a b) ∧ Below w.heap.size w w' := by
  have HAa := Lib.hid ha
  have HAb := Lib.hid hb
  have HNa := Lib.hid hn
  have HNb := Lib.hid hm
  have Oa := Lib.hid hA
  have Ob := Lib.hid hB
  have hn4 : n ≤ 400 := by rw [hn]; exact hA.len
  have hm4 : m ≤ 400 := by rw [hm]; exact hB.len
  have HLA : Hid ((recsL a).length ≤ 160000) := by show _ ≤ _; rw [recsL_len]; exact many_bd hA
  have HLB : Hid ((recsL b).length ≤ 160000) := by show _ ≤ _; rw [recsL_len]; exact many_bd hB
  have HMG : Hid (docLines (recsL a ++ recsL b) = mergeP a b) := by
    show _ = _
    rw [doc_lines]; exact lines_merge hA.ris hB.ris (fun l hl => (hA.one l hl).1) (fun l hl => (hB.one l hl).1)
  have HKS : Hid (∀ l ∈ mergeP a b, l.1.size ≤ 9223372036854775807) := fun l hl => by
    rcases mem_mergeP _ _ _ hl with ⟨x, hx, e⟩ | ⟨x, hx, e⟩
    · rw [← e]; exact key_size ha x hx
    · rw [← e]; exact key_size hb x hx
  have HFO := Lib.hid (lines_four (ris_mergeP a b hA.ris hB.ris) (merge_ne a b (fun l hl => (hA.one l hl).1) (fun l hl => (hB.one l hl).1)))
  have HS0 : Hid (RrM w w (.slice none 0 0) (recsL (a.take 0))) := RrM.nil w
  clear ha hb hn hm hA hB
  go_enter Tryd.func10, Tryd.ntmps10
  go_upto_block 0 with fail
  go_cut [6] (fun v wc => Hid (RrM w wc v (recsL a)))
  case first =>
    go_wp2_with fail
    go_loopw [6, 7, 8] (fun vv vi _ wr => ∃ i : Nat, vi = .int .i64 (i : Int) ∧ i ≤ n ∧ Hid (RrM w wr vv (recsL (a.take i)))) (fun _ vi _ _ => n - (intOf vi).toNat)
    case atStart => exact ⟨0, rfl, by omega, HS0⟩
    case round =>
      obtain ⟨i, rfl, hi, hX⟩ := hrel
      rename World => wr
      by_cases hlt : i < n
      · have hii : (i : Int) < (n : Int) := by omega
        have i1 : i < a.length := by have := HNa.out; omega
        obtain ⟨b1, o1, fa, fc, rfl, c0, c1, hIa, j5, j6, j7⟩ := ln_at HAa.out i i1
        have hsn := recsL_snoc a i i1
        have hlen : (recsL (a.take i)).length ≤ 400000 := by
          have h1 := many_le a i (by omega) (fun l hl => (Oa.out.one l hl).2)
          rw [recsL_len]; omega
        obtain ⟨p, hp⟩ : ∃ p, a[i].2.length = p := ⟨_, rfl⟩
        obtain ⟨z, hz⟩ : ∃ z, a[i].2 = z := ⟨_, rfl⟩
        obtain ⟨key, hkey⟩ : ∃ key, a[i].1 = key := ⟨_, rfl⟩
        have hp4 : p ≤ 400 := by rw [← hp]; exact (Oa.out.one _ (List.getElem_mem i1)).2
        have hzp : z.length = p := by rw [← hz, hp]
        rw [hp] at c1 j5
        rw [hz, hkey] at hsn
        rw [hz] at hIa
        rw [hkey] at c0 j7
        obtain ⟨P, hP⟩ : ∃ P, P = recsL (a.take i) := ⟨_, rfl⟩
        have HNX : Hid (recsL (a.take (i + 1)) = P ++ recK key z) := by
          show _ = _
          rw [hP, hsn]
        rw [← hP] at hX hlen
        have HI := Lib.hid hIa
        have HZP := Lib.hid hzp
        have H00 : Hid (RrM w wr u6 (P ++ recK key (z.take 0))) := by
          show RrM _ _ _ _
          simpa [recK] using hX.out
        have HC : Hid (∀ u, Below w.heap.size w u → u.cell? ⟨b1, o1 + i * 2, none⟩ = some (.string key) ∧ u.cell? ⟨b1, o1 + i * 2 + 1, none⟩ = some (.slice fa p fc)) := fun u hu => ⟨Keeps.of hu _ _ c0, Keeps.of hu _ _ c1⟩
        clear hp hz hkey hsn hP hIa hzp hX
        go_wp2_with fail
        go_loopw [6, 8] (fun vv vk wk => ∃ k : Nat, vk = .int .i64 (k : Int) ∧ k ≤ p ∧ Hid (RrM w wk vv (P ++ recK key (z.take k)))) (fun _ vk _ => p - (intOf vk).toNat)
        case atStart => exact ⟨0, rfl, by omega, H00⟩
        case round =>
          obtain ⟨k, rfl, hk, hY⟩ := hrel
          rename World => wk
          obtain ⟨d0, d1⟩ := HC.out wk hY.out.2.2
          by_cases hlk : k < p
          · have hkk : (k : Int) < (p : Int) := by omega
            have k1 : k < z.length := by have := HZP.out; omega
            obtain ⟨b2, o2, rfl, e0⟩ := ints_at HI.out k k1
            have e1 := Keeps.of hY.out.2.2 _ _ e0
            obtain ⟨v9, w9, hrun, hR9⟩ := hY.out.put ((Below.refl _ _).drew) key z[k] (by rw [List.length_append]; simp [recK]; omega)
            rw [List.append_assoc, ← recK_snoc key z k k1] at hR9
            have HRUN : Hid ((Builtin.append_ #[53, 53] 53 #[u6, .slice (some ⟨wk.heap.size, 0, none⟩) 1 1]).run Tryd.prog ((wk.alloc (.cells #[.string key, .int .i64 z[k], .int .i64 0] 55)).drew) = .ok v9 w9) := hrun
            have HR9 := Lib.hid hR9
            obtain ⟨f0, f1⟩ := HC.out w9 hR9.2.2
            have HF := Lib.hid (And.intro f0 (And.intro f1 (Keeps.of hR9.2.2 _ _ e0)))
            clear hrun hR9 hY f0 f1 e0 H00 HNX
            generalize z[k] = x at *
            go_wp2_with fail
            go_region_held3 (fun u => u.cell? ⟨b1, o1 + i * 2, none⟩ = some (.string key) ∧ u.cell? ⟨b1, o1 + i * 2 + 1, none⟩ = some (.slice (some ⟨b2, o2, none⟩) p fc) ∧ u.cell? ⟨b2, o2 + k, none⟩ = some (.int .i64 x)) (first | go_keep | exact HF.out) (refine Dn.step_append_runD (by rfl) _ _ 53 (by rfl) 53 (by rfl) u6 (.slice (some ⟨wk.heap.size, 0, none⟩) 1 1) v9 ((wk.alloc (.cells #[.string key, .int .i64 x, .int .i64 0] 55)).drew) w9 (by rfl) (by rfl) (by rfl) HRUN.out ?_)
            all_goals
              go_wp2_with fail
              exact ⟨⟨k + 1, by go_num, by omega, HR9⟩, by simp [intOf]; omega⟩
          · have hkk : ¬ (k : Int) < (p : Int) := by omega
            have hY2 := hY.out
            rw [List.take_of_length_le (by have := HZP.out; omega), ← HNX.out] at hY2
            have HYY := Lib.hid hY2
            clear hY hY2 H00 HNX
            go_wp2_with fail
            exact ⟨⟨i + 1, by go_num, by omega, HYY⟩, by simp [intOf]; omega⟩
      · have hii : ¬ (i : Int) < (n : Int) := by omega
        have hX2 := hX.out
        rw [List.take_of_length_le (show a.length ≤ i by have := HNa.out; omega)] at hX2
        have HXX := Lib.hid hX2
        clear hX hX2
        go_wp2_with fail
        go_meet
        exact HXX.out
  case rest =>
  rename World => wa
  have HS1 : Hid (RrM w wa u6 (recsL a ++ recsL (b.take 0))) := by
    show RrM _ _ _ _
    have := hcut.out
    simpa [recsL] using this
  clear hcut HS0
  go_upto_block 4 with fail
  go_cut [6] (fun v wc => Hid (RrM w wc v (recsL a ++ recsL b)))
  case first =>
    go_wp2_with fail
    go_loopw [6, 9, 10] (fun vv vi _ wr => ∃ i : Nat, vi = .int .i64 (i : Int) ∧ i ≤ m ∧ Hid (RrM w wr vv (recsL a ++ recsL (b.take i)))) (fun _ vi _ _ => m - (intOf vi).toNat)
    case atStart => exact ⟨0, rfl, by omega, HS1⟩
    case round =>
      obtain ⟨i, rfl, hi, hX⟩ := hrel
      rename World => wr
      by_cases hlt : i < m
      · have hii : (i : Int) < (m : Int) := by omega
        have i1 : i < b.length := by have := HNb.out; omega
        obtain ⟨b1, o1, fa, fc, rfl, c0, c1, hIa, j5, j6, j7⟩ := ln_at HAb.out i i1
        have hsn := recsL_snoc b i i1
        have hlen : (recsL a ++ recsL (b.take i)).length ≤ 400000 := by
          have h1 := many_le b i (by omega) (fun l hl => (Ob.out.one l hl).2)
          have h2 := HLA.out
          rw [List.length_append, recsL_len (b.take i)]; omega
        obtain ⟨p, hp⟩ : ∃ p, b[i].2.length = p := ⟨_, rfl⟩
        obtain ⟨z, hz⟩ : ∃ z, b[i].2 = z := ⟨_, rfl⟩
        obtain ⟨key, hkey⟩ : ∃ key, b[i].1 = key := ⟨_, rfl⟩
        have hp4 : p ≤ 400 := by rw [← hp]; exact (Ob.out.one _ (List.getElem_mem i1)).2
        have hzp : z.length = p := by rw [← hz, hp]
        rw [hp] at c1 j5
        rw [hz, hkey] at hsn
        rw [hz] at hIa
        rw [hkey] at c0 j7
        obtain ⟨P, hP⟩ : ∃ P, P = recsL a ++ recsL (b.take i) := ⟨_, rfl⟩
        have HNX : Hid (recsL a ++ recsL (b.take (i + 1)) = P ++ recK key z) := by
          show _ = _
          rw [hP, hsn]
          rw [← List.append_assoc]
        rw [← hP] at hX hlen
        have HI := Lib.hid hIa
        have HZP := Lib.hid hzp
        have H00 : Hid (RrM w wr u6 (P ++ recK key (z.take 0))) := by
          show RrM _ _ _ _
          simpa [recK] using hX.out
        have HC : Hid (∀ u, Below w.heap.size w u → u.cell? ⟨b1, o1 + i * 2, none⟩ = some (.string key) ∧ u.cell? ⟨b1, o1 + i * 2 + 1, none⟩ = some (.slice fa p fc)) := fun u hu => ⟨Keeps.of hu _ _ c0, Keeps.of hu _ _ c1⟩
        clear hp hz hkey hsn hP hIa hzp hX
        go_wp2_with fail
        go_loopw [6, 10] (fun vv vk wk => ∃ k : Nat, vk = .int .i64 (k : Int) ∧ k ≤ p ∧ Hid (RrM w wk vv (P ++ recK key (z.take k)))) (fun _ vk _ => p - (intOf vk).toNat)
        case atStart => exact ⟨0, rfl, by omega, H00⟩
        case round =>
          obtain ⟨k, rfl, hk, hY⟩ := hrel
          rename World => wk
          obtain ⟨d0, d1⟩ := HC.out wk hY.out.2.2
          by_cases hlk : k < p
          · have hkk : (k : Int) < (p : Int) := by omega
            have k1 : k < z.length := by have := HZP.out; omega
            obtain ⟨b2, o2, rfl, e0⟩ := ints_at HI.out k k1
            have e1 := Keeps.of hY.out.2.2 _ _ e0
            obtain ⟨v9, w9, hrun, hR9⟩ := hY.out.put ((Below.refl _ _).drew) key z[k] (by rw [List.length_append]; simp [recK]; omega)
            rw [List.append_assoc, ← recK_snoc key z k k1] at hR9
            have HRUN : Hid ((Builtin.append_ #[53, 53] 53 #[u6, .slice (some ⟨wk.heap.size, 0, none⟩) 1 1]).run Tryd.prog ((wk.alloc (.cells #[.string key, .int .i64 z[k], .int .i64 0] 55)).drew) = .ok v9 w9) := hrun
            have HR9 := Lib.hid hR9
            obtain ⟨f0, f1⟩ := HC.out w9 hR9.2.2
            have HF := Lib.hid (And.intro f0 (And.intro f1 (Keeps.of hR9.2.2 _ _ e0)))
            clear hrun hR9 hY f0 f1 e0 H00 HNX
            generalize z[k] = x at *
            go_wp2_with fail
            go_region_held3 (fun u => u.cell? ⟨b1, o1 + i * 2, none⟩ = some (.string key) ∧ u.cell? ⟨b1, o1 + i * 2 + 1, none⟩ = some (.slice (some ⟨b2, o2, none⟩) p fc) ∧ u.cell? ⟨b2, o2 + k, none⟩ = some (.int .i64 x)) (first | go_keep | exact HF.out) (refine Dn.step_append_runD (by rfl) _ _ 53 (by rfl) 53 (by rfl) u6 (.slice (some ⟨wk.heap.size, 0, none⟩) 1 1) v9 ((wk.alloc (.cells #[.string key, .int .i64 x, .int .i64 0] 55)).drew) w9 (by rfl) (by rfl) (by rfl) HRUN.out ?_)
            all_goals
              go_wp2_with fail
              exact ⟨⟨k + 1, by go_num, by omega, HR9⟩, by simp [intOf]; omega⟩
          · have hkk : ¬ (k : Int) < (p : Int) := by omega
            have hY2 := hY.out
            rw [List.take_of_length_le (by have := HZP.out; omega), ← HNX.out] at hY2
            have HYY := Lib.hid hY2
            clear hY hY2 H00 HNX
            go_wp2_with fail
            exact ⟨⟨i + 1, by go_num, by omega, HYY⟩, by simp [intOf]; omega⟩
      · have hii : ¬ (i : Int) < (m : Int) := by omega
        have hX2 := hX.out
        rw [List.take_of_length_le (show b.length ≤ i by have := HNb.out; omega)] at hX2
        have HXX := Lib.hid hX2
        clear hX hX2
        go_wp2_with fail
        go_meet
        exact HXX.out
  case rest =>
  rename World => wb
  obtain ⟨A1, c1, hv, hrc⟩ := hcut.out.slice
  have B1 := Lib.hid hcut.out.2.2
  obtain ⟨N, hN⟩ : ∃ N, (recsL a ++ recsL b).length = N := ⟨_, rfl⟩
  have hdl := Dn.dlines_any (c := c1) hrc (by rw [List.length_append]; have h1 := HLA.out; have h2 := HLB.out; omega)
  rw [HMG.out, hN] at hdl
  rw [hN] at hv
  subst hv
  have HDL := Lib.hid hdl
  clear hcut hrc hdl HS1 hN
  go_wp2_with fail
  refine HDL.out.mono ?_
  rintro e w2 ⟨A2, c2, tv, rfl, hln, b2⟩
  have hLn := lno_lines hln HKS.out
  have HLn := Lib.hid hLn
  have B2 := Lib.hid (below_after b2 B1.out)
  have HCK := Lib.hid (dcheck_any w2 A2 c2 (mergeP a b).length (mergeP a b) hLn rfl)
  clear hln hLn HDL b2
  obtain ⟨M, hM⟩ : ∃ M, mergeP a b = M := ⟨_, rfl⟩
  have HE0 : Hid (linesE M = 0 → dmE a b = 0 ∧ dmV a b = M) := fun e => by unfold dmE dmV; rw [hM, if_pos e, if_pos e]; exact ⟨rfl, rfl⟩
  have HE4 : Hid (¬ linesE M = 0 → dmE a b = 4 ∧ dmV a b = []) := fun e => by unfold dmE dmV; rw [hM, if_neg e, if_neg e]; exact ⟨rfl, rfl⟩
  rw [hM] at HLn HCK HFO ⊢
  clear hM HMG HKS
  obtain ⟨t, ht⟩ : ∃ t, t = M.length := ⟨_, rfl⟩
  rw [← ht] at HCK ⊢
  have HT := Lib.hid ht
  clear ht
  by_cases h0 : linesE M = 0
  · obtain ⟨e1, e2⟩ := HE0.out h0
    rw [h0] at HCK
    have HE := Lib.hid (And.intro e1 e2)
    clear e1 e2 h0 HFO HE0 HE4
    go_wp2_with fail
    refine HCK.out.mono ?_
    rintro e w3 ⟨rfl, q, rfl⟩
    have B3 := Lib.hid (below_drewN B2.out q)
    have HL3 : Hid (LnsAt (w2.drewN q) A2 M) := lns_b HLn.out (below_dr w2 q)
    clear HCK HLn
    generalize w2.drewN q = w3 at *
    go_wp2_with fail
    go_ret2
    obtain ⟨e1, e2⟩ := HE.out
    exact ⟨A2, c2, by rw [e1, e2, ← HT.out]; rfl, by rw [e2]; exact HL3.out, B3.out⟩
  · have h4 : linesE M = 4 := by
      rcases HFO.out with h | h
      · exact absurd h h0
      · exact h
    obtain ⟨e1, e2⟩ := HE4.out h0
    rw [h4] at HCK
    have HE := Lib.hid (And.intro e1 e2)
    clear e1 e2 h0 h4 HFO HE0 HE4
    go_wp2_with fail
    refine HCK.out.mono ?_
    rintro e w3 ⟨rfl, q, rfl⟩
    have B3 := Lib.hid (below_drewN B2.out q)
    clear HCK HLn
    generalize w2.drewN q = w3 at *
    go_wp2_with fail
    go_ret2
    obtain ⟨e1, e2⟩ := HE.out
    exact ⟨none, 0, by rw [e1, e2]; rfl, by rw [e2]; exact .inl rfl, B3.out⟩
end Go.Proofs.YthcgjbpiiodlgaaDoor
