/- SinkTwice's walk. -/
import Derived.Test.YtaicaeokljdjdaaXe
namespace Go.Proofs.Ytaicaeokljdjdaa
open Go.ChangeShapes Go.WideShapes Go.RowKit
set_option linter.unusedVariables false
def cs (l : List Int) (k : Nat) : List Nat := (l.take k).map Int.toNat
theorem cs_len (l : List Int) (k : Nat) (h : k ≤ l.length) : (cs l k).length = k := by simp [cs]; omega
theorem cs_succ (l : List Int) (k : Nat) (h : k < l.length) : cs l (k + 1) = cs l k ++ [l[k].toNat] := by unfold cs; rw [List.take_succ_eq_append_getElem h, List.map_append]; rfl
def stS (c : List Nat) (m : Nat) : Sk Rg := ⟨[], trsF rN 0 c, List.replicate m (rN c.length), c.length⟩
theorem st_add (c : List Nat) (m : Nat) : addS (stS c m) (rN c.length) = stS c (m + 1) := by
  simp [addS, stS, List.replicate_succ']
theorem st_seal (c : List Nat) (m : Nat) : sealS (stS c m) ((c.length : Int) + 1) = stS (c ++ [m]) 0 := by
  simp [sealS, stS, trsF_append, trsF]
theorem st_tot (c : List Nat) (hc : c.length ≤ 20) (h5 : ∀ x ∈ c, x ≤ 50) : totS (stS c 0) ≤ 1000 := by
  have := sum_bound c 50 h5
  simp only [totS, stS, trsF_many, List.length_nil, List.replicate_zero]; omega
theorem take_len_sum (c : List Nat) (u : Nat) : (c.take (min u c.length)).sum = (c.take u).sum := by
  congr 1
  rcases Nat.le_total u c.length with h | h
  · rw [Nat.min_eq_left h]
  · rw [Nat.min_eq_right h, List.take_of_length_le (Nat.le_refl _), List.take_of_length_le h]
theorem twice_pure (c : List Nat) (hc : c.length ≤ 20) (h5 : ∀ x ∈ c, x ≤ 50) (up : Int) (h1 : 1 ≤ up) :
    ∃ L R, comm up (stS c 0).sl = (L, R) ∧ comm up R = ([], R) ∧ comm 1 R = ([], R) ∧ L.length = (c.take up.toNat).sum ∧ L.length ≤ 1000 ∧ many R ≤ 1000 ∧ ∀ j (h : j + 1 < L.length), (L[j]'(by omega)).num ≤ L[j + 1].num := by
  have hb := sum_bound c 50 h5
  have hu : min up.toNat c.length ≤ c.length := Nat.min_le_right _ _
  have hcm := trsF_comm rN c (min up.toNat c.length) hu up (by omega) (fun h => by omega)
  have hlen := trsF_flat rN (c.take (min up.toNat c.length)) 0
  rw [take_len_sum] at hlen
  have hle := sum_take_le c up.toNat
  have hcl := comm_len up (trsF rN 0 c)
  have hmT := trsF_many rN c 0
  rw [hcm, hmT] at hcl
  simp only at hcl
  have hmR : many (trsF rN (min up.toNat c.length) (c.drop (min up.toNat c.length))) ≤ 1000 := by omega
  refine ⟨_, _, hcm, ?_, ?_, hlen, by omega, hmR, fun j h => pw_next (trsF_rise rN Rg.num (fun i => rfl) _ 0).1 j h⟩
  · rcases Nat.le_total up.toNat c.length with h | h
    · exact trsF_none rN _ _ _ (by omega)
    · rw [Nat.min_eq_right h, List.drop_eq_nil_of_le (Nat.le_refl _)]; rfl
  · rcases Nat.le_total up.toNat c.length with h | h
    · exact trsF_none rN _ _ _ (by omega)
    · rw [Nat.min_eq_right h, List.drop_eq_nil_of_le (Nat.le_refl _)]; rfl
theorem sum_yes (c : List Nat) (m u : Nat) (h : c.length < u) : ((c ++ [m]).take u).sum = (c.take u).sum + m := by
  rw [List.take_of_length_le (by simp; omega), List.take_of_length_le (by omega), List.sum_append]; simp
theorem sum_no (c : List Nat) (m u : Nat) (h : u ≤ c.length) : ((c ++ [m]).take u).sum = (c.take u).sum := by
  rw [List.take_append_of_le_length h]
theorem sum_small (c : List Nat) (u : Nat) (hc : c.length ≤ 20) (h5 : ∀ x ∈ c, x ≤ 50) : (c.take u).sum ≤ 1000 := by
  have := sum_bound c 50 h5
  have := sum_take_le c u
  omega
set_option maxRecDepth 100000 in
set_option maxHeartbeats 4000000 in
theorem twice_walk (W : World) (a0 : Option Addr) (c0 : Nat) (l : List Int) (hl : IsAt W a0 l) (up : Int) :
    Calls Try.prog 3 #[.slice a0 l.length c0, .int .i64 up] W fun e w' => e = .returned (.bool true) ∧ Below W.heap.size W w' := by
  have HL := Lib.hid hl
  clear hl
  have HN := new_l (Below.refl W.heap.size W)
  have HA := fun (u : World) (B : Nat) (h : SkL W u B newS) => (show Calls Try.prog 6 #[.pointer (some ⟨B, 0, none⟩), .agg #[.string ⟨#[]⟩, .int .i64 5, .int .i64 0]] u fun e w' => e = .returned .nilIface ∧ SkL W w' B (addS newS (rN 5)) from add_l h (by simp [newS]) 5)
  have HS := fun (u : World) (B : Nat) (h : SkL W u B (addS newS (rN 5))) => seal_l h (by simp [newS, addS]) 1 (by omega) (by simp [newS, addS])
  have HC := fun (u : World) (B : Nat) (h : SkL W u B (sealS (addS newS (rN 5)) 1)) => (show Calls Try.prog 8 #[.pointer (some ⟨B, 0, none⟩), .int .i64 1] u fun e w' => e = .returned (.tuple #[.int .i64 1, .nilIface]) ∧ Below W.heap.size W w' from (commit_l h (by simp [newS, addS, sealS, totS, many]) 1 (by omega)).mono (by rintro e w' ⟨rfl, h⟩; exact ⟨rfl, h.1⟩))
  have HN2 := fun (u : World) (h : Below W.heap.size W u) => new_l h
  go_enter Try.func3, Try.ntmps3
  go_wp2_with first | (go_at_call 5; refine HN.mono ?_; rintro e u ⟨B, rfl, h1⟩) | (go_at_call 6; refine (HA _ _ h1).mono ?_; rintro e u2 ⟨rfl, h2⟩) | (go_at_call 7; refine (HS _ _ h2).mono ?_; rintro e u3 ⟨rfl, h3⟩) | (go_at_call 8; refine (HC _ _ h3).mono ?_; rintro e u4 ⟨rfl, h4⟩; refine Hid.out ?_)
  refine Lib.hid ?_
  have HN3 := HN2 _ h4
  clear HN HA HS HC HN2 h1 h2 h3 h4
  go_wp2_with (go_at_call 5; refine HN3.mono ?_; rintro e u5 ⟨B2, rfl, h5⟩; refine Hid.out ?_)
  refine Lib.hid ?_
  clear HN3
  have H5 := Lib.hid h5
  clear h5
  go_wp2_with fail
  go_loopw [11, 12] (fun t i wr => ∃ k : Nat, k ≤ l.length ∧ k ≤ 20 ∧ i = .int .i64 k ∧ t = .int .i64 (((cs l k).take up.toNat).sum : Nat) ∧ Hid ((∀ x ∈ cs l k, x ≤ 50) ∧ SkL W wr B2 (stS (cs l k) 0))) (fun _ i _ => 20 - (intOf i).toNat)
  case atStart => exact ⟨0, by omega, by omega, rfl, by simp [cs], Lib.hid ⟨by simp [cs], H5.out⟩⟩
  case round =>
    obtain ⟨k, hk, hk20, rfl, rfl, hX⟩ := hrel
    have hcl := cs_len l k hk
    have hsm := sum_small (cs l k) up.toNat (by omega) hX.out.1
    by_cases hin : k < l.length ∧ k < 20
    · obtain ⟨hlt, h20⟩ := hin
      have q1 : (k : Int) < (l.length : Int) := by omega
      have q2 : (k : Int) < 20 := by omega
      obtain ⟨b, o, rfl, e0⟩ := HL.out.at hlt
      have HI := Lib.hid (fun (u : World) (h : Below W.heap.size W u) => (show u.cell? ⟨b, o + k, none⟩ = some (.int .i64 l[k]) from by rw [h.cell (p := ⟨b, o + k, none⟩) (cell_lt e0)]; exact e0))
      have e1 := HI.out wr hX.out.2.1
      have HCS := Lib.hid (cs_succ l k hlt)
      have HBW := Lib.hid hX.out.2.1
      clear e0
      by_cases hc0 : l[k] < 0
      · generalize l[k] = z at *
        clear HCS HI hX
        go_wp2_with fail
        go_ret
        exact ⟨rfl, HBW.out⟩
      by_cases hc5 : 50 < l[k]
      · generalize l[k] = z at *
        clear HCS HI hX
        go_wp2_with fail
        go_ret
        exact ⟨rfl, HBW.out⟩
      obtain ⟨m, hm⟩ : ∃ m : Nat, l[k] = m := ⟨l[k].toNat, by omega⟩
      generalize l[k] = z at *
      subst hm
      rw [Int.toNat_natCast] at HCS
      have hm5 : m ≤ 50 := by omega
      obtain ⟨S, hS⟩ : ∃ S, ((cs l k).take up.toNat).sum = S := ⟨_, rfl⟩
      rw [hS] at hsm
      rw [hS]
      have HSS := Lib.hid hS
      have HKL := Lib.hid (And.intro hcl hX.out.1)
      clear hS hcl
      go_wp2_with fail
      go_loopw [13] (fun q wr2 => ∃ j : Nat, j ≤ m ∧ q = .int .i64 j ∧ Hid (SkL W wr2 B2 (stS (cs l k) j))) (fun q _ => m - (intOf q).toNat)
      case atStart => exact ⟨0, by omega, rfl, Lib.hid hX.out.2⟩
      case round =>
        obtain ⟨j, hj, rfl, hY⟩ := hrel
        rename World => wi
        have e2 := HI.out wi hY.out.1
        by_cases hjm : j < m
        · have r1 : (j : Int) < (m : Int) := by omega
          have HAd := add_l hY.out (by simp [stS]; omega) k
          have hst := st_add (cs l k) j
          rw [HKL.out.1] at hst
          rw [hst] at HAd
          clear hst
          go_wp2_with (go_at_call 6; refine HAd.mono ?_; rintro e ui ⟨rfl, hZ⟩)
          exact ⟨⟨j + 1, by omega, by go_num, Lib.hid hZ⟩, by simp [intOf]; omega⟩
        · have hje : j = m := by omega
          subst hje
          have HSe := seal_l hY.out (by simp only [stS, trsF_len]; have := HKL.out.1; omega) ((k : Int) + 1) (by omega) (by simp only [stS]; have := HKL.out.1; omega)
          have hst := st_seal (cs l k) j
          rw [HKL.out.1] at hst
          rw [hst, ← HCS.out] at HSe
          clear hst
          go_wp2_with (go_at_call 7; refine HSe.mono ?_; rintro e ui ⟨rfl, hZ⟩; refine Hid.out ?_)
          refine Lib.hid ?_
          have e3 := HI.out ui hZ.1
          have HZ := Lib.hid (show (∀ x ∈ cs l (k + 1), x ≤ 50) ∧ SkL W ui B2 (stS (cs l (k + 1)) 0) from ⟨fun x hx => by
            rw [HCS.out] at hx
            rcases List.mem_append.1 hx with h | h
            · exact HKL.out.2 x h
            · simp at h; omega, hZ⟩)
          clear hZ HSe
          by_cases hup : (k : Int) < up
          · have HSN := Lib.hid (sum_yes (cs l k) j up.toNat (by have := HKL.out.1; omega))
            rw [HSS.out, ← HCS.out] at HSN
            go_wp2_with fail
            exact ⟨⟨k + 1, by omega, by omega, by go_num, by rw [HSN.out, Int.natCast_add], HZ⟩, by simp [intOf]; omega⟩
          · have HSN := Lib.hid (sum_no (cs l k) j up.toNat (by have := HKL.out.1; omega))
            rw [HSS.out, ← HCS.out] at HSN
            go_wp2_with fail
            exact ⟨⟨k + 1, by omega, by omega, by go_num, by rw [HSN.out], HZ⟩, by simp [intOf]; omega⟩
    · have hcase : (¬ (k : Int) < (l.length : Int)) ∨ ((k : Int) < (l.length : Int) ∧ ¬ (k : Int) < 20) := by omega
      obtain ⟨h50, hSk⟩ := hX.out
      have htot := st_tot (cs l k) (by omega) h50
      by_cases hup : up < 1
      · have HSk := Lib.hid hSk
        clear hSk hX h50 htot
        rcases hcase with q | ⟨q, q'⟩
        all_goals
          go_wp2_with fail
          go_ret
          exact ⟨rfl, HSk.out.1⟩
      · obtain ⟨L, R, p1, p2, p3, p4, p5, p6, p7⟩ := twice_pure (cs l k) (by omega) h50 up (by omega)
        have s1 : commS (stS (cs l k) 0) up = ⟨L, R, [], (cs l k).length⟩ := by unfold commS; rw [p1]; rfl
        generalize ((cs l k).length : Int) = la at s1
        have C1 := commit_l hSk (by omega) up (by omega)
        rw [p1, s1] at C1
        have C2 := fun (u : World) (h : SkL W u B2 ⟨L, R, [], la⟩) => commit_l h (by simp [totS]; omega) up (by omega)
        have C3 := fun (u : World) (h : SkL W u B2 ⟨L, R, [], la⟩) => commit_l h (by simp [totS]; omega) 1 (by omega)
        have t2 : commS (⟨L, R, [], la⟩ : Sk Rg) up = ⟨L, R, [], la⟩ := by unfold commS; simp only; rw [p2]; simp
        have t3 : commS (⟨L, R, [], la⟩ : Sk Rg) 1 = ⟨L, R, [], la⟩ := by unfold commS; simp only; rw [p3]; simp
        simp only [t2, p2, List.length_nil, Int.natCast_zero] at C2
        simp only [t3, p3, List.length_nil, Int.natCast_zero] at C3
        have C4 := fun (u : World) (h : SkL W u B2 ⟨L, R, [], la⟩) => abort_l h (by simp [totS]; omega)
        have C5 := fun (u : World) (h : SkL W u B2 (abortS ⟨L, R, [], la⟩)) => written_l h (by simp [totS, abortS, many]; omega)
        simp only [abortS] at C4 C5
        obtain ⟨n, hn⟩ : ∃ n, L.length = n := ⟨_, rfl⟩
        rw [hn] at p4 p5
        simp only [hn] at C1 C5
        rw [← p4]
        have HL2 := Lib.hid (And.intro hn p7)
        clear hSk hX h50 htot p1 p2 p3 p6 p7 s1 t2 t3 hn p4 hsm hcl HL H5 hin
        rcases hcase with q | ⟨q, q'⟩
        all_goals
          go_wp2_with (go_at_call 8; refine C1.mono ?_; rintro e v1 ⟨rfl, g1⟩; refine Hid.out ?_)
          refine Lib.hid ?_
          go_wp2_with (go_at_call 8; refine (C2 _ g1).mono ?_; rintro e v2 ⟨rfl, g2⟩; refine Hid.out ?_)
          refine Lib.hid ?_
          go_wp2_with (go_at_call 8; refine (C3 _ g2).mono ?_; rintro e v3 ⟨rfl, g3⟩; refine Hid.out ?_)
          refine Lib.hid ?_
          go_wp2_with first | (go_at_call 9; refine (C4 _ g3).mono ?_; rintro e v4 ⟨rfl, g4⟩) | (go_at_call 10; refine (C5 _ g4).mono ?_; rintro e v5 ⟨A1, c1, rfl, g5, g6, -⟩; refine Hid.out ?_)
          refine Lib.hid ?_
          clear C1 C2 C3 C4 C5 g1 g2 g3 g4
          go_wp2_with fail
          have HG5 := Lib.hid (And.intro g5 g6)
          clear g5 g6
          go_loopw [23] (fun i wr2 => ∃ j : Nat, j ≤ n ∧ i = .int .i64 ((j : Int) + 1) ∧ Hid (CsAt wr2 A1 (rcells L) ∧ Below W.heap.size W wr2)) (fun i _ => n + 1 - (intOf i).toNat)
          case atStart => exact ⟨0, by omega, by simp, HG5⟩
          case round =>
            obtain ⟨j, hj, rfl, hY⟩ := hrel
            rename World => wl
            by_cases hjn : j + 1 < n
            · have q3 : (j : Int) + 1 < (n : Int) := by omega
              obtain ⟨hLn, hLr⟩ := HL2.out
              obtain ⟨b', o', rfl, -, d1, -⟩ := rcs_at hY.out.1 j (by omega)
              obtain ⟨b2, o2, hA, -, d2, -⟩ := rcs_at hY.out.1 (j + 1) (by omega)
              injection hA with hA
              injection hA with e1 e2
              subst e1 e2
              have hr := hLr j (by omega)
              have hr' : ¬ (L[j + 1]'(by omega)).num < (L[j]'(by omega)).num := by omega
              generalize (L[j]'(by omega)).num = x0 at *
              generalize (L[j + 1]'(by omega)).num = x1 at *
              clear hLn hLr
              go_wp2_with fail
              go_quiet (fail)
              go_wp2_with fail
              exact ⟨⟨j + 1, by omega, by go_num, Lib.hid ⟨hY.out.1.keep ⟨rfl, rfl, rfl, Nat.le_refl _, fun _ _ => rfl⟩, ⟨hY.out.2.os, hY.out.2.tape, hY.out.2.output, hY.out.2.size, hY.out.2.block⟩⟩⟩, by simp [intOf]; omega⟩
            · have q3 : ¬ (j : Int) + 1 < (n : Int) := by omega
              go_wp2_with fail
              go_ret
              exact ⟨rfl, hY.out.2⟩
end Go.Proofs.Ytaicaeokljdjdaa
