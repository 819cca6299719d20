/- The document's Judge. -/
import Derived.Test.YthcgjbpiiodlgaaDoorCb
import Derived.Test.YthcgjbpiiodlgaaDoorPureQh
namespace Go.Proofs.YthcgjbpiiodlgaaDoor
open Go.RowKit Mp
set_option linter.unusedVariables false

theorem ln_dr {w : World} {q : Nat} {la : Option Addr} {L : List Ln} (h : LnsAt w la L) : LnsAt (w.drewN q) la L := lns_b h (below_dr w q)
theorem in_dr {w : World} {q : Nat} {la : Option Addr} {z : List Int} (h : IntsAt w la z) : IntsAt (w.drewN q) la z := ints_b h (below_dr w q)
set_option maxRecDepth 100000 in
set_option maxHeartbeats 4000000 in
theorem djudge_any (w : World) (la lb : Option Addr) (c d n m : Nat) (W G : List Ln) (ha : LnsAt w la W) (hb : LnsAt w lb G) (hn : n = W.length) (hm : m = G.length) (hW : LOk W) (hG : LOk G) :
    Calls Tryd.prog 8 #[.slice la n c, .slice lb m d] w fun e w' => e = .returned (.tuple #[.int .i64 ((judgeP W G).1 : Nat), .string (judgeP W G).2.1, .int .i64 ((judgeP W G).2.2 : Nat)]) ∧ ∃ q, w' = w.drewN q := by
  have HA := Lib.hid ha
  have HB := Lib.hid hb
  have HN := Lib.hid hn
  have HM := Lib.hid hm
  have OW := Lib.hid hW
  have OG := Lib.hid hG
  have hn4 : n ≤ 400 := by rw [hn]; exact hW.len
  have hm4 : m ≤ 400 := by rw [hm]; exact hG.len
  obtain ⟨R, hR⟩ : ∃ R, judgeP W G = R := ⟨_, rfl⟩
  have H00 : Hid (judgeP (W.drop 0) (G.drop 0) = R ∧ JInv W G 0 0) := ⟨by simpa using hR, jinv_zero W G⟩
  rw [hR]
  clear ha hb hn hm hW hG hR
  go_enter Tryd.func8, Tryd.ntmps8
  go_wp2_with fail
  go_loopw [7, 8, 9, 10, 11, 12, 13, 14, 15, 16] (fun vi vk _ _ _ _ _ _ _ _ wr => ∃ i k : Nat, vi = .int .i64 (i : Int) ∧ vk = .int .i64 (k : Int) ∧ i ≤ n ∧ k ≤ m ∧ Hid (judgeP (W.drop i) (G.drop k) = R ∧ JInv W G i k) ∧ Hid (∃ q, wr = w.drewN q)) (fun vi _ _ _ _ _ _ _ _ _ _ => n - (intOf vi).toNat)
  case atStart => exact ⟨0, 0, rfl, rfl, by omega, by omega, H00, ⟨0, rfl⟩⟩
  case round =>
    obtain ⟨i, k, rfl, rfl, hi, hk, hX, hq⟩ := hrel
    obtain ⟨q0, hq0⟩ := hq.out
    have HQ : Hid (∀ p, ∃ q, wr.drewN p = w.drewN q) := fun p => ⟨q0 + p, by rw [hq0]; simp⟩
    have HAr : Hid (LnsAt wr la W) := by rw [hq0]; exact ln_dr HA.out
    have HBr : Hid (LnsAt wr lb G) := by rw [hq0]; exact ln_dr HB.out
    clear hq0 hq
    by_cases hend : n ≤ i ∧ m ≤ k
    · obtain ⟨he1, he2⟩ := hend
      have g1 : decide ((i : Int) < (n : Int)) = false := by simp; omega
      have g1' : ¬ (i : Int) < (n : Int) := by omega
      have g2 : ¬ (k : Int) < (m : Int) := by omega
      have HR : Hid (R = (0, ByteArray.empty, 0)) := by
        show R = _
        rw [← hX.out.1]; exact judge_end (by have := HN.out; omega) (by have := HM.out; omega)
      obtain ⟨q9, hq9⟩ := HQ.out 0
      have HQ9 : Hid (wr = w.drewN q9) := hq9
      clear hX HAr HBr HQ hq9 H00
      go_wp2_with fail
      go_ret3
      exact ⟨by rw [HR.out]; rfl, q9, HQ9.out⟩
    · by_cases hout : n ≤ i ∨ (∃ (hk2 : k < G.length) (hi2 : i < W.length), kb G[k].1 < kb W[i].1)
      · have hkm : k < m := by
          rcases hout with h | ⟨h, -⟩
          · omega
          · have := HM.out; omega
        have hk1 : k < G.length := by have := HM.out; omega
        have HR : Hid (R = (3, G[k].1, 0)) := by
          show R = _
          rw [← hX.out.1]
          refine judge_out hk1 ?_
          rcases hout with h | ⟨h, h2, h3⟩
          · exact .inl (by have := HN.out; omega)
          · exact .inr ⟨h2, h3⟩
        have g2 : (k : Int) < (m : Int) := by omega
        obtain ⟨bg, og, fg, gc, rfl, c0, -⟩ := ln_at HBr.out k hk1
        have HQ2 : Hid (∀ p p2, ∃ q, (wr.drewN p).drewN p2 = w.drewN q) := fun p p2 => by
          obtain ⟨q, hq⟩ := HQ.out (p + p2)
          exact ⟨q, by rw [← hq]; simp⟩
        by_cases hi2 : n ≤ i
        · obtain rfl : i = n := by omega
          have t0 : ((i : Int) == (i : Int)) = true := by simp
          have g1 : ¬ (i : Int) < (i : Int) := by omega
          clear hout hX HAr H00 hend
          generalize G[k].1 = kg at *
          go_wp2_with fail
          go_quiet (fail)
          have c0b : (wr.drewN nq).cell? ⟨bg, og + k * 2, none⟩ = some (.string kg) := c0
          have HQ3 := Lib.hid (HQ2.out nq)
          generalize wr.drewN nq = wr1 at *
          go_wp2_with fail
          go_quiet (fail)
          go_wp2_with fail
          go_ret3
          obtain ⟨q9, hq9⟩ := HQ3.out nq
          exact ⟨by rw [HR.out]; rfl, q9, hq9⟩
        · have hi3 : i < W.length := by have := HN.out; omega
          have hlt : kb G[k].1 < kb W[i].1 := by
            rcases hout with h | ⟨_, _, h⟩
            · omega
            · exact h
          have t0 : ((i : Int) == (n : Int)) = false := by simp; omega
          have g1 : (i : Int) < (n : Int) := by omega
          obtain ⟨bw, ow, fw, gw, rfl, d0, -⟩ := ln_at HAr.out i hi3
          have t1 := less_yes hlt
          clear hout hX HAr H00 hend hlt
          generalize G[k].1 = kg at *
          generalize W[i].1 = kw at *
          go_wp2_with fail
          go_quiet (fail)
          have c0b : (wr.drewN nq).cell? ⟨bg, og + k * 2, none⟩ = some (.string kg) := c0
          have HQ3 := Lib.hid (HQ2.out nq)
          generalize wr.drewN nq = wr1 at *
          go_wp2_with fail
          go_quiet (fail)
          go_wp2_with fail
          go_ret3
          obtain ⟨q9, hq9⟩ := HQ3.out nq
          exact ⟨by rw [HR.out]; rfl, q9, hq9⟩
      · have hin : i < n := by
          refine Decidable.byContradiction fun h => hout (.inl (by omega))
        have hi3 : i < W.length := by have := HN.out; omega
        have hge : ∀ hk2 : k < G.length, ¬ kb G[k].1 < kb W[i].1 := fun hk2 h => hout (.inr ⟨hk2, hi3, h⟩)
        have HGE := Lib.hid hge
        have t0 : ((i : Int) == (n : Int)) = false := by simp; omega
        have g1 : (i : Int) < (n : Int) := by omega
        obtain ⟨bw, ow, fw, gw, rfl, d0, d1, hIw, j5, j6, j7⟩ := ln_at HAr.out i hi3
        have HIw := Lib.hid hIw
        obtain ⟨kw, hkw⟩ : ∃ kw, W[i].1 = kw := ⟨_, rfl⟩
        obtain ⟨z, hz⟩ : ∃ z, W[i].2 = z := ⟨_, rfl⟩
        have hz4 : z.length ≤ 400 := by rw [← hz]; exact (OW.out.one _ (List.getElem_mem hi3)).2
        -- what the step comes to
        have HST : Hid (R = (if (wrongP z (getD G kw)).1 = 0 then R else ((wrongP z (getD G kw)).1, kw, (wrongP z (getD G kw)).2)) ∧ ((wrongP z (getD G kw)).1 = 0 → judgeP (W.drop (i + 1)) (G.drop (if ∃ hk2 : k < G.length, G[k].1 = kw then k + 1 else k)) = R ∧ JInv W G (i + 1) (if ∃ hk2 : k < G.length, G[k].1 = kw then k + 1 else k))) := by
          have hR := hX.out.1
          have hJ := hX.out.2
          by_cases hs : ∃ hk2 : k < G.length, G[k].1 = kw
          · rw [if_pos hs]
            obtain ⟨hk2, he⟩ := hs
            rw [judge_same OG.out.ris hi3 hk2 (by rw [he, hkw]), hkw, hz] at hR
            by_cases h0 : (wrongP z (getD G kw)).1 = 0
            · rw [if_pos h0] at hR
              exact ⟨(if_pos h0).symm, fun _ => ⟨hR, jinv_both OW.out.ris hi3 hk2 (by rw [he, hkw]) hJ⟩⟩
            · rw [if_neg h0] at hR
              exact ⟨by rw [if_neg h0, hR], fun h => absurd h h0⟩
          · rw [if_neg hs]
            rw [judge_miss OG.out.ris hi3 hJ (fun hk2 => by
              rcases kb_tri G[k].1 W[i].1 with h | h | h
              · exact absurd h (HGE.out hk2)
              · exact absurd ⟨hk2, h.trans hkw⟩ hs
              · exact h), hkw, hz] at hR
            by_cases h0 : (wrongP z (getD G kw)).1 = 0
            · rw [if_pos h0] at hR
              exact ⟨(if_pos h0).symm, fun _ => ⟨hR, jinv_next OW.out.ris hi3 hJ⟩⟩
            · rw [if_neg h0] at hR
              exact ⟨by rw [if_neg h0, hR], fun h => absurd h h0⟩
        rw [hz] at d1 j5 HIw
        rw [hkw] at d0 j7
        have HKW := Lib.hid hkw
        obtain ⟨p, hp⟩ : ∃ p, z.length = p := ⟨_, rfl⟩
        rw [hp] at d1 j5 hz4
        have HP := Lib.hid hp
        clear hIw hX hge hkw hz hp hout hend H00
        go_upto_region 4 with fail
        go_cut [49] (fun v wc => v = .bool false ∧ ∃ q, wc = wr.drewN q)
        case first =>
          by_cases hkm : k < m
          · have hk1 : k < G.length := by have := HM.out; omega
            have g2 : (k : Int) < (m : Int) := by omega
            have g2' : decide ((k : Int) < (m : Int)) = true := by simp; omega
            obtain ⟨bg, og, fg, gc, rfl, c0, -⟩ := ln_at HBr.out k hk1
            have t1 := less_no (a := G[k].1) (b := kw) (by rw [← HKW.out]; exact HGE.out hk1)
            clear HST HGE HKW
            generalize G[k].1 = kg at *
            go_quiet (fail)
            go_wp2_with fail
            go_meet
            exact ⟨rfl, _, rfl⟩
          · have g2 : ¬ (k : Int) < (m : Int) := by omega
            have g2' : decide ((k : Int) < (m : Int)) = false := by simp; omega
            clear HST HGE HKW
            go_quiet (fail)
            go_wp2_with fail
            go_meet
            exact ⟨rfl, _, rfl⟩
        case rest =>
        obtain ⟨rfl, q1, rfl⟩ := hcut
        have HQ1 : Hid (∀ p, ∃ q, (wr.drewN q1).drewN p = w.drewN q) := fun p => by
          obtain ⟨q, hq⟩ := HQ.out (q1 + p)
          exact ⟨q, by rw [← hq]; simp⟩
        have HBr1 : Hid (LnsAt (wr.drewN q1) lb G) := ln_dr HBr.out
        have HIw1 : Hid (IntsAt (wr.drewN q1) fw z) := in_dr HIw.out
        have d0b : (wr.drewN q1).cell? ⟨bw, ow + i * 2, none⟩ = some (.string kw) := d0
        have d1b : (wr.drewN q1).cell? ⟨bw, ow + i * 2 + 1, none⟩ = some (.slice fw p gw) := d1
        clear d0 d1 HBr HIw HQ HAr
        generalize wr.drewN q1 = wr1 at *
        have HNU := Lib.hid (nums_any wr1 lb d m G kw HBr1.out HM.out hm4)
        go_wp2_with fail
        refine HNU.out.mono ?_
        rintro e wr2 ⟨fg, gc, rfl, hIg, e5, e6, q2, hq2⟩
        have HQ2 : Hid (∀ p, ∃ q, wr2.drewN p = w.drewN q) := fun p => by
          obtain ⟨q, hq⟩ := HQ1.out (q2 + p)
          exact ⟨q, by rw [← hq, hq2]; simp⟩
        have HBr2 : Hid (LnsAt wr2 lb G) := by rw [hq2]; exact ln_dr HBr1.out
        have HIw2 : Hid (IntsAt wr2 fw z) := by rw [hq2]; exact in_dr HIw1.out
        have HIg2 := Lib.hid hIg
        clear HNU HBr1 HIw1 HQ1 hq2 d0b d1b hIg
        have hs4 : (getD G kw).length ≤ 400 := getD_len OG.out kw
        generalize getD G kw = g at *
        obtain ⟨s, hs⟩ : ∃ s, g.length = s := ⟨_, rfl⟩
        rw [hs] at e5 hs4 ⊢
        have HS := Lib.hid hs
        clear hs
        obtain ⟨a, ha⟩ : ∃ a, lcpP z g = a := ⟨_, rfl⟩
        have HLC := Lib.hid ha
        have hap : a ≤ p := by rw [← ha, ← HP.out]; exact (lcp_le z g).1
        have has_ : a ≤ s := by rw [← ha, ← HS.out]; exact (lcp_le z g).2
        clear ha
        go_upto_block 2 with fail
        go_cut [12] (fun v wc => v = .int .i64 (a : Int) ∧ ∃ q, wc = wr2.drewN q)
        case first =>
          clear HST HGE HQ2 HBr2 HKW
          go_wp2_with fail
          go_loopw [12] (fun vi wk => ∃ j : Nat, vi = .int .i64 (j : Int) ∧ j ≤ p ∧ j ≤ s ∧ Hid (z.take j = g.take j) ∧ Hid (∃ q, wk = wr2.drewN q)) (fun vi _ => p - (intOf vi).toNat)
          case atStart => exact ⟨0, rfl, by omega, by omega, rfl, ⟨0, rfl⟩⟩
          case round =>
            obtain ⟨j, rfl, hj1, hj2, HT, hq⟩ := hrel
            obtain ⟨q3, hq3⟩ := hq.out
            rename World => wk
            have HQ3 : Hid (∀ t, ∃ q, wk.drewN t = wr2.drewN q) := fun t => ⟨q3 + t, by rw [hq3]; simp⟩
            by_cases h1 : j < p
            · have t1 : decide ((j : Int) < (p : Int)) = true := by simp; omega
              have t1' : (j : Int) < (p : Int) := by omega
              have k1 : j < z.length := by have := HP.out; omega
              by_cases h2 : j < s
              · have t2 : decide ((j : Int) < (s : Int)) = true := by simp; omega
                have t2' : (j : Int) < (s : Int) := by omega
                have k2 : j < g.length := by have := HS.out; omega
                obtain ⟨b1, o1, rfl, c1⟩ := ints_at HIw2.out j k1
                obtain ⟨b2, o2, rfl, c2⟩ := ints_at HIg2.out j k2
                have c1' : wk.cell? ⟨b1, o1 + j, none⟩ = some (.int .i64 z[j]) := by rw [hq3]; exact c1
                have c2' : wk.cell? ⟨b2, o2 + j, none⟩ = some (.int .i64 g[j]) := by rw [hq3]; exact c2
                clear c1 c2 hq3 hq
                by_cases h3 : z[j] = g[j]
                · have HT2 : Hid (z.take (j + 1) = g.take (j + 1)) := take_step k1 k2 HT.out h3
                  clear HT
                  rw [← h3] at c2'
                  clear h3
                  generalize z[j] = x at *
                  have t3 : (x == x) = true := by simp
                  go_wp2_with fail
                  go_quiet (fail)
                  go_wp2_with fail
                  exact ⟨⟨j + 1, by go_num, by omega, by omega, HT2, HQ3.out _⟩, by simp [intOf]; omega⟩
                · have HE : Hid (a = j) := by
                    show a = j
                    rw [← HLC.out]
                    refine lcp_of z g j (by omega) (by omega) HT.out (.inr (.inr ?_))
                    rw [List.getElem?_eq_getElem k1, List.getElem?_eq_getElem k2]
                    simpa using h3
                  have t3 : (z[j] == g[j]) = false := by simpa using h3
                  clear HT h3
                  generalize z[j] = x at *
                  generalize g[j] = x2 at *
                  go_wp2_with fail
                  go_quiet (fail)
                  go_wp2_with fail
                  go_meet
                  exact ⟨by rw [HE.out], HQ3.out _⟩
              · have t2 : decide ((j : Int) < (s : Int)) = false := by simp; omega
                have t2' : ¬ (j : Int) < (s : Int) := by omega
                have HE : Hid (a = j) := by
                  show a = j
                  rw [← HLC.out]
                  exact lcp_of z g j (by omega) (by have := HS.out; omega) HT.out (.inr (.inl (by have := HS.out; omega)))
                clear HT hq3 hq
                go_wp2_with fail
                go_quiet (fail)
                go_wp2_with fail
                go_meet
                exact ⟨by rw [HE.out], HQ3.out _⟩
            · have t1 : decide ((j : Int) < (p : Int)) = false := by simp; omega
              have t1' : ¬ (j : Int) < (p : Int) := by omega
              have HE : Hid (a = j) := by
                show a = j
                rw [← HLC.out]
                exact lcp_of z g j (by have := HP.out; omega) (by have := HS.out; omega) HT.out (.inl (by have := HP.out; omega))
              clear HT hq3 hq
              go_wp2_with fail
              go_quiet (fail)
              go_wp2_with fail
              go_meet
              exact ⟨by rw [HE.out], HQ3.out _⟩
        case rest =>
        obtain ⟨rfl, q3, rfl⟩ := hcut
        have HQ3 : Hid (∀ p, ∃ q, (wr2.drewN q3).drewN p = w.drewN q) := fun p => by
          obtain ⟨q, hq⟩ := HQ2.out (q3 + p)
          exact ⟨q, by rw [← hq]; simp⟩
        have HBr3 : Hid (LnsAt (wr2.drewN q3) lb G) := ln_dr HBr2.out
        have HIw3 : Hid (IntsAt (wr2.drewN q3) fw z) := in_dr HIw2.out
        have HIg3 : Hid (IntsAt (wr2.drewN q3) fg g) := in_dr HIg2.out
        clear HBr2 HIw2 HIg2 HQ2
        generalize wr2.drewN q3 = wr3 at *
        by_cases hb1 : a < p ∧ a < s
        · obtain ⟨h1, h2⟩ := hb1
          have k1 : a < z.length := by have := HP.out; omega
          have k2 : a < g.length := by have := HS.out; omega
          have HW : Hid (R = (unlP z g a, kw, a)) := by
            have hw := unl_wrong (z := z) (g := g) (by rw [HLC.out]; exact k1) (by rw [HLC.out]; exact k2)
            rw [HLC.out] at hw
            have h7 := HST.out.1
            have hne : unlP z g a ≠ 0 := by unfold unlP; split; omega; split <;> omega
            rw [hw, if_neg hne] at h7
            exact h7
          obtain ⟨b1, o1, rfl, c1⟩ := ints_at HIw3.out a k1
          obtain ⟨b2, o2, rfl, c2⟩ := ints_at HIg3.out a k2
          have hf1 := run_from b1 o1 p gw a h1 j5
          have hf2 := run_from b2 o2 s gc a h2 e5
          have HCz : Hid (∀ q x, Calls Tryd.prog 17 #[.slice (some ⟨b1, o1 + a, none⟩) (p - a) (gw - a), .int .i64 x] (wr3.drewN q) fun e w' => e = .returned (.int .i64 ((z.drop a).count x : Nat)) ∧ ∃ q2, w' = (wr3.drewN q).drewN q2) := fun q x => count_any _ _ _ _ _ x (IntsAt.drop (in_dr HIw3.out) a) (by rw [List.length_drop, HP.out]) (by omega)
          have HCg : Hid (∀ q x, Calls Tryd.prog 17 #[.slice (some ⟨b2, o2 + a, none⟩) (s - a) (gc - a), .int .i64 x] (wr3.drewN q) fun e w' => e = .returned (.int .i64 ((g.drop a).count x : Nat)) ∧ ∃ q2, w' = (wr3.drewN q).drewN q2) := fun q x => count_any _ _ _ _ _ x (IntsAt.drop (in_dr HIg3.out) a) (by rw [List.length_drop, HS.out]) (by omega)
          have t1 : decide ((a : Int) < (p : Int)) = true := by simp; omega
          have t1' : (a : Int) < (p : Int) := by omega
          have t2 : decide ((a : Int) < (s : Int)) = true := by simp; omega
          have t2' : (a : Int) < (s : Int) := by omega
          have hcg0 : Hid (∀ x, (g.drop a).count x ≤ 400) := fun x => Nat.le_trans List.count_le_length (by rw [List.length_drop, HS.out]; omega)
          have hcz0 : Hid (∀ x, (z.drop a).count x ≤ 400) := fun x => Nat.le_trans List.count_le_length (by rw [List.length_drop, HP.out]; omega)
          obtain ⟨cr, hcr⟩ : ∃ cr, crossP (z.drop a) (g.drop a) = cr := ⟨_, rfl⟩
          have HCR := Lib.hid hcr
          clear hcr
          go_upto_block 4 with fail
          go_cut [13] (fun v wc => v = .bool cr ∧ ∃ q, wc = wr3.drewN q)
          case first =>
            clear HST HGE HQ3 HBr3 HKW HW c1 c2
            go_wp2_with fail
            go_loopw [13, 14, 15, 16] (fun vc vj _ _ wk => ∃ (j : Nat) (y : Bool), vj = .int .i64 (j : Int) ∧ a ≤ j ∧ j ≤ s ∧ vc = .bool y ∧ Hid (crJ z g a j = y) ∧ Hid (∃ q, wk = wr3.drewN q)) (fun _ vj _ _ _ => s - (intOf vj).toNat)
            case atStart => exact ⟨a, true, rfl, by omega, by omega, rfl, cr_zero z g a, ⟨0, rfl⟩⟩
            case round =>
              obtain ⟨j, y, rfl, hj0, hj1, rfl, HY, hq⟩ := hrel
              obtain ⟨q4, rfl⟩ := hq.out
              by_cases hjs : j < s
              · have g4 : (j : Int) < (s : Int) := by omega
                have k3 : j < g.length := by have := HS.out; omega
                have hst := cr_step z g a j hj0 k3
                rw [HY.out] at hst
                have HST2 := Lib.hid hst
                obtain ⟨_, _, ee, c3⟩ := ints_at (in_dr (q := q4) HIg3.out) j k3
                injection ee with ee
                injection ee with ee1 ee2 _
                subst ee1; subst ee2
                obtain ⟨nx, hnx⟩ : ∃ nx, (g.drop a).count g[j] = nx := ⟨_, rfl⟩
                obtain ⟨ny, hny⟩ : ∃ ny, (z.drop a).count g[j] = ny := ⟨_, rfl⟩
                have hnx4 : nx ≤ 400 := by rw [← hnx]; exact hcg0.out _
                have hny4 : ny ≤ 400 := by rw [← hny]; exact hcz0.out _
                have HC1 : Hid (∀ q, Calls Tryd.prog 17 #[.slice (some ⟨b2, o2 + a, none⟩) (s - a) (gc - a), .int .i64 g[j]] ((wr3.drewN q4).drewN q) fun e w' => e = .returned (.int .i64 (nx : Nat)) ∧ ∃ q2, w' = ((wr3.drewN q4).drewN q).drewN q2) := fun q => by
                  have := HCg.out (q4 + q) g[j]
                  rw [hnx] at this
                  simpa using this
                have HC2 : Hid (∀ q, Calls Tryd.prog 17 #[.slice (some ⟨b1, o1 + a, none⟩) (p - a) (gw - a), .int .i64 g[j]] ((wr3.drewN q4).drewN q) fun e w' => e = .returned (.int .i64 (ny : Nat)) ∧ ∃ q2, w' = ((wr3.drewN q4).drewN q).drewN q2) := fun q => by
                  have := HCz.out (q4 + q) g[j]
                  rw [hny] at this
                  simpa using this
                rw [hnx, hny] at hst
                have HST3 := Lib.hid hst
                have HQ4 : Hid (∀ t1, ∃ q, (wr3.drewN q4).drewN t1 = wr3.drewN q) := fun t1 => ⟨q4 + t1, by simp⟩
                clear hst HST2 hnx hny HY hq
                generalize g[j] = x at *
                generalize wr3.drewN q4 = wk at *
                go_wp2_with fail
                go_quiet ((go_at_call 17; exact Calls.quiet_of (HC1.out _)))
                have c4 : (wk.drewN nq).cell? ⟨b2, o2 + j, none⟩ = some (.int .i64 x) := c3
                have HC3 : Hid (∀ q, Calls Tryd.prog 17 #[.slice (some ⟨b1, o1 + a, none⟩) (p - a) (gw - a), .int .i64 x] ((wk.drewN nq).drewN q) fun e w' => e = .returned (.int .i64 (ny : Nat)) ∧ ∃ q2, w' = ((wk.drewN nq).drewN q).drewN q2) := fun q => by
                  have := HC2.out (nq + q)
                  simpa using this
                have HQ5 : Hid (∀ t1, ∃ q, (wk.drewN nq).drewN t1 = wr3.drewN q) := fun t1 => by
                  have := HQ4.out (nq + t1)
                  simpa using this
                clear c3 HC1 HC2 HQ4
                generalize wk.drewN nq = wk1 at *
                go_wp2_with fail
                go_quiet ((go_at_call 17; exact Calls.quiet_of (HC3.out _)))
                have HQ6 := Lib.hid (HQ5.out nq)
                clear HC3 HQ5 c4
                generalize wk1.drewN nq = wk2 at *
                cases y with
                | false =>
                  have HF : Hid (crJ z g a (j + 1) = false) := by show _ = _; rw [HST3.out]; rfl
                  clear HST3
                  go_wp2_with fail
                  exact ⟨⟨j + 1, false, by go_num, by omega, by omega, rfl, HF, HQ6⟩, by simp [intOf]; omega⟩
                | true =>
                  by_cases hle : nx ≤ ny
                  · have HF : Hid (crJ z g a (j + 1) = true) := by show _ = _; rw [HST3.out]; simp [hle]
                    have hle' : (nx : Int) ≤ (ny : Int) := by omega
                    clear HST3
                    go_wp2_with fail
                    exact ⟨⟨j + 1, true, by go_num, by omega, by omega, rfl, HF, HQ6⟩, by simp [intOf]; omega⟩
                  · have HF : Hid (crJ z g a (j + 1) = false) := by show _ = _; rw [HST3.out]; simp [hle]
                    have hle' : ¬ (nx : Int) ≤ (ny : Int) := by omega
                    clear HST3
                    go_wp2_with fail
                    exact ⟨⟨j + 1, false, by go_num, by omega, by omega, rfl, HF, HQ6⟩, by simp [intOf]; omega⟩
              · have g4 : ¬ (j : Int) < (s : Int) := by omega
                have HYY : Hid (y = cr) := by
                  show y = cr
                  rw [← HY.out, ← HCR.out, ← cr_all z g a (by omega)]
                  congr 1
                  have := HS.out; omega
                clear HY hq
                go_wp2_with fail
                go_meet
                exact ⟨by rw [HYY.out], q4, rfl⟩
          case rest =>
          obtain ⟨rfl, q5, rfl⟩ := hcut
          have HQ5 : Hid (∀ t, ∃ q, (wr3.drewN q5).drewN t = w.drewN q) := fun t => by
            obtain ⟨q, hq⟩ := HQ3.out (q5 + t)
            exact ⟨q, by rw [← hq]; simp⟩
          have HIw5 : Hid (IntsAt (wr3.drewN q5) (some ⟨b1, o1, none⟩) z) := in_dr HIw3.out
          have c2b : (wr3.drewN q5).cell? ⟨b2, o2 + a, none⟩ = some (.int .i64 g[a]) := c2
          clear HST HGE HQ3 HBr3 HKW HIw3 HIg3 c1 c2 HCz HCg hf1 hf2
          generalize wr3.drewN q5 = wr5 at *
          cases cr with
          | true =>
            have HR : Hid (R = (4, kw, a)) := by show R = _; rw [HW.out, unl_four HCR.out]
            obtain ⟨q9, hq9⟩ := HQ5.out 0
            have HQ9 : Hid (wr5 = w.drewN q9) := hq9
            clear HQ5 hq9 c2b
            go_wp2_with fail
            go_ret3
            exact ⟨by rw [HR.out]; rfl, q9, HQ9.out⟩
          | false =>
            have HU := unl_not HCR.out
            have x2 : g[a]? = some g[a] := List.getElem?_eq_getElem k2
            by_cases h0 : 0 < a
            · obtain ⟨j, rfl⟩ : ∃ j, a = j + 1 := ⟨a - 1, by omega⟩
              have hj : j < z.length := by omega
              have x1 : z[j]? = some z[j] := List.getElem?_eq_getElem hj
              obtain ⟨_, _, ee, c3⟩ := ints_at HIw5.out j hj
              injection ee with ee
              injection ee with ee1 ee2 _
              subst ee1; subst ee2
              rw [x2, show j + 1 - 1 = j from rfl, x1] at HU
              have HU2 : Hid (unlP z g (j + 1) = if g[j + 1] = z[j] then 2 else 3) := by
                show _ = _
                rw [HU]
                by_cases e : g[j + 1] = z[j]
                · rw [if_pos e, if_pos ⟨h0, by rw [e]⟩]
                · rw [if_neg e, if_neg (fun h => e (by have := h.2; injection this))]
              have t0 : decide (0 < ((j + 1 : Nat) : Int)) = true := by simp
              have i9 : IntKind.i64.wrap (j : Int) = (j : Int) := by simp [IntKind.wrap, IntKind.bits, IntKind.signed]; omega
              have i8 : (j : Int) < (p : Int) := by omega
              by_cases hxy : g[j + 1] = z[j]
              · have HR : Hid (R = (2, kw, j + 1)) := by show R = _; rw [HW.out, HU2.out, if_pos hxy]
                rw [hxy] at c2b
                have t3 : (z[j] == z[j]) = true := by simp
                clear HU HU2 x1 x2 hxy HW HIw5
                generalize z[j] = X at *
                go_wp2_with fail
                go_quiet (fail)
                go_wp2_with fail
                go_ret3
                obtain ⟨q9, hq9⟩ := HQ5.out nq
                exact ⟨by rw [HR.out]; rfl, q9, hq9⟩
              · have HR : Hid (R = (3, kw, j + 1)) := by show R = _; rw [HW.out, HU2.out, if_neg hxy]
                have t3 : (g[j + 1] == z[j]) = false := by simpa using hxy
                clear HU HU2 x1 x2 hxy HW HIw5
                generalize z[j] = X at *
                generalize g[j + 1] = Y at *
                go_wp2_with fail
                go_quiet (fail)
                go_wp2_with fail
                go_ret3
                obtain ⟨q9, hq9⟩ := HQ5.out nq
                exact ⟨by rw [HR.out]; rfl, q9, hq9⟩
            · obtain rfl : a = 0 := by omega
              have HR : Hid (R = (3, kw, 0)) := by show R = _; rw [HW.out, HU, if_neg (fun h => h0 h.1)]
              clear HU x2 h0 HW HIw5 c2b
              go_wp2_with fail
              go_quiet (fail)
              go_wp2_with fail
              go_ret3
              obtain ⟨q9, hq9⟩ := HQ5.out nq
              exact ⟨by rw [HR.out]; rfl, q9, hq9⟩
        · by_cases h2 : a < s
          · have HR : Hid (R = (2, kw, a)) := by
              have hw : wrongP z g = (2, a) := by
                unfold wrongP
                rw [HLC.out, HP.out, HS.out, if_neg hb1, if_pos h2]
              have := HST.out.1
              rw [hw, if_neg (by simp)] at this
              exact this
            have t1 : decide ((a : Int) < (p : Int)) = false := by simp; omega
            have t1' : ¬ (a : Int) < (p : Int) := by omega
            have t2 : (s : Int) > (a : Int) := by omega
            obtain ⟨q9, hq9⟩ := HQ3.out 0
            have HQ9 : Hid (wr3 = w.drewN q9) := hq9
            clear HST HGE HQ3 HBr3 HKW hq9 hb1
            go_wp2_with fail
            go_ret3
            exact ⟨by rw [HR.out]; rfl, q9, HQ9.out⟩
          · have t2 : ¬ (s : Int) > (a : Int) := by omega
            have t2b : decide ((a : Int) < (s : Int)) = false := by simp; omega
            have t2' : ¬ (a : Int) < (s : Int) := by omega
            by_cases h1 : a < p
            · have HR : Hid (R = (1, kw, a)) := by
                have hw : wrongP z g = (1, a) := by
                  unfold wrongP
                  rw [HLC.out, HP.out, HS.out, if_neg hb1, if_neg h2, if_pos h1]
                have := HST.out.1
                rw [hw, if_neg (by simp)] at this
                exact this
              have t1 : decide ((a : Int) < (p : Int)) = true := by simp; omega
              have t1' : (a : Int) < (p : Int) := by omega
              have t3 : (p : Int) > (a : Int) := by omega
              obtain ⟨q9, hq9⟩ := HQ3.out 0
              have HQ9 : Hid (wr3 = w.drewN q9) := hq9
              clear HST HGE HQ3 HBr3 HKW hq9 hb1
              go_wp2_with fail
              go_ret3
              exact ⟨by rw [HR.out]; rfl, q9, HQ9.out⟩
            · have hw : wrongP z g = (0, 0) := by
                unfold wrongP
                rw [HLC.out, HP.out, HS.out, if_neg hb1, if_neg h2, if_neg h1]
              have hnx := HST.out.2 (by rw [hw])
              have t1 : decide ((a : Int) < (p : Int)) = false := by simp; omega
              have t1' : ¬ (a : Int) < (p : Int) := by omega
              have t3 : ¬ (p : Int) > (a : Int) := by omega
              obtain ⟨q9, hq9⟩ := HQ3.out 0
              have HQ9 : Hid (∃ q, wr3 = w.drewN q) := ⟨q9, hq9⟩
              by_cases hkm : k < m
              · have hk1 : k < G.length := by have := HM.out; omega
                have g2 : decide ((k : Int) < (m : Int)) = true := by simp; omega
                have g2' : (k : Int) < (m : Int) := by omega
                obtain ⟨bg, og, fg2, gc2, rfl, c0, -⟩ := ln_at HBr3.out k hk1
                by_cases hs2 : G[k].1 = kw
                · rw [if_pos ⟨hk1, hs2⟩] at hnx
                  have HNX := Lib.hid hnx
                  rw [hs2] at c0
                  have t4 : (kw.toList == kw.toList) = true := by simp
                  clear HST HGE HQ3 HBr3 HKW hq9 hb1 hnx hw
                  go_wp2_with fail
                  exact ⟨⟨i + 1, k + 1, by go_num, by go_num, by omega, by omega, HNX, HQ9⟩, by simp [intOf]; omega⟩
                · rw [if_neg (fun h => hs2 h.2)] at hnx
                  have HNX := Lib.hid hnx
                  have t4 := eq_no hs2
                  clear HST HGE HQ3 HBr3 HKW hq9 hb1 hnx hw hs2
                  generalize G[k].1 = kg at *
                  go_wp2_with fail
                  exact ⟨⟨i + 1, k, by go_num, rfl, by omega, by omega, HNX, HQ9⟩, by simp [intOf]; omega⟩
              · have g2 : decide ((k : Int) < (m : Int)) = false := by simp; omega
                have g2' : ¬ (k : Int) < (m : Int) := by omega
                rw [if_neg (fun h => by obtain ⟨h, _⟩ := h; have := HM.out; omega)] at hnx
                have HNX := Lib.hid hnx
                clear HST HGE HQ3 HBr3 HKW hq9 hb1 hnx hw
                go_wp2_with fail
                exact ⟨⟨i + 1, k, by go_num, rfl, by omega, by omega, HNX, HQ9⟩, by simp [intOf]; omega⟩
end Go.Proofs.YthcgjbpiiodlgaaDoor
