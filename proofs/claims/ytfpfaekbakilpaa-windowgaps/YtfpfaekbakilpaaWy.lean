/- WindowGaps: the walk. -/
import Derived.Test.YtfpfaekbakilpaaWx
namespace Go.Proofs.Ytfpfaekbakilpaa
open Go.RowKit
set_option linter.unusedVariables false

set_option maxRecDepth 100000 in
set_option maxHeartbeats 8000000 in
theorem gaps_main (w : World) (la : Option Addr) (c : Nat) (l : List Rg) (gap more : Int) (h : CsAt w la (rcells l)) (hE : recsE l = 0) (hs : spanB gap = true) :
    Calls Try.prog 4 #[.slice la l.length c, .int .i64 gap, .int .i64 more] w fun e w' => e = .returned (.bool true) ∧ Below w.heap.size w w' := by
  have HF := first_session w
  obtain ⟨hl, hr⟩ := recs_ok hE
  obtain ⟨i0, hi, hz0, hz1, hz2⟩ := info_parts infoR
  have a1 : 1 ≤ gap ∧ gap ≤ 1000000 := by unfold spanB at hs; simpa using hs
  obtain ⟨g0, g1⟩ := a1
  obtain ⟨ys, hp, hsr⟩ := srt_ex l
  have hyl : ys.length = l.length := hp.length_eq
  have HY := fun (u : World) (hu : Below w.heap.size w u) => session_all u la c l ys gap (h.keep hu) hE hs hp hsr
  have hEr : recsE l.reverse = 0 := recs_zero (by simp; omega) (fun r hr' => hr r (by simpa using hr'))
  have HQ := fun (u : World) (a3 : Option Addr) (c3 : Nat) (hu : CsAt u a3 (rcells l.reverse)) => session_all u a3 c3 l.reverse ys gap hu hEr hs (hp.trans l.reverse_perm.symm) hsr
  simp only [List.length_reverse] at HQ
  have HM := fun (u : World) (hu : Below w.heap.size w u) (hm : spanB more = true) => session_all u la c l ys more (h.keep hu) hE hm hp hsr
  have HN := fun (u : World) (hu : Below w.heap.size w u) (hm : spanB more = false) => session_args u la c l more (h.keep hu) (by omega) (fun r hr' => by have := (hr r hr').1; omega) hE hm
  obtain ⟨s1, -⟩ := se_ok g0 g1 ys hsr (fun r hr' => (hr r (hp.mem_iff.1 hr')).2) (by omega)
  rw [hyl] at s1
  have hsm : gap ≤ more → (sesP more ys).length ≤ (sesP gap ys).length := fun hg => by
    unfold sesP; rw [List.length_reverse, List.length_reverse]; exact (ses_more hg ys).1
  have hpl : (sesP gap ys).length ≤ 400 := by
    unfold sesP; rw [List.length_reverse]; have := sesR_len gap ys; omega
  have q1 : ∀ p ∈ sesP gap ys, p.lt = 0 ∧ gap ≤ p.to - p.fr ∧ 1 ≤ p.mn ∧ p.mn ≤ l.length ∧ 0 ≤ p.fr ∧ p.to ≤ 2000000 := fun p hp' => by
    have hp2 : p ∈ sesR gap ys := by simpa [sesP] using hp'
    exact ⟨s1.lt p hp2, s1.wide p hp2, (s1.mn p hp2).1, (s1.mn p hp2).2, (s1.fr p hp2).1, (s1.fr p hp2).2⟩
  have q2 : sumF (fun p => p.mn) (sesP gap ys) = l.length := by unfold sesP; rw [sumF_reverse]; exact s1.sum
  have q3 : ∀ (i : Nat) (p q : Pn), (sesP gap ys)[i]? = some p → (sesP gap ys)[i + 1]? = some q → p.key = q.key → p.to ≤ q.fr := fun i p q e1 e2 hk => by
    have hpw := List.pairwise_reverse.2 s1.apart
    obtain ⟨h1, rfl⟩ := List.getElem?_eq_some_iff.1 e1
    obtain ⟨h2, rfl⟩ := List.getElem?_eq_some_iff.1 e2
    exact List.pairwise_iff_getElem.1 hpw i (i + 1) h1 h2 (by omega) hk.symm
  have q4 := sumF_part (f := fun p : Pn => p.mn) (L := sesP gap ys) (fun p hp' => by have := (q1 p hp').2.2.1; omega)
  have q5 := sumF_take (fun p : Pn => p.mn) (sesP gap ys)
  have hrt := rev_take l
  rw [q2] at q4
  generalize sesP gap ys = PP at *
  generalize sesP more ys = MM at *
  have H := Lib.hid h
  have Q1 := Lib.hid q1
  have Q2 := Lib.hid q2
  have Q3 := Lib.hid q3
  have Q4 := Lib.hid q4
  have Q5 := Lib.hid q5
  have HSM := Lib.hid hsm
  have HRT := Lib.hid hrt
  have HQ' := Lib.hid HQ
  have HM' := Lib.hid HM
  have HN' := Lib.hid HN
  clear q1 q2 q3 q4 q5 hsm hr h hE hs hEr hp hsr s1 hyl hrt HQ HM HN
  go_enter Try.func4, Try.ntmps4
  go_wp2_with (go_at_call 9; refine HF.mono ?_; rintro e u1 ⟨b, o, c1, rfl, k1, k2, b1⟩; refine Hid.out ?_)
  refine Lib.hid ?_
  have HY1 := HY u1 b1
  clear HY HF
  go_wp2_with (go_at_call 9; refine HY1.mono ?_; rintro e u2 ⟨A2, c2, rfl, hC2, b2'⟩; refine Hid.out ?_)
  refine Lib.hid ?_
  have b2 := below_after b2' b1
  have HC2 := Lib.hid hC2
  clear HY1 hC2 b2' k1 k2 b1
  go_wp2_with fail
  go_loopw [11, 12] (fun n i wr => ∃ k : Nat, k ≤ PP.length ∧ i = .int .i64 k ∧ n = .int .i64 (sumF (fun p => p.mn) (PP.take k)) ∧ CsAt wr A2 (pcells PP) ∧ Below w.heap.size w wr) (fun _ i _ => PP.length - (intOf i).toNat)
  case atStart => exact ⟨0, by omega, rfl, rfl, HC2.out, b2⟩
  case round =>
    obtain ⟨k, hk, rfl, rfl, hcs, hb⟩ := hrel
    obtain ⟨y0, y1⟩ := Q4.out k
    by_cases hlt : k < PP.length
    · obtain ⟨b, o, rfl, p0, p1, p2, p3, p4, p5⟩ := pns_at hcs k hlt
      obtain ⟨m1, m2, m3, m4, m5, m6⟩ := Q1.out _ (List.getElem_mem hlt)
      have k5 := Q5.out k hlt
      have hcs2 := hcs
      have HCS := Lib.hid hcs
      have X5 := Lib.hid k5
      clear hcs k5
      have hfin : ∀ u : World, u.heap = wr.heap → CsAt u (some ⟨b, o, none⟩) (pcells PP) := fun u hu => by
        have := HCS.out
        unfold CsAt World.cell? at *
        rw [hu]; exact this
      have HFin := Lib.hid hfin
      clear hfin
      by_cases hk0 : k = 0
      · have hkd : decide ((0 : Int) < (k : Int)) = false := by simp; omega
        have hkd2 : decide (0 < k) = false := by simp; omega
        generalize PP[k] = p at *
        obtain ⟨key, pf, pt, pm, ps, pl⟩ := p
        simp only at p0 p1 p2 p3 p4 p5 m1 m2 m3 m4 m5 m6 X5
        subst m1
        have hwd : decide (pt - pf < gap) = false := by simp; omega
        generalize sumF (fun p => p.mn) (PP.take k) = S at *
        clear hk0 hcs2
        go_wp2_with fail
        go_quiet (fail)
        go_wp2_with fail
        go_roundw
        case rel => exact ⟨k + 1, by omega, by go_num, by rw [X5.out], HFin.out _ rfl, ⟨hb.os, hb.tape, hb.output, hb.size, hb.block⟩⟩
        case measure => simp [intOf]; omega
      · obtain ⟨j, rfl⟩ : ∃ j, k = j + 1 := ⟨k - 1, by omega⟩
        obtain ⟨b', o', eb, r0, r1, r2, r3, r4, r5⟩ := pns_at hcs2 j (by omega)
        simp only [Option.some.injEq, Addr.mk.injEq, and_true] at eb
        obtain ⟨rfl, rfl⟩ := eb
        have hap := Q3.out j (PP[j]'(by omega)) PP[j + 1] (List.getElem?_eq_getElem _) (List.getElem?_eq_getElem _)
        obtain ⟨n1, n2, n3, n4, n5, n6⟩ := Q1.out (PP[j]'(by omega)) (List.getElem_mem _)
        generalize PP[j + 1] = p at *
        generalize PP[j]'(by omega) = q at *
        obtain ⟨key, pf, pt, pm, ps, pl⟩ := p
        obtain ⟨qk, qf, qt, qm, qs, ql⟩ := q
        simp only at p0 p1 p2 p3 p4 p5 m1 m2 m3 m4 m5 m6 X5 r0 r1 r2 r3 r4 r5 n1 n2 n3 n4 n5 n6 hap
        subst m1
        have hwd : decide (pt - pf < gap) = false := by simp; omega
        have hj0 : (0 : Int) ≤ (j : Int) := by omega
        have hkd : decide ((0 : Int) < (j : Int) + 1) = true := by simp
        have hjl : (j : Int) < (PP.length : Int) := by omega
        have hjl1 : (j : Int) + 1 < (PP.length : Int) := by omega
        generalize sumF (fun p => p.mn) (PP.take (j + 1)) = S at *
        clear hk0 hcs2
        by_cases hkk : qk = key
        · subst hkk
          have hap2 := hap rfl
          have hwd2 : decide (pf < qt) = false := by simp; omega
          clear hap
          go_wp2_with fail
          go_quiet (fail)
          go_wp2_with fail
          go_roundw
          case rel => exact ⟨j + 1 + 1, by omega, by go_num, by rw [X5.out], HFin.out _ rfl, ⟨hb.os, hb.tape, hb.output, hb.size, hb.block⟩⟩
          case measure => simp [intOf]; omega
        · have hkn : (qk.toList == key.toList) = false := str_ne hkk
          clear hap
          go_wp2_with fail
          go_quiet (fail)
          go_wp2_with fail
          go_roundw
          case rel => exact ⟨j + 1 + 1, by omega, by go_num, by rw [X5.out], HFin.out _ rfl, ⟨hb.os, hb.tape, hb.output, hb.size, hb.block⟩⟩
          case measure => simp [intOf]; omega
    · have ek : PP.take k = PP := List.take_of_length_le (by omega)
      rw [ek, Q2.out]
      have HA := Lib.hid hcs
      have hBz := hb.size
      clear ek hcs y0 y1
      have hll : ((l.length : Int) == (l.length : Int)) = true := by simp
      generalize wr = W5 at *
      go_wp2_with fail
      go_loopw [13, 14] (fun v i wr => ∃ m : Nat, m ≤ l.length ∧ i = .int .i64 ((m : Int) - 1) ∧ wr.ownsRow W5.heap.size 29 3 v (l.length - m) (rcells (l.reverse.take (l.length - m))) ∧ Below W5.heap.size W5 wr) (fun _ i _ => (1 + intOf i).toNat)
      case atStart => exact ⟨l.length, by omega, rfl, by rw [Nat.sub_self]; exact World.ownsRow_nil _ _ _ _, Below.refl _ _⟩
      case round =>
        obtain ⟨m, hm, rfl, hown, hb2⟩ := hrel
        have hsz2 := hb2.size
        cases m with
        | zero =>
          rw [Nat.sub_zero, List.take_of_length_le (by simp)] at hown
          obtain ⟨A3, c3, rfl⟩ := row_slice hown
          have hcs3 := (own_cs hown (by rw [rcells_len, List.length_reverse])).1
          have HQ1 := HQ'.out _ A3 c3 hcs3
          have b3 := hb.trans (hb2.mono hBz)
          have HA3 := Lib.hid (HA.out.keep hb2)
          clear hown hcs3 hb2 HA HQ'
          go_wp2_with (go_at_call 9; refine HQ1.mono ?_; rintro e u4 ⟨A4, c4, rfl, hC4, b4'⟩; refine Hid.out ?_)
          refine Lib.hid ?_
          have b4 := b3.trans (b4'.mono b3.size)
          have HP := psame_any u4 A2 A4 c2 c4 PP (HA3.out.keep b4') hC4 (by omega)
          clear HQ1 hC4 b4' HA3 b3
          go_wp2_with (go_at_call 7; refine HP.mono ?_; rintro e u5 ⟨rfl, b5'⟩; refine Hid.out ?_)
          refine Lib.hid ?_
          have b5 := b4.trans (b5'.mono b4.size)
          clear HP b5' b4
          by_cases hmg : more < gap
          · clear HM' HN' HSM
            go_wp2_with fail
            go_ret
            exact ⟨rfl, b5⟩
          · have hlm := HSM.out (by omega)
            cases hsm : spanB more with
            | true =>
              have HM1 := HM'.out u5 b5 hsm
              clear HM' HN' hsm HSM
              go_wp2_with (go_at_call 9; refine HM1.mono ?_; rintro e u6 ⟨A6, c6, rfl, hC6, b6'⟩; refine Hid.out ?_)
              refine Lib.hid ?_
              have b6 := b5.trans (b6'.mono b5.size)
              clear HM1 hC6 b6'
              go_wp2_with fail
              go_ret
              exact ⟨ret_bool (by first | (simp; done) | (simp; omega)), b6⟩
            | false =>
              have HN1 := HN'.out u5 b5 hsm
              rw [errV_ne (by omega : (1 : Nat) ≠ 0)] at HN1
              clear HM' HN' hsm HSM
              go_wp2_with (go_at_call 9; refine HN1.mono ?_; rintro e u6 ⟨rfl, b6'⟩; refine Hid.out ?_)
              refine Lib.hid ?_
              have b6 := b5.trans (b6'.mono b5.size)
              clear HN1 b6'
              go_wp2_with fail
              go_ret
              exact ⟨rfl, b6⟩
        | succ m =>
          obtain ⟨b, o, rfl, c0, c1, c2⟩ := rcs_at (H.out.keep (hb.trans (hb2.mono hBz))) m (by omega)
          have hrt := HRT.out m (by omega)
          have hlm : l.length - m = l.length - (m + 1) + 1 := by omega
          generalize l[m] = r at *
          obtain ⟨key, num, tm⟩ := r
          simp only at c0 c1 c2 hrt
          have HR2 := Lib.hid hrt
          have HLM := Lib.hid hlm
          have hml : m < l.length := by omega
          have hnn : l.length - (m + 1) ≤ 400 := by omega
          clear hrt hlm
          generalize hN : l.length - (m + 1) = n at *
          have HN2 := Lib.hid hN
          clear hN
          go_wp2_with (at_builtin; refine wpList_append_own _ rfl _ _ 22 rfl W5.heap.size 29 i0 (.agg #[.string ⟨#[]⟩, .int .i64 0, .int .i64 0]) 3 32 Try.underlying22 hi hz0 hz1 hz2 rfl (by decide) _ _ _ rfl (hown.alloc _) ⟨wr.heap.size, 0, none⟩ 1 1 [.string key, .int .i64 num, .int .i64 tm] rfl rfl (cell_three_at _ _ rfl _ _ _ _) (by intro u hu; simp at hu; rcases hu with rfl | rfl | rfl <;> rfl) (by unfold maxLen; omega) (by omega) (by simp; omega) ?_)
          intro v' w3 hown' hgrow _
          have hb3 : Below W5.heap.size W5 w3 := (hb2.alloc hsz2 _).grown hgrow (by simp; omega) (fun k hk => by have := (hown.lt k hk).1; omega)
          have HO3 : Hid (w3.ownsRow W5.heap.size 29 3 v' (l.length - m) (rcells (l.reverse.take (l.length - m)))) := by
            rw [HR2.out, HLM.out]; exact Lib.hid hown'
          clear hown' hgrow hown hb2 c0 c1 c2
          go_wp2_with fail
          go_roundw
          case rel => exact ⟨m, by omega, by go_num, HO3.out, hb3⟩
          case measure => simp [intOf]; omega
set_option maxRecDepth 100000 in
set_option maxHeartbeats 2000000 in
theorem gaps_walk (w : World) (la : Option Addr) (c : Nat) (l : List Rg) (gap more : Int) (h : CsAt w la (rcells l)) (hn : l.length ≤ 9223372036854775807) (hks : ∀ r ∈ l, r.key.size ≤ 9223372036854775807) :
    Calls Try.prog 4 #[.slice la l.length c, .int .i64 gap, .int .i64 more] w fun e w' => e = .returned (.bool true) ∧ Below w.heap.size w w' := by
  have HF := first_session w
  by_cases hE : recsE l = 0
  · cases hs : spanB gap with
    | true => exact gaps_main w la c l gap more h hE hs
    | false =>
      have HY := fun (u : World) (hu : Below w.heap.size w u) => session_args u la c l gap (h.keep hu) hn hks hE hs
      rw [errV_ne (by omega : (1 : Nat) ≠ 0)] at HY
      clear h hks hE hs
      go_enter Try.func4, Try.ntmps4
      go_wp2_with (go_at_call 9; refine HF.mono ?_; rintro e u1 ⟨b, o, c1, rfl, k1, k2, b1⟩; refine Hid.out ?_)
      refine Lib.hid ?_
      have HY1 := HY u1 b1
      clear HY HF
      go_wp2_with (go_at_call 9; refine HY1.mono ?_; rintro e u2 ⟨rfl, b2⟩)
      go_ret
      exact ⟨rfl, below_after b2 b1⟩
  · have HY := fun (u : World) (hu : Below w.heap.size w u) => session_recs u la c l gap (h.keep hu) hn hks hE
    rw [errV_ne hE] at HY
    generalize recsE l = E at *
    clear h hks hE
    go_enter Try.func4, Try.ntmps4
    go_wp2_with (go_at_call 9; refine HF.mono ?_; rintro e u1 ⟨b, o, c1, rfl, k1, k2, b1⟩; refine Hid.out ?_)
    refine Lib.hid ?_
    have HY1 := HY u1 b1
    clear HY HF
    go_wp2_with (go_at_call 9; refine HY1.mono ?_; rintro e u2 ⟨rfl, b2⟩)
    go_ret
    exact ⟨rfl, below_after b2 b1⟩
end Go.Proofs.Ytfpfaekbakilpaa
