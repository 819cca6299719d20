/- WindowCounts walked. -/
import Derived.Test.YtfpfaekbakilpaaMe
import Derived.Test.YtfpfaekbakilpaaWm
import Derived.Test.YtfpfaekbakilpaaWx
import Derived.Test.YtfpfaekbakilpaaPureWf
namespace Go.Proofs.Ytfpfaekbakilpaa
open Go.RowKit
set_option linter.unusedVariables false

theorem marks_one (slack : Int) (la : Option Addr) (c : Nat) (l : List Rg) : marksP slack [⟨la, c, l⟩] = (List.range l.length).map (fun j => mkM slack l (j + 1)) := by
  unfold marksP
  cases l with
  | nil => rfl
  | cons r l =>
    have e : ([⟨la, c, r :: l⟩] : List Li).filter neL = [⟨la, c, r :: l⟩] := rfl
    rw [e]
    exact least_one slack (r :: l)
theorem ints_at {w : World} {la : Option Addr} {L : List Int} (h : CsAt w la (L.map (Value.int .i64))) (k : Nat) (hk : k < L.length) : ∃ b o, la = some ⟨b, o, none⟩ ∧ w.cell? ⟨b, o + k, none⟩ = some (.int .i64 L[k]) := by
  obtain ⟨b, o, rfl, hc⟩ := h.at (by intro e; have := congrArg List.length e; simp at this; subst this; simp at hk)
  exact ⟨b, o, rfl, hc k _ (by simp [hk])⟩
theorem fact57 : slideP 5 5 0 [⟨⟨#[97]⟩, 5, 7⟩] = [⟨⟨#[97]⟩, 5, 10, 1, 5, 0⟩] := by kernel_rfl
theorem recs57 : recsE [⟨⟨#[97]⟩, 5, 7⟩] = 0 := by decide +kernel
theorem first_count (w : World) : Calls Try.prog 6 #[.slice (some ⟨w.heap.size, 0, none⟩) 1 1, .int .i64 5, .int .i64 0] (w.alloc (.cells #[.string ⟨#[97]⟩, .int .i64 5, .int .i64 7] 29)) fun e w' => ∃ b o cap, e = .returned (.tuple #[.slice (some ⟨b, o, none⟩) 1 cap, .nilIface]) ∧ w'.cell? ⟨b, o + 1, none⟩ = some (.int .i64 5) ∧ w'.cell? ⟨b, o + 4, none⟩ = some (.int .i64 5) ∧ Below w.heap.size w w' := by
  have h := tumble_yes (w.alloc (.cells #[.string ⟨#[97]⟩, .int .i64 5, .int .i64 7] 29)) (some ⟨w.heap.size, 0, none⟩) 1 [⟨⟨#[97]⟩, 5, 7⟩] 5 0 (cs_one w ⟨⟨#[97]⟩, 5, 7⟩) recs57 (by decide) (by decide)
  rw [fact57] at h
  refine Calls.mono h ?_
  rintro e w' ⟨A, cap, rfl, hC, -, hb⟩
  obtain ⟨b, o, rfl, -, c1, -, -, c4, -⟩ := pns_at hC.cs 0 (by simp)
  exact ⟨b, o, cap, rfl, by simpa using c1, by simpa using c4, below_after hb ((Below.refl _ _).alloc (Nat.le_refl _) _)⟩
set_option maxRecDepth 100000 in
set_option maxHeartbeats 8000000 in
theorem counts_main (w : World) (la : Option Addr) (c : Nat) (l : List Rg) (size slack : Int) (h : CsAt w la (rcells l)) (hE : recsE l = 0) (hs : spanB size = true) (hsl : slackB slack = true) :
    Calls Try.prog 3 #[.slice la l.length c, .int .i64 size, .int .i64 slack] w fun e w' => e = .returned (.bool true) ∧ Below w.heap.size w w' := by
  have HF := first_count w
  obtain ⟨hl, hr⟩ := recs_ok hE
  obtain ⟨i0, hi, hz0, hz1, hz2⟩ := info_parts infoR
  have a1 : 1 ≤ size ∧ size ≤ 1000000 := by unfold spanB at hs; simpa using hs
  obtain ⟨g0, g1⟩ := a1
  have hr2 : ∀ r ∈ l, 0 ≤ r.tm ∧ r.tm ≤ 1000000 := fun r hr' => (hr r hr').2
  have HY := fun (u : World) (hu : Below w.heap.size w u) => tumble_yes u la c l size slack (h.keep hu) hE hs hsl
  have HS := fun (u : World) (hu : Below w.heap.size w u) => side_yes u la c l size (h.keep hu) hE hs
  have hEr : recsE l.reverse = 0 := recs_zero (by simp; omega) (fun r hr' => hr r (by simpa using hr'))
  have HQ := fun (u : World) (a3 : Option Addr) (c3 : Nat) (hu : CsAt u a3 (rcells l.reverse)) => side_yes u a3 c3 l.reverse size hu hEr hs
  rw [side_rev] at HQ
  simp only [List.length_reverse] at HQ
  have hal : allR [⟨la, c, l⟩] = l := by simp [allR]
  have HM := fun (u : World) (hu : Below w.heap.size w u) => marks_yes (u.alloc (.cells #[.slice la l.length c] 22)) (some ⟨u.heap.size, 0, none⟩) 1 [⟨la, c, l⟩] slack (.inr ⟨_, _, rfl, fun j v hv => by
    match j, hv with
    | 0, hv => simp [liV] at hv; subst hv; simp
    | j + 1, hv => simp at hv⟩) (fun x hx => by simp at hx; subst hx; exact h.keep (hu.alloc hu.size _)) (by simp) (by rw [hal]; exact hE) hsl
  rw [marks_one] at HM
  obtain ⟨i1, i2, -⟩ := sl_iv (size := size) (by_ := size) (slack := slack) g0 (by omega) l (by omega)
  have htot : totP size size l = l.length := by
    have : ∀ m : List Rg, (∀ r ∈ m, 0 ≤ r.tm) → totP size size m = m.length := by
      intro m
      induction m with
      | nil => intro _; rfl
      | cons r m ih =>
        intro hm
        have e := nP_side (t := r.tm) g0 (hm r (by simp))
        have := ih (fun x hx => hm x (by simp [hx]))
        unfold totP at this ⊢
        simp only [List.map_cons, List.sum_cons, e, this, List.length_cons]; omega
    exact this l (fun r hr' => (hr2 r hr').1)
  rw [htot] at i1 i2
  have ibd := sl_fr (slack := slack) g0 l hr2
  have ipl := slS_len (slack := slack) g0 (show size ≤ 16 * size by omega) l
  have q1 : ∀ p ∈ slideP size size slack l, 0 ≤ p.mn ∧ 0 ≤ p.lt ∧ 1 ≤ p.mn + p.lt ∧ p.mn + p.lt ≤ l.length ∧ p.to = p.fr + size ∧ 0 ≤ p.fr ∧ p.fr ≤ 1000000 ∧ p.fr % size = 0 := fun p hp => ⟨i1.mn p hp, i1.lt p hp, i1.one p hp, i1.le p hp, i1.to p hp, (ibd p hp).1, (ibd p hp).2.1, (ibd p hp).2.2⟩
  have q2 : sumF (fun p => p.mn + p.lt) (slideP size size slack l) = l.length := i2
  have q3 : ∀ (i : Nat) (p q : Pn), (slideP size size slack l)[i]? = some p → (slideP size size slack l)[i + 1]? = some q → p.key = q.key → p.to ≤ q.fr := fun i p q e1 e2 hk => by
    obtain ⟨h1, rfl⟩ := List.getElem?_eq_some_iff.1 e1
    obtain ⟨h2, rfl⟩ := List.getElem?_eq_some_iff.1 e2
    have hA := List.pairwise_iff_getElem.1 i1.ris i (i + 1) h1 h2 (by omega)
    exact side_apart g0 (q1 _ (List.getElem_mem h1)).2.2.2.2.2.2.2 (q1 _ (List.getElem_mem h2)).2.2.2.2.2.2.2 (q1 _ (List.getElem_mem h1)).2.2.2.2.1 hA hk
  have q4 := sumF_part (f := fun p : Pn => p.mn + p.lt) (L := slideP size size slack l) (fun p hp' => by have := (q1 p hp').2.2.1; omega)
  have q5 := sumF_take (fun p : Pn => p.mn + p.lt) (slideP size size slack l)
  have hpl : (slideP size size slack l).length ≤ 6400 := by unfold slideP; omega
  rw [q2] at q4
  have hsp : (sideP size l).length ≤ 6400 := by
    have := slS_len (slack := 1000000) g0 (show size ≤ 16 * size by omega) l
    rw [sl_side g0 l hr2] at this
    simp only at this
    omega
  have hfl : ((List.range l.length).map (fun j => mkM slack l (j + 1))).length = l.length := by simp
  have hfm : ∀ (j : Nat) (x y : Int), ((List.range l.length).map (fun j => mkM slack l (j + 1)))[j]? = some x → ((List.range l.length).map (fun j => mkM slack l (j + 1)))[j + 1]? = some y → x ≤ y := fun j x y e1 e2 => by
    obtain ⟨h1, rfl⟩ := List.getElem?_eq_some_iff.1 e1
    obtain ⟨h2, rfl⟩ := List.getElem?_eq_some_iff.1 e2
    simp only [List.length_map, List.length_range] at h1 h2
    simp only [List.getElem_map, List.getElem_range]
    exact mkM_mono slack l (j + 1) h2
  have hrt := rev_take l
  rw [hfl] at HM
  generalize (List.range l.length).map (fun j => mkM slack l (j + 1)) = FM at *
  generalize slideP size size slack l = PP at *
  generalize sideP size l = SP at *
  have H := Lib.hid h
  have Q1 := Lib.hid q1
  have Q2 := Lib.hid q2
  have Q3 := Lib.hid q3
  have Q4 := Lib.hid q4
  have Q5 := Lib.hid q5
  have HRT := Lib.hid hrt
  have HQ' := Lib.hid HQ
  have HM' := Lib.hid HM
  have HS' := Lib.hid HS
  have HFL := Lib.hid hfl
  have HFM := Lib.hid hfm
  clear q1 q2 q3 q4 q5 hr hr2 h hE hs hsl hEr hrt HQ HM HS hfl hfm i1 i2 htot ibd ipl hal
  go_enter Try.func3, Try.ntmps3
  go_wp2_with (go_at_call 6; refine HF.mono ?_; rintro e u1 ⟨b, o, c1, rfl, k1, k2, b1⟩; refine Hid.out ?_)
  refine Lib.hid ?_
  have HY1 := HY u1 b1
  clear HY HF
  go_wp2_with (go_at_call 6; refine HY1.mono ?_; rintro e u2 ⟨A2, c2, rfl, hC2, hcap2, b2'⟩; refine Hid.out ?_)
  refine Lib.hid ?_
  have b2 := below_after b2' b1
  have HC2 := Lib.hid hC2.cs
  clear HY1 hC2 b2' k1 k2 b1
  go_wp2_with fail
  go_loopw [11, 12] (fun n i wr => ∃ k : Nat, k ≤ PP.length ∧ i = .int .i64 k ∧ n = .int .i64 (sumF (fun p => p.mn + p.lt) (PP.take k)) ∧ CsAt wr A2 (pcells PP) ∧ Below w.heap.size w wr) (fun _ i _ => PP.length - (intOf i).toNat)
  case atStart => exact ⟨0, by omega, rfl, rfl, HC2.out, b2⟩
  case round =>
    obtain ⟨k, hk, rfl, rfl, hcs, hb⟩ := hrel
    obtain ⟨y0, y1⟩ := Q4.out k
    by_cases hlt : k < PP.length
    · obtain ⟨b, o, rfl, p0, p1, p2, p3, p4, p5⟩ := pns_at hcs k hlt
      obtain ⟨m1, m2, m3, m4, m5, m6, m7, m8⟩ := Q1.out _ (List.getElem_mem hlt)
      have k5 := Q5.out k hlt
      have hcs2 := hcs
      have HCS := Lib.hid hcs
      have X5 := Lib.hid k5
      clear hcs k5
      have hfin : ∀ u : World, u.heap = wr.heap → CsAt u (some ⟨b, o, none⟩) (pcells PP) := fun u hu => by
        have := HCS.out
        unfold CsAt World.cell? at *
        rw [hu]; exact this
      have HFin := Lib.hid hfin
      clear hfin
      by_cases hk0 : k = 0
      · have hkd : decide ((0 : Int) < (k : Int)) = false := by simp; omega
        have hkd2 : decide (0 < k) = false := by simp; omega
        generalize PP[k] = p at *
        obtain ⟨key, pf, pt, pm, ps, pl⟩ := p
        simp only at p0 p1 p2 p3 p4 p5 m1 m2 m3 m4 m5 m6 m7 m8 X5
        have e1 : (pt - pf == size) = true := by simp; omega
        have e2 : (pt - pf != size) = false := by simp; omega
        have e3 : (pf % size == 0) = true := by simp [m8]
        have e4 : (pf % size != 0) = false := by simp [m8]
        have e5 : decide (pm + pl < 1) = false := by simp; omega
        have t1 : pt ≤ 2000000 := by omega
        have t2 : 0 ≤ pt := by omega
        generalize sumF (fun p => p.mn + p.lt) (PP.take k) = S at *
        clear hk0 hcs2 m5 m8
        go_wp2_with fail
        go_quiet (fail)
        go_wp2_with fail
        go_quiet (fail)
        go_wp2_with fail
        go_quiet (fail)
        go_wp2_with fail
        go_roundw
        case rel => exact ⟨k + 1, by omega, by go_num, by rw [X5.out]; go_num, HFin.out _ rfl, ⟨hb.os, hb.tape, hb.output, hb.size, hb.block⟩⟩
        case measure => simp [intOf]; omega
      · obtain ⟨j, rfl⟩ : ∃ j, k = j + 1 := ⟨k - 1, by omega⟩
        obtain ⟨b', o', eb, r0, r1, r2, r3, r4, r5⟩ := pns_at hcs2 j (by omega)
        simp only [Option.some.injEq, Addr.mk.injEq, and_true] at eb
        obtain ⟨rfl, rfl⟩ := eb
        have hap := Q3.out j (PP[j]'(by omega)) PP[j + 1] (List.getElem?_eq_getElem _) (List.getElem?_eq_getElem _)
        generalize PP[j + 1] = p at *
        generalize PP[j]'(by omega) = q at *
        obtain ⟨key, pf, pt, pm, ps, pl⟩ := p
        obtain ⟨qk, qf, qt, qm, qs, ql⟩ := q
        simp only at p0 p1 p2 p3 p4 p5 m1 m2 m3 m4 m5 m6 m7 m8 X5 r0 r1 r2 r3 r4 r5 hap
        have e1 : (pt - pf == size) = true := by simp; omega
        have e2 : (pt - pf != size) = false := by simp; omega
        have e3 : (pf % size == 0) = true := by simp [m8]
        have e4 : (pf % size != 0) = false := by simp [m8]
        have e5 : decide (pm + pl < 1) = false := by simp; omega
        have t1 : pt ≤ 2000000 := by omega
        have t2 : 0 ≤ pt := by omega
        have hj0 : (0 : Int) ≤ (j : Int) := by omega
        have hkd : decide ((0 : Int) < (j : Int) + 1) = true := by simp
        have hjl : (j : Int) < (PP.length : Int) := by omega
        have hjl1 : (j : Int) + 1 < (PP.length : Int) := by omega
        generalize sumF (fun p => p.mn + p.lt) (PP.take (j + 1)) = S at *
        clear hk0 hcs2 m5 m8
        by_cases hkk : qk = key
        · subst hkk
          have hap2 := hap rfl
          have hwd2 : decide (pf < qt) = false := by simp; omega
          clear hap
          go_wp2_with fail
          go_quiet (fail)
          go_wp2_with fail
          go_quiet (fail)
          go_wp2_with fail
          go_quiet (fail)
          go_wp2_with fail
          go_roundw
          case rel => exact ⟨j + 1 + 1, by omega, by go_num, by rw [X5.out]; go_num, HFin.out _ rfl, ⟨hb.os, hb.tape, hb.output, hb.size, hb.block⟩⟩
          case measure => simp [intOf]; omega
        · have hkn : (qk.toList == key.toList) = false := str_ne hkk
          clear hap
          go_wp2_with fail
          go_quiet (fail)
          go_wp2_with fail
          go_quiet (fail)
          go_wp2_with fail
          go_quiet (fail)
          go_wp2_with fail
          go_roundw
          case rel => exact ⟨j + 1 + 1, by omega, by go_num, by rw [X5.out]; go_num, HFin.out _ rfl, ⟨hb.os, hb.tape, hb.output, hb.size, hb.block⟩⟩
          case measure => simp [intOf]; omega
    · have ek : PP.take k = PP := List.take_of_length_le (by omega)
      rw [ek, Q2.out]
      have HS1 := HS'.out wr hb
      clear ek hcs y0 y1
      have hll : ((l.length : Int) == (l.length : Int)) = true := by simp
      go_wp2_with (go_at_call 6; refine HS1.mono ?_; rintro e W5 ⟨A3, c3, rfl, hC3, hcap3, b3'⟩; refine Hid.out ?_)
      refine Lib.hid ?_
      have b5 := hb.trans (b3'.mono hb.size)
      have HA := Lib.hid hC3
      have hBz := b5.size
      clear HS1 hC3 b3' hb
      go_wp2_with fail
      go_loopw [15, 16] (fun v i wr => ∃ m : Nat, m ≤ l.length ∧ i = .int .i64 ((m : Int) - 1) ∧ wr.ownsRow W5.heap.size 29 3 v (l.length - m) (rcells (l.reverse.take (l.length - m))) ∧ Below W5.heap.size W5 wr) (fun _ i _ => (1 + intOf i).toNat)
      case atStart => exact ⟨l.length, by omega, rfl, by rw [Nat.sub_self]; exact World.ownsRow_nil _ _ _ _, Below.refl _ _⟩
      case round =>
        obtain ⟨m, hm, rfl, hown, hb2⟩ := hrel
        have hsz2 := hb2.size
        cases m with
        | zero =>
          rw [Nat.sub_zero, List.take_of_length_le (by simp)] at hown
          obtain ⟨A4, c4, rfl⟩ := row_slice hown
          have hcs4 := (own_cs hown (by rw [rcells_len, List.length_reverse])).1
          have HQ1 := HQ'.out _ A4 c4 hcs4
          have b6 := b5.trans (hb2.mono hBz)
          have HA6 := Lib.hid (HA.out.keep hb2)
          clear hown hcs4 hb2 HA HQ'
          go_wp2_with (go_at_call 6; refine HQ1.mono ?_; rintro e u7 ⟨A7, c7, rfl, hC7, hcap7, b7'⟩; refine Hid.out ?_)
          refine Lib.hid ?_
          have b7 := b6.trans (b7'.mono b6.size)
          have HP := psame_any u7 A3 A7 c3 c7 SP (HA6.out.keep b7') hC7 (by omega)
          clear HQ1 hC7 b7' HA6 b6
          go_wp2_with (go_at_call 7; refine HP.mono ?_; rintro e u8 ⟨rfl, b8'⟩; refine Hid.out ?_)
          refine Lib.hid ?_
          have b8 := b7.trans (b8'.mono b7.size)
          have HM1 := HM'.out u8 b8
          simp only [List.length_cons, List.length_nil, Nat.zero_add] at HM1
          clear HP b8' b7 HM'
          go_wp2_with (go_at_call 8; refine HM1.mono ?_; rintro e u9 ⟨A9, c9, rfl, hC9, b9'⟩; refine Hid.out ?_)
          refine Lib.hid ?_
          have b9 : Below w.heap.size w u9 := (b8.alloc b8.size _).trans (b9'.mono (by have := b8.size; simp; omega))
          have HC9 := Lib.hid hC9
          clear HM1 hC9 b9'
          go_wp2_with fail
          go_loopw [22] (fun i wr => ∃ j : Nat, (j = 0 ∨ j + 1 ≤ l.length) ∧ i = .int .i64 ((j + 1 : Nat) : Nat) ∧ CsAt wr A9 (FM.map (Value.int .i64)) ∧ Below w.heap.size w wr) (fun i _ => l.length - (intOf i).toNat)
          case atStart => exact ⟨0, .inl rfl, rfl, HC9.out, b9⟩
          case round =>
            obtain ⟨j, hj, rfl, hcs, hb⟩ := hrel
            by_cases hlt2 : j + 1 < l.length
            · obtain ⟨b, o, rfl, p0⟩ := ints_at hcs j (by rw [HFL.out]; omega)
              obtain ⟨b', o', eb, p1⟩ := ints_at hcs (j + 1) (by rw [HFL.out]; omega)
              simp only [Option.some.injEq, Addr.mk.injEq, and_true] at eb
              obtain ⟨rfl, rfl⟩ := eb
              have hmo := HFM.out j _ _ (List.getElem?_eq_getElem (by rw [HFL.out]; omega)) (List.getElem?_eq_getElem (by rw [HFL.out]; omega))
              generalize FM[j]'(by rw [HFL.out]; omega) = x at *
              generalize FM[j + 1]'(by rw [HFL.out]; omega) = y at *
              have hfin : ∀ u : World, u.heap = wr.heap → CsAt u (some ⟨b, o, none⟩) (FM.map (Value.int .i64)) := fun u hu => by
                have := hcs
                unfold CsAt World.cell? at *
                rw [hu]; exact this
              have HFin := Lib.hid hfin
              have hj0 : (0 : Int) ≤ (j : Int) := by omega
              have hjl : (j : Int) < (l.length : Int) := by omega
              have hjl1 : (j : Int) + 1 < (l.length : Int) := by omega
              have hxy : decide (y < x) = false := by simp; omega
              clear hcs hfin
              go_wp2_with fail
              go_quiet (fail)
              go_wp2_with fail
              go_roundw
              case rel => exact ⟨j + 1, .inr (by omega), by go_num, HFin.out _ rfl, ⟨hb.os, hb.tape, hb.output, hb.size, hb.block⟩⟩
              case measure => simp [intOf]; omega
            · clear hcs
              go_wp2_with fail
              go_ret
              exact ⟨ret_bool (by first | (simp; done) | (simp; omega)), hb⟩
        | succ m =>
          obtain ⟨b, o, rfl, c0, c1, c2⟩ := rcs_at (H.out.keep (b5.trans (hb2.mono hBz))) m (by omega)
          have hrt := HRT.out m (by omega)
          have hlm : l.length - m = l.length - (m + 1) + 1 := by omega
          generalize l[m] = r at *
          obtain ⟨key, num, tm⟩ := r
          simp only at c0 c1 c2 hrt
          have HR2 := Lib.hid hrt
          have HLM := Lib.hid hlm
          have hml : m < l.length := by omega
          have hnn : l.length - (m + 1) ≤ 400 := by omega
          clear hrt hlm
          generalize hN : l.length - (m + 1) = n at *
          have HN2 := Lib.hid hN
          clear hN
          go_wp2_with (at_builtin; refine wpList_append_own _ rfl _ _ 22 rfl W5.heap.size 29 i0 (.agg #[.string ⟨#[]⟩, .int .i64 0, .int .i64 0]) 3 32 Try.underlying22 hi hz0 hz1 hz2 rfl (by decide) _ _ _ rfl (hown.alloc _) ⟨wr.heap.size, 0, none⟩ 1 1 [.string key, .int .i64 num, .int .i64 tm] rfl rfl (cell_three_at _ _ rfl _ _ _ _) (by intro u hu; simp at hu; rcases hu with rfl | rfl | rfl <;> rfl) (by unfold maxLen; omega) (by omega) (by simp; omega) ?_)
          intro v' w3 hown' hgrow _
          have hb3 : Below W5.heap.size W5 w3 := (hb2.alloc hsz2 _).grown hgrow (by simp; omega) (fun k hk => by have := (hown.lt k hk).1; omega)
          have HO3 : Hid (w3.ownsRow W5.heap.size 29 3 v' (l.length - m) (rcells (l.reverse.take (l.length - m)))) := by
            rw [HR2.out, HLM.out]; exact Lib.hid hown'
          clear hown' hgrow hown hb2 c0 c1 c2
          go_wp2_with fail
          go_roundw
          case rel => exact ⟨m, by omega, by go_num, HO3.out, hb3⟩
          case measure => simp [intOf]; omega
set_option maxRecDepth 100000 in
set_option maxHeartbeats 2000000 in
theorem counts_walk (w : World) (la : Option Addr) (c : Nat) (l : List Rg) (size slack : Int) (h : CsAt w la (rcells l)) (hn : l.length ≤ 9223372036854775807) (hks : ∀ r ∈ l, r.key.size ≤ 9223372036854775807) :
    Calls Try.prog 3 #[.slice la l.length c, .int .i64 size, .int .i64 slack] w fun e w' => e = .returned (.bool true) ∧ Below w.heap.size w w' := by
  by_cases hno : recsE l = 0 ∧ spanB size = true ∧ slackB slack = true
  · exact counts_main w la c l size slack h hno.1 hno.2.1 hno.2.2
  · have HF := first_count w
    have HY := fun (u : World) (hu : Below w.heap.size w u) => tumble_no u la c l size slack (h.keep hu) hn hks hno
    clear h hks hno
    go_enter Try.func3, Try.ntmps3
    go_wp2_with (go_at_call 6; refine HF.mono ?_; rintro e u1 ⟨b, o, c1, rfl, k1, k2, b1⟩; refine Hid.out ?_)
    refine Lib.hid ?_
    have HY1 := HY u1 b1
    clear HY HF
    go_wp2_with (go_at_call 6; refine HY1.mono ?_; rintro e u2 ⟨E, rfl, b2⟩)
    go_ret
    exact ⟨rfl, below_after b2 b1⟩
end Go.Proofs.Ytfpfaekbakilpaa
