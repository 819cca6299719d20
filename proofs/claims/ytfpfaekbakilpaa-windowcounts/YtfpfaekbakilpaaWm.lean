/- WindowShifts walked. -/
import Derived.Test.YtfpfaekbakilpaaWi
import Derived.Test.YtfpfaekbakilpaaPureWc
namespace Go.Proofs.Ytfpfaekbakilpaa
open Go.RowKit
set_option linter.unusedVariables false

theorem fact3 : slideP 2 2 0 [⟨⟨#[97]⟩, 2, 3⟩] = [⟨⟨#[97]⟩, 2, 4, 1, 2, 0⟩] := by kernel_rfl
theorem recs3 : recsE [⟨⟨#[97]⟩, 2, 3⟩] = 0 := by decide +kernel
theorem first_tumble (w : World) : Calls Try.prog 6 #[.slice (some ⟨w.heap.size, 0, none⟩) 1 1, .int .i64 2, .int .i64 0] (w.alloc (.cells #[.string ⟨#[97]⟩, .int .i64 2, .int .i64 3] 29)) fun e w' => ∃ b o cap, e = .returned (.tuple #[.slice (some ⟨b, o, none⟩) 1 cap, .nilIface]) ∧ w'.cell? ⟨b, o + 1, none⟩ = some (.int .i64 2) ∧ Below w.heap.size w w' := by
  have h := tumble_yes (w.alloc (.cells #[.string ⟨#[97]⟩, .int .i64 2, .int .i64 3] 29)) (some ⟨w.heap.size, 0, none⟩) 1 [⟨⟨#[97]⟩, 2, 3⟩] 2 0 (cs_one w ⟨⟨#[97]⟩, 2, 3⟩) recs3 (by decide) (by decide)
  rw [fact3] at h
  refine Calls.mono h ?_
  rintro e w' ⟨A, cap, rfl, hC, -, hb⟩
  obtain ⟨b, o, rfl, -, c1, -⟩ := pns_at hC.cs 0 (by simp)
  exact ⟨b, o, cap, rfl, by simpa using c1, below_after hb ((Below.refl _ _).alloc (Nat.le_refl _) _)⟩
theorem side_yes (w : World) (la : Option Addr) (c : Nat) (l : List Rg) (size : Int) (h : CsAt w la (rcells l)) (hE : recsE l = 0) (s1 : spanB size = true) :
    Calls Try.prog 6 #[.slice la l.length c, .int .i64 size, .int .i64 1000000] w fun e w' => ∃ A cap, e = .returned (.tuple #[.slice A (sideP size l).length cap, .nilIface]) ∧ CsAt w' A (pcells (sideP size l)) ∧ (sideP size l).length ≤ cap ∧ Below w.heap.size w w' := by
  have a1 : 1 ≤ size ∧ size ≤ 1000000 := by unfold spanB at s1; simpa using s1
  have H := tumble_yes w la c l size 1000000 h hE s1 (by decide)
  have e : slideP size size 1000000 l = sideP size l := by
    unfold slideP
    rw [sl_side a1.1 l (fun r hr => ((recs_ok hE).2 r hr).2)]
  rw [e] at H
  refine Calls.mono H ?_
  rintro e w' ⟨A, cap, rfl, h1, h2, h3⟩
  exact ⟨A, cap, rfl, h1.cs, h2, h3⟩
theorem tumble_no (w : World) (la : Option Addr) (c : Nat) (l : List Rg) (size slack : Int) (h : CsAt w la (rcells l)) (hn : l.length ≤ 9223372036854775807) (hks : ∀ r ∈ l, r.key.size ≤ 9223372036854775807) (hno : ¬ (recsE l = 0 ∧ spanB size = true ∧ slackB slack = true)) :
    Calls Try.prog 6 #[.slice la l.length c, .int .i64 size, .int .i64 slack] w fun e w' => ∃ E : Int, e = .returned (.tuple #[.slice none 0 0, .iface 40 (.int .i64 E)]) ∧ Below w.heap.size w w' := by
  by_cases hE : recsE l = 0
  · refine (tumble_args w la c l size slack h hn hks hE (by
      cases h1 : spanB size <;> cases h2 : slackB slack <;> simp_all)).mono ?_
    rintro e w' ⟨rfl, hb⟩
    exact ⟨1, rfl, hb⟩
  · refine (tumble_recs w la c l size slack h hn hks hE).mono ?_
    rintro e w' ⟨rfl, hb⟩
    exact ⟨recsE l, by rw [errV_ne hE], hb⟩
theorem sl_fr {size slack : Int} (h1 : 1 ≤ size) (l : List Rg) (hr : ∀ r ∈ l, 0 ≤ r.tm ∧ r.tm ≤ 1000000) : ∀ p ∈ (slS size size slack l).1, 0 ≤ p.fr ∧ p.fr ≤ 1000000 ∧ p.fr % size = 0 := by
  revert hr
  refine snoc_ind (P := fun l => (∀ r ∈ l, 0 ≤ r.tm ∧ r.tm ≤ 1000000) → ∀ p ∈ (slS size size slack l).1, 0 ≤ p.fr ∧ p.fr ≤ 1000000 ∧ p.fr % size = 0) (fun _ p hp => by simp [slS] at hp) (fun l r ih hr => ?_) l
  have i := ih (fun x hx => hr x (by simp [hx]))
  obtain ⟨t0, t1⟩ := hr r (by simp)
  rw [slS_snoc]
  simp only
  rw [take_side h1 t0]
  refine putP_mem_of i ?_
  obtain ⟨-, b2, -⟩ := bump_at size (slS size size slack l).2 r (r.tm / size * size) ((findH (slS size size slack l).1 (r.tm / size * size) r.key).getD pn0)
  rw [b2]
  have e := Int.mul_ediv_add_emod r.tm size
  rw [Int.mul_comm] at e
  have m0 := Int.emod_nonneg r.tm (show size ≠ 0 by omega)
  exact ⟨Int.mul_nonneg (Int.ediv_nonneg t0 (by omega)) (by omega), by omega, Int.mul_emod_left _ _⟩
theorem side_bd {size : Int} (h1 : 1 ≤ size) (l : List Rg) (hr : ∀ r ∈ l, 0 ≤ r.tm ∧ r.tm ≤ 1000000) : ∀ p ∈ sideP size l, 0 ≤ p.fr ∧ p.fr ≤ 1000000 ∧ p.fr % size = 0 := by
  have := sl_fr (slack := 1000000) h1 l hr
  rw [sl_side h1 l hr] at this
  exact this
theorem lat_take (d : Int) (l : List Rg) (k : Nat) (h : k < l.length) : rcells ((l.map (latR d)).take (k + 1)) = rcells ((l.map (latR d)).take k) ++ [.string l[k].key, .int .i64 l[k].num, .int .i64 (l[k].tm + d)] := by
  rw [List.take_succ_eq_append_getElem (by simpa using h), rcells_append, List.getElem_map]; rfl
set_option maxRecDepth 100000 in
set_option maxHeartbeats 8000000 in
theorem shifts_main (w : World) (la : Option Addr) (c : Nat) (l : List Rg) (size by_ : Int) (h : CsAt w la (rcells l)) (hE : recsE l = 0) (z0 : 1 ≤ size) (g1 : ¬ by_ < 0) (g2 : ¬ 9 < by_) (g3 : ¬ 1000 < size) :
    Calls Try.prog 5 #[.slice la l.length c, .int .i64 size, .int .i64 by_] w fun e w' => e = .returned (.bool true) ∧ Below w.heap.size w w' := by
  have HF := first_tumble w
  obtain ⟨hl, hr⟩ := recs_ok hE
  obtain ⟨i0, hi, hz0, hz1, hz2⟩ := info_parts infoR
  have HY := fun (u : World) (hu : Below w.heap.size w u) => side_yes u la c l size (h.keep hu) hE (by unfold spanB; simp; omega)
  have HW := fun (u : World) (hu : Below w.heap.size w u) => side_yes u la c l (2 * size) (h.keep hu) hE (by unfold spanB; simp; omega)
  have pd0 : 0 ≤ by_ * size := Int.mul_nonneg (by omega) (by omega)
  have pd1 : by_ * size ≤ 9000 := by
    have : by_ * size ≤ 9 * size := Int.mul_le_mul_of_nonneg_right (by omega) (by omega)
    omega
  have HQ := fun (u : World) (a3 : Option Addr) (c3 : Nat) (hu : CsAt u a3 (rcells (l.map (latR (by_ * size))))) (ht : ∀ r ∈ l, r.tm + by_ * size ≤ 1000000) => side_yes u a3 c3 (l.map (latR (by_ * size))) size hu (recs_zero (by simp; omega) (fun r hr' => by
    obtain ⟨x, hx, rfl⟩ := List.mem_map.1 hr'
    obtain ⟨x1, x2, x3⟩ := hr x hx
    have := ht x hx
    exact ⟨x1, by simp [latR]; omega, by simp [latR]; omega⟩)) (by unfold spanB; simp; omega)
  have hsl := side_lat (j := by_) z0 rfl (by omega) l (fun r hr' => (hr r hr').2.1)
  rw [hsl] at HQ
  simp only [List.length_map] at HQ
  obtain ⟨i1, i2, i3⟩ := side_cnt z0 l (fun r hr' => (hr r hr').2.1) (by omega)
  obtain ⟨j1, j2, j3⟩ := side_cnt (size := 2 * size) (by omega) l (fun r hr' => (hr r hr').2.1) (by omega)
  have ibd := side_bd z0 l (fun r hr' => (hr r hr').2)
  have isum := side_sum z0 l (fun r hr' => (hr r hr').2.1)
  have jsum := side_sum (size := 2 * size) (by omega) l (fun r hr' => (hr r hr').2.1)
  have hlen := (side_len z0 l).1
  have esum : w64 (sumF (fun p => p.sm) (sideP (2 * size) l)) = w64 (sumF (fun p => p.sm) (sideP size l)) := by rw [isum, jsum]
  have ipl : (sideP size l).length ≤ 6400 := by
    have := slS_len (slack := 1000000) z0 (show size ≤ 16 * size by omega) l
    rw [sl_side z0 l (fun r hr' => (hr r hr').2)] at this
    simp only at this
    omega
  generalize sideP size l = PP at *
  generalize sideP (2 * size) l = WW at *
  have HR := Lib.hid hr
  have HI1 := Lib.hid i1
  have HI3 := Lib.hid i3
  have HJ1 := Lib.hid j1
  have HJ3 := Lib.hid j3
  have HBD := Lib.hid ibd
  have HES := Lib.hid esum
  have H := Lib.hid h
  have HQ' := Lib.hid HQ
  clear hr i1 i2 i3 j1 j2 j3 ibd isum jsum esum h hE hsl HQ
  go_enter Try.func5, Try.ntmps5
  go_wp2_with (go_at_call 6; refine HF.mono ?_; rintro e u1 ⟨b, o, c1, rfl, k1, b1⟩; refine Hid.out ?_)
  refine Lib.hid ?_
  have HY1 := HY u1 b1
  clear HY HF
  go_wp2_with (go_at_call 6; refine HY1.mono ?_; rintro e u2 ⟨A2, c2, rfl, hC2, hcap, b2'⟩; refine Hid.out ?_)
  refine Lib.hid ?_
  have b2 := below_after b2' b1
  have HC2 := Lib.hid hC2
  clear HY1 hC2 b2' k1 b1
  have hBz := b2.size
  go_wp2_with fail
  go_loopw [11, 12] (fun v i wr => ∃ k : Nat, k ≤ l.length ∧ i = .int .i64 k ∧ wr.ownsRow u2.heap.size 29 3 v k (rcells ((l.map (latR (by_ * size))).take k)) ∧ (∀ r ∈ l.take k, r.tm + by_ * size ≤ 1000000) ∧ Below u2.heap.size u2 wr) (fun _ i _ => l.length - (intOf i).toNat)
  case atStart => exact ⟨0, by omega, rfl, World.ownsRow_nil _ _ _ _, by simp, Below.refl _ _⟩
  case round =>
    obtain ⟨k, hk, rfl, hown, htm, hb⟩ := hrel
    have hsz := hb.size
    by_cases hlt : k < l.length
    · obtain ⟨b, o, rfl, c0, c1, c2⟩ := rcs_at (H.out.keep (b2.trans (hb.mono hBz))) k hlt
      obtain ⟨-, r1, r2⟩ := HR.out _ (List.getElem_mem hlt)
      have hlt' := lat_take (by_ * size) l k hlt
      have htk : ∀ r ∈ l.take (k + 1), r ∈ l.take k ∨ r = l[k] := fun r hr' => by
        rw [List.take_succ_eq_append_getElem hlt] at hr'
        simp only [List.mem_append, List.mem_singleton] at hr'
        exact hr'
      generalize l[k] = r at *
      obtain ⟨key, num, tm⟩ := r
      simp only at c0 c1 c2 r1 r2 hlt'
      have HLT := Lib.hid hlt'
      have HTM := Lib.hid htm
      have HTK := Lib.hid htk
      clear hlt' htm htk
      by_cases hbig : 1000000 < tm + by_ * size
      · go_wp2_with fail
        go_ret
        exact ⟨rfl, b2.trans ((hb.alloc hsz _).mono hBz)⟩
      · have hown2 := (hown.alloc (.cells #[.string key, .int .i64 num, .int .i64 (tm + by_ * size)] 29)).alloc (.cells #[.string key, .int .i64 num, .int .i64 (tm + by_ * size)] 29)
        go_wp2_with (at_builtin; refine wpList_append_own _ rfl _ _ 22 rfl u2.heap.size 29 i0 (.agg #[.string ⟨#[]⟩, .int .i64 0, .int .i64 0]) 3 32 Try.underlying22 hi hz0 hz1 hz2 rfl (by decide) _ _ _ rfl hown2 ⟨wr.heap.size + 1, 0, none⟩ 1 1 [.string key, .int .i64 num, .int .i64 (tm + by_ * size)] rfl rfl (cell_three_at _ _ (by simp) _ _ _ _) (by intro u hu; simp at hu; rcases hu with rfl | rfl | rfl <;> rfl) (by unfold maxLen; omega) (by omega) (by simp; omega) ?_)
        intro v' w3 hown' hgrow _
        have hb3 : Below u2.heap.size u2 w3 := ((hb.alloc hsz _).alloc (by simp; omega) _).grown hgrow (by simp; omega) (fun k hk => by have := (hown.lt k hk).1; omega)
        have HO3 : Hid (w3.ownsRow u2.heap.size 29 3 v' (k + 1) (rcells ((l.map (latR (by_ * size))).take (k + 1)))) := by
          rw [HLT.out]; exact Lib.hid hown'
        clear hown' hgrow hown hown2 hb c0 c1 c2
        go_wp2_with fail
        go_roundw
        case rel => exact ⟨k + 1, by omega, by go_num, HO3.out, fun r hr' => by
          rcases HTK.out r hr' with h' | rfl
          · exact HTM.out r h'
          · simp only; omega, hb3⟩
        case measure => simp [intOf]; omega
    · have ek : k = l.length := by omega
      subst ek
      rw [List.take_of_length_le (by simp)] at hown
      rw [List.take_length] at htm
      obtain ⟨A3, c3, rfl⟩ := row_slice hown
      have hcs := (own_cs hown (by rw [rcells_len]; simp)).1
      have HQ1 := HQ'.out wr A3 c3 hcs htm
      have b3 := b2.trans (hb.mono hBz)
      have HC3 := Lib.hid (HC2.out.keep hb)
      clear hown htm hcs hb HC2
      go_wp2_with (go_at_call 6; refine HQ1.mono ?_; rintro e u4 ⟨A4, c4, rfl, hC4, hcap4, b4'⟩; refine Hid.out ?_)
      refine Lib.hid ?_
      have b4 := b3.trans (b4'.mono b3.size)
      have HC4 := Lib.hid (HC3.out.keep b4')
      have HD4 := Lib.hid hC4
      clear HC3 hC4 HQ1 b4' HQ' b3
      have hb0 : ((PP.length : Int) == (PP.length : Int)) = true := by simp
      go_wp2_with fail
      go_loopw [16] (fun i wr => ∃ k : Nat, k ≤ PP.length ∧ i = .int .i64 k ∧ CsAt wr A2 (pcells PP) ∧ CsAt wr A4 (pcells (PP.map (lat (by_ * size)))) ∧ Below w.heap.size w wr) (fun i _ => PP.length - (intOf i).toNat)
      case atStart => exact ⟨0, by omega, rfl, HC4.out, HD4.out, b4⟩
      case round =>
        obtain ⟨k, hk, rfl, hca, hcb, hb⟩ := hrel
        have hsz2 := hb.size
        by_cases hlt : k < PP.length
        · obtain ⟨b, o, rfl, p0, p1, p2, p3, p4, p5⟩ := pns_at hca k hlt
          obtain ⟨b', o', rfl, q0, q1, q2, q3, q4, q5⟩ := pns_at hcb k (by simpa using hlt)
          simp only [List.getElem_map, lat] at q0 q1 q2 q3 q4 q5
          obtain ⟨f0, f1, -⟩ := HBD.out _ (List.getElem_mem hlt)
          have ft := HI1.out.to _ (List.getElem_mem hlt)
          have HN := fun u => neqPn (lat (by_ * size) PP[k]) u
          generalize PP[k] = p at *
          obtain ⟨key, pf, pt, pm, ps, pl⟩ := p
          simp only at f0 f1 ft
          subst ft
          simp only [pV, lat] at p0 p1 p2 p3 p4 p5 q0 q1 q2 q3 q4 q5 HN
          have l1 := cell_lt p0
          have l2 := cell_lt q0
          have HA := Lib.hid hca
          have HB := Lib.hid hcb
          clear hca hcb
          go_wp2_with fail
          go_quiet (fail)
          go_wp2_with fail
          go_roundw
          case rel => exact ⟨k + 1, by omega, by go_num, HA.out.keep (((Below.refl _ _).alloc (Nat.le_refl _) _).trans ⟨rfl, rfl, rfl, Nat.le_refl _, fun _ _ => rfl⟩), HB.out.keep (((Below.refl _ _).alloc (Nat.le_refl _) _).trans ⟨rfl, rfl, rfl, Nat.le_refl _, fun _ _ => rfl⟩), (hb.alloc hsz2 _).trans ⟨rfl, rfl, rfl, Nat.le_refl _, fun _ _ => rfl⟩⟩
          case measure => simp [intOf]; omega
        · have HW1 := HW wr hb
          have HA := Lib.hid hca
          clear hca hcb HW
          go_wp2_with (go_at_call 6; refine HW1.mono ?_; rintro e u5 ⟨A5, c5, rfl, hC5, hcap5, b5'⟩; refine Hid.out ?_)
          refine Lib.hid ?_
          have b5 := hb.trans (b5'.mono hb.size)
          have HA5 := Lib.hid (HA.out.keep b5')
          have HB5 := Lib.hid hC5
          clear hC5 b5' HA HW1
          have hst1 := sumF_take (fun p : Pn => p.mn) WW
          have hst2 := sumF_take (fun p : Pn => p.sm) WW
          have hst3 := sumF_take (fun p : Pn => p.mn) PP
          have hst4 := sumF_take (fun p : Pn => p.sm) PP
          have hpt1 := sumF_part (f := fun p : Pn => p.mn) (L := WW) HJ1.out.mn
          have hpt3 := sumF_part (f := fun p : Pn => p.mn) (L := PP) HI1.out.mn
          rw [HJ3.out] at hpt1
          rw [HI3.out] at hpt3
          have K1 := Lib.hid hst1
          have K2 := Lib.hid hst2
          have K3 := Lib.hid hst3
          have K4 := Lib.hid hst4
          have P1 := Lib.hid hpt1
          have P3 := Lib.hid hpt3
          clear hst1 hst2 hst3 hst4 hpt1 hpt3
          go_wp2_with fail
          go_loopw [19, 20, 21] (fun n s i wr => ∃ k : Nat, k ≤ WW.length ∧ i = .int .i64 k ∧ n = .int .i64 (sumF (fun p => p.mn) (WW.take k)) ∧ s = .int .i64 (w64 (sumF (fun p => p.sm) (WW.take k))) ∧ u5 = wr) (fun _ _ i _ => WW.length - (intOf i).toNat)
          case atStart => exact ⟨0, by omega, rfl, rfl, rfl, rfl⟩
          case round =>
            obtain ⟨k, hk, rfl, rfl, rfl, rfl⟩ := hrel
            obtain ⟨y0, y1⟩ := P1.out k
            by_cases hlt : k < WW.length
            · obtain ⟨b, o, rfl, p0, p1, p2, p3, p4, p5⟩ := pns_at HB5.out k hlt
              have m1 := HJ1.out.mn _ (List.getElem_mem hlt)
              have m2 := HJ1.out.lt _ (List.getElem_mem hlt)
              have m3 := HJ1.out.le _ (List.getElem_mem hlt)
              have k1 := K1.out k hlt
              have k2 := K2.out k hlt
              generalize WW[k] = p at *
              obtain ⟨key, pf, pt, pm, ps, pl⟩ := p
              simp only at p0 p1 p2 p3 p4 p5 m1 m2 m3 k1 k2
              have X1 := Lib.hid k1
              have X2 := Lib.hid k2
              clear k1 k2
              generalize sumF (fun p => p.mn) (WW.take k) = S1 at *
              generalize sumF (fun p => p.sm) (WW.take k) = S2 at *
              generalize hS3 : w64 S2 = S3 at *
              have HS3 := Lib.hid hS3
              clear hS3
              go_wp2_with fail
              go_roundw
              case rel => exact ⟨k + 1, by omega, by go_num, by rw [X1.out], by rw [X2.out, w64_eq, ← HS3.out, w64_add], trivial⟩
              case measure => simp [intOf]; omega
            · have ek : WW.take k = WW := List.take_of_length_le (by omega)
              rw [ek, HJ3.out]
              have HD0 : Hid (w64 (sumF (fun p => p.sm) WW) = w64 (sumF (fun p => p.sm) WW - sumF (fun p => p.sm) (PP.take 0))) := by
                show w64 _ = w64 (_ - 0)
                rw [Int.sub_zero]
              clear ek y0 y1
              go_wp2_with fail
              go_loopw [19, 20, 22] (fun n s i wr => ∃ k : Nat, k ≤ PP.length ∧ i = .int .i64 k ∧ n = .int .i64 (l.length - sumF (fun p => p.mn) (PP.take k)) ∧ s = .int .i64 (w64 (sumF (fun p => p.sm) WW - sumF (fun p => p.sm) (PP.take k))) ∧ u5 = wr) (fun _ _ i _ => PP.length - (intOf i).toNat)
              case atStart => exact ⟨0, by omega, rfl, by simp [sumF], by rw [HD0.out], rfl⟩
              case round =>
                obtain ⟨k2, hk2, rfl, rfl, rfl, rfl⟩ := hrel
                obtain ⟨y0, y1⟩ := P3.out k2
                by_cases hlt : k2 < PP.length
                · obtain ⟨b, o, rfl, p0, p1, p2, p3, p4, p5⟩ := pns_at HA5.out k2 hlt
                  have m1 := HI1.out.mn _ (List.getElem_mem hlt)
                  have m2 := HI1.out.lt _ (List.getElem_mem hlt)
                  have m3 := HI1.out.le _ (List.getElem_mem hlt)
                  have k1 := K3.out k2 hlt
                  have k2' := K4.out k2 hlt
                  have k3 := P3.out (k2 + 1)
                  rw [k1] at k3
                  generalize PP[k2] = p at *
                  obtain ⟨key, pf, pt, pm, ps, pl⟩ := p
                  simp only at p0 p1 p2 p3 p4 p5 m1 m2 m3 k1 k2' k3
                  have X1 := Lib.hid k1
                  have X2 := Lib.hid k2'
                  clear k1 k2'
                  generalize sumF (fun p => p.mn) (PP.take k2) = S1 at *
                  generalize sumF (fun p => p.sm) (PP.take k2) = S2 at *
                  generalize sumF (fun p => p.sm) WW = SW at *
                  generalize hS3 : w64 (SW - S2) = S3 at *
                  have HS3 := Lib.hid hS3
                  clear hS3
                  go_wp2_with fail
                  go_roundw
                  case rel => exact ⟨k2 + 1, by omega, by go_num, by rw [X1.out]; congr 1; omega, by rw [X2.out, w64_eq, ← HS3.out, w64_dif]; congr 2; omega, trivial⟩
                  case measure => simp [intOf]; omega
                · have ek : PP.take k2 = PP := List.take_of_length_le (by omega)
                  rw [ek, HI3.out, w64_sub HES.out]
                  have e0 : ((l.length : Int) - (l.length : Int)) = 0 := by omega
                  rw [e0]
                  clear ek y0 y1 e0
                  go_wp2_with fail
                  go_ret
                  exact ⟨ret_bool (by first | (simp; done) | (simp; omega)), b5⟩
set_option maxRecDepth 100000 in
set_option maxHeartbeats 8000000 in
theorem shifts_walk (w : World) (la : Option Addr) (c : Nat) (l : List Rg) (size by_ : Int) (h : CsAt w la (rcells l)) (hn : l.length ≤ 9223372036854775807) (hks : ∀ r ∈ l, r.key.size ≤ 9223372036854775807) :
    Calls Try.prog 5 #[.slice la l.length c, .int .i64 size, .int .i64 by_] w fun e w' => e = .returned (.bool true) ∧ Below w.heap.size w w' := by
  have HF := first_tumble w
  by_cases hno : recsE l = 0 ∧ spanB size = true ∧ slackB 1000000 = true
  · obtain ⟨hE, s1, -⟩ := hno
    have a1 : 1 ≤ size ∧ size ≤ 1000000 := by unfold spanB at s1; simpa using s1
    obtain ⟨z0, z1⟩ := a1
    obtain ⟨hl, hr⟩ := recs_ok hE
    have HY := fun (u : World) (hu : Below w.heap.size w u) => side_yes u la c l size (h.keep hu) hE s1
    by_cases g : by_ < 0 ∨ 9 < by_ ∨ 1000 < size
    · generalize sideP size l = PP at *
      clear h hks hr hE s1
      go_enter Try.func5, Try.ntmps5
      go_wp2_with (go_at_call 6; refine HF.mono ?_; rintro e u1 ⟨b, o, c1, rfl, k1, b1⟩; refine Hid.out ?_)
      refine Lib.hid ?_
      have HY1 := HY u1 b1
      clear HY HF
      by_cases g1 : by_ < 0
      · clear g
        go_wp2_with (go_at_call 6; refine HY1.mono ?_; rintro e u2 ⟨A2, c2, rfl, hC2, hcap, b2⟩)
        go_ret
        exact ⟨rfl, below_after b2 b1⟩
      · by_cases g2 : 9 < by_
        · clear g
          go_wp2_with (go_at_call 6; refine HY1.mono ?_; rintro e u2 ⟨A2, c2, rfl, hC2, hcap, b2⟩)
          go_ret
          exact ⟨rfl, below_after b2 b1⟩
        · have g3 : 1000 < size := by omega
          clear g
          go_wp2_with (go_at_call 6; refine HY1.mono ?_; rintro e u2 ⟨A2, c2, rfl, hC2, hcap, b2⟩)
          go_ret
          exact ⟨rfl, below_after b2 b1⟩
    · have g1 : ¬ by_ < 0 := by omega
      have g2 : ¬ 9 < by_ := by omega
      have g3 : ¬ 1000 < size := by omega
      exact shifts_main w la c l size by_ h hE z0 g1 g2 g3
  · have HY := fun (u : World) (hu : Below w.heap.size w u) => tumble_no u la c l size 1000000 (h.keep hu) hn hks hno
    clear h hks hno
    go_enter Try.func5, Try.ntmps5
    go_wp2_with (go_at_call 6; refine HF.mono ?_; rintro e u1 ⟨b, o, c1, rfl, k1, b1⟩; refine Hid.out ?_)
    refine Lib.hid ?_
    have HY1 := HY u1 b1
    clear HY HF
    go_wp2_with (go_at_call 6; refine HY1.mono ?_; rintro e u2 ⟨E, rfl, b2⟩)
    go_ret
    exact ⟨rfl, below_after b2 b1⟩
end Go.Proofs.Ytfpfaekbakilpaa
