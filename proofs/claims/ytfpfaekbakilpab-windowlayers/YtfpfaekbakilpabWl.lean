/- WindowLayers walked. -/
import Derived.Test.YtfpfaekbakilpabWh
import Derived.Test.YtfpfaekbakilpabPureWb
namespace Go.Proofs.Ytfpfaekbakilpab
open Go.RowKit
set_option linter.unusedVariables false

theorem sumF_part {f : Pn → Int} {L : List Pn} (h : ∀ p ∈ L, 0 ≤ f p) (k : Nat) : 0 ≤ sumF f (L.take k) ∧ sumF f (L.take k) ≤ sumF f L := by
  have pos : ∀ M : List Pn, (∀ p ∈ M, 0 ≤ f p) → 0 ≤ sumF f M := by
    intro M
    induction M with
    | nil => intro _; simp [sumF]
    | cons x M ih => intro hM; rw [sumF_cons]; have := ih (fun p hp => hM p (by simp [hp])); have := hM x (by simp); omega
  have e : sumF f L = sumF f (L.take k) + sumF f (L.drop k) := by rw [← sumF_append, List.take_append_drop]
  have h1 := pos (L.take k) (fun p hp => h p (List.mem_of_mem_take hp))
  have h2 := pos (L.drop k) (fun p hp => h p (List.mem_of_mem_drop hp))
  omega
theorem totP_part (size by_ : Int) (l : List Rg) (k : Nat) : totP size by_ (l.take k) ≤ totP size by_ l := by
  have e : totP size by_ l = totP size by_ (l.take k) + totP size by_ (l.drop k) := by
    unfold totP; rw [← List.sum_append, ← List.map_append, List.take_append_drop]
  omega
theorem fact2 : (slideP 4 2 0 [⟨⟨#[97]⟩, 2, 5⟩]).length = 2 := by decide +kernel
theorem recs1 : recsE [⟨⟨#[97]⟩, 2, 5⟩] = 0 := by decide +kernel
theorem cs_one (w : World) (r : Rg) : CsAt (w.alloc (.cells #[.string r.key, .int .i64 r.num, .int .i64 r.tm] 29)) (some ⟨w.heap.size, 0, none⟩) (rcells [r]) := by
  refine .inr ⟨_, _, rfl, fun j u hu => ?_⟩
  match j, hu with
  | 0, hu => simp [rcells] at hu; subst hu; simp
  | 1, hu => simp [rcells] at hu; subst hu; simp
  | 2, hu => simp [rcells] at hu; subst hu; simp
  | j + 3, hu => simp [rcells] at hu
theorem first_slide (w : World) : Calls Try.prog 4 #[.slice (some ⟨w.heap.size, 0, none⟩) 1 1, .int .i64 4, .int .i64 2, .int .i64 0] (w.alloc (.cells #[.string ⟨#[97]⟩, .int .i64 2, .int .i64 5] 29)) fun e w' => ∃ A cap, e = .returned (.tuple #[.slice A 2 cap, .nilIface]) ∧ Below w.heap.size w w' := by
  have h := slide_yes (w.alloc (.cells #[.string ⟨#[97]⟩, .int .i64 2, .int .i64 5] 29)) (some ⟨w.heap.size, 0, none⟩) 1 [⟨⟨#[97]⟩, 2, 5⟩] 4 2 0 (cs_one w ⟨⟨#[97]⟩, 2, 5⟩) recs1 (by decide) (by decide) (by decide) (by omega)
  refine Calls.mono h ?_
  rintro e w' ⟨A, cap, rfl, -, -, hb⟩
  exact ⟨A, cap, by rw [fact2], below_after hb ((Below.refl _ _).alloc (Nat.le_refl _) _)⟩
set_option maxRecDepth 100000 in
set_option maxHeartbeats 4000000 in
theorem layers_walk (w : World) (la : Option Addr) (c : Nat) (l : List Rg) (by_ k : Int) (h : CsAt w la (rcells l)) (hn : l.length ≤ 9223372036854775807) (hks : ∀ r ∈ l, r.key.size ≤ 9223372036854775807) :
    Calls Try.prog 3 #[.slice la l.length c, .int .i64 by_, .int .i64 k] w fun e w' => e = .returned (.bool true) ∧ Below w.heap.size w w' := by
  by_cases g1 : by_ < 1
  · clear h hks
    go_enter Try.func3, Try.ntmps3
    go_wp2_with fail
    go_ret
    exact ⟨rfl, Below.refl _ _⟩
  by_cases g2 : 1000 < by_
  · clear h hks
    go_enter Try.func3, Try.ntmps3
    go_wp2_with fail
    go_ret
    exact ⟨rfl, Below.refl _ _⟩
  by_cases g3 : k < 1
  · clear h hks
    go_enter Try.func3, Try.ntmps3
    go_wp2_with fail
    go_ret
    exact ⟨rfl, Below.refl _ _⟩
  by_cases g4 : 16 < k
  · clear h hks
    go_enter Try.func3, Try.ntmps3
    go_wp2_with fail
    go_ret
    exact ⟨rfl, Below.refl _ _⟩
  have p0 : 1 ≤ by_ * k := by
    have : 1 * 1 ≤ by_ * k := Int.mul_le_mul (by omega) (by omega) (by omega) (by omega)
    omega
  have p1 : by_ * k ≤ 16 * by_ := by
    have : by_ * k ≤ by_ * 16 := Int.mul_le_mul_of_nonneg_left (by omega) (by omega)
    omega
  have p2 : by_ * k ≤ 16000 := by omega
  have HF := first_slide w
  by_cases hE : recsE l = 0
  · obtain ⟨hl, hr⟩ := recs_ok hE
    obtain ⟨i1, i2, i3⟩ := sl_iv (size := by_ * k) (by_ := by_) (slack := 0) (by omega) p1 l (by omega)
    have HY := fun (u : World) (hu : Below w.heap.size w u) => slide_yes u la c l (by_ * k) by_ 0 (h.keep hu) hE (by unfold spanB; simp; omega) (by unfold spanB; simp; omega) (by decide) p1
    have hpl := slS_len (slack := 0) (by omega : 1 ≤ by_) p1 l
    unfold slideP at HY
    generalize (slS (by_ * k) by_ 0 l).1 = PP at *
    have hpt := totP_part (by_ * k) by_ l
    have hts := totP_take (by_ * k) by_ l
    have hnl : ∀ j (hj : j < l.length), (nP l[j].tm (by_ * k) by_ : Int) = min (l[j].tm / by_ + 1) k := fun j hj => nP_layers (by omega) (hr _ (List.getElem_mem hj)).2.1 (by omega)
    have hsp := sumF_part (f := fun p : Pn => p.mn + p.lt) (L := PP) (fun p hp => by have := i1.one p hp; omega)
    have hst := sumF_take (fun p : Pn => p.mn + p.lt) PP
    have ht0 : totP (by_ * k) by_ (l.take 0) = 0 := rfl
    have htl : totP (by_ * k) by_ (l.take l.length) = totP (by_ * k) by_ l := by rw [List.take_length]
    generalize totP (by_ * k) by_ = TP at *
    have HR := Lib.hid hr
    have HNL := Lib.hid hnl
    have HTS := Lib.hid hts
    have HPT := Lib.hid hpt
    have HSP := Lib.hid hsp
    have HST := Lib.hid hst
    have HI1 := Lib.hid i1
    have HI2 := Lib.hid i2
    have HT0 := Lib.hid ht0
    have HTL := Lib.hid htl
    have H := Lib.hid h
    clear hr hnl hts hpt hsp hst i1 i2 h hks hE ht0 htl
    go_enter Try.func3, Try.ntmps3
    go_wp2_with (go_at_call 4; refine HF.mono ?_; rintro e u1 ⟨A1, c1, rfl, b1⟩; refine Hid.out ?_)
    refine Lib.hid ?_
    have HY1 := HY u1 b1
    clear HY HF
    go_wp2_with (go_at_call 4; refine HY1.mono ?_; rintro e u2 ⟨A2, c2, rfl, hC2, hcap, b2'⟩; refine Hid.out ?_)
    refine Lib.hid ?_
    have b2 := below_after b2' b1
    have HC2 := Lib.hid hC2.cs
    clear HY1 hC2 b2'
    go_wp2_with fail
    go_loopw [11, 12] (fun n i wr => ∃ j : Nat, j ≤ PP.length ∧ i = .int .i64 j ∧ n = .int .i64 (sumF (fun p => p.mn + p.lt) (PP.take j)) ∧ CsAt wr A2 (pcells PP) ∧ Below w.heap.size w wr) (fun _ i _ => PP.length - (intOf i).toNat)
    case atStart => exact ⟨0, by omega, rfl, rfl, HC2.out, b2⟩
    case round =>
      obtain ⟨j, hj, rfl, rfl, hcs, hb⟩ := hrel
      obtain ⟨q0, q1⟩ := HSP.out j
      have q2 := HI2.out
      rw [q2] at q1
      clear q2
      by_cases hlt : j < PP.length
      · obtain ⟨b, o, rfl, c0, c1, c2, c3, c4, c5⟩ := pns_at hcs j hlt
        have m1 := HI1.out.mn _ (List.getElem_mem hlt)
        have m2 := HI1.out.lt _ (List.getElem_mem hlt)
        have m3 := HI1.out.le _ (List.getElem_mem hlt)
        have hst := HST.out j hlt
        generalize PP[j] = p at *
        generalize sumF (fun p => p.mn + p.lt) (PP.take j) = S at *
        have HS := Lib.hid hst
        have HCS := Lib.hid hcs
        clear hst hcs
        obtain ⟨pk, pf, pt, pm, ps, pl⟩ := p
        simp only at c0 c1 c2 c3 c4 c5 m1 m2 m3 HS
        go_wp2_with fail
        go_quiet (fail)
        go_wp2_with fail
        go_roundw
        case rel => exact ⟨j + 1, by omega, by go_num, by rw [HS.out]; go_num, HCS.out.keep ⟨rfl, rfl, rfl, Nat.le_refl _, fun _ _ => rfl⟩, ⟨hb.os, hb.tape, hb.output, hb.size, hb.block⟩⟩
        case measure => simp [intOf]; omega
      · have ej : PP.take j = PP := List.take_of_length_le (by omega)
        rw [ej, HI2.out] at q0 ⊢
        clear ej hcs q1
        have hTL : TP l ≤ 6400 := by omega
        go_wp2_with fail
        go_loopw [13, 14] (fun n i wr => ∃ j : Nat, j ≤ l.length ∧ i = .int .i64 j ∧ n = .int .i64 ((TP (l.take j) : Nat)) ∧ Below w.heap.size w wr) (fun _ i _ => l.length - (intOf i).toNat)
        case atStart => exact ⟨0, by omega, rfl, by rw [HT0.out]; rfl, hb⟩
        case round =>
          obtain ⟨j2, hj2, rfl, rfl, hb2⟩ := hrel
          have q3 := HPT.out j2
          by_cases hlt2 : j2 < l.length
          · obtain ⟨b, o, rfl, c0, c1, c2⟩ := rcs_at (H.out.keep hb2) j2 hlt2
            have hnl := HNL.out j2 hlt2
            have hts := HTS.out j2 hlt2
            obtain ⟨-, r1, r2⟩ := HR.out _ (List.getElem_mem hlt2)
            generalize nP l[j2].tm (by_ * k) by_ = N at *
            generalize l[j2] = r at *
            obtain ⟨key, num, tm⟩ := r
            simp only at c0 c1 c2 r1 r2 hnl
            have d0 : 0 ≤ tm / by_ := Int.ediv_nonneg r1 (by omega)
            have d1 : tm / by_ ≤ 1000000 := Int.le_trans (Int.ediv_le_self _ r1) r2
            have HTS2 := Lib.hid hts
            generalize TP (l.take j2) = T1 at *
            clear hts
            by_cases hg : k < tm / by_ + 1
            · have eN : (N : Int) = k := by omega
              have HN := Lib.hid eN
              clear hnl eN
              go_wp2_with fail
              go_roundw
              case rel => exact ⟨j2 + 1, by omega, by go_num, by rw [HTS2.out, Int.natCast_add, HN.out], hb2⟩
              case measure => simp [intOf]; omega
            · have eN : (N : Int) = tm / by_ + 1 := by omega
              have HN := Lib.hid eN
              clear hnl eN
              go_wp2_with fail
              go_roundw
              case rel => exact ⟨j2 + 1, by omega, by go_num, by rw [HTS2.out, Int.natCast_add, HN.out], hb2⟩
              case measure => simp [intOf]; omega
          · have ej2 : j2 = l.length := by omega
            subst ej2
            rw [HTL.out]
            clear q3
            go_wp2_with fail
            go_ret
            exact ⟨ret_bool (by simp), hb2⟩
  · have HY := fun (u : World) (hu : Below w.heap.size w u) => slide_recs u la c l (by_ * k) by_ 0 (h.keep hu) hn hks hE
    rw [errV_ne hE] at HY
    generalize recsE l = E at *
    clear h hks hE
    go_enter Try.func3, Try.ntmps3
    go_wp2_with (go_at_call 4; refine HF.mono ?_; rintro e u1 ⟨A1, c1, rfl, b1⟩; refine Hid.out ?_)
    refine Lib.hid ?_
    have HY1 := HY u1 b1
    clear HY HF
    go_wp2_with (go_at_call 4; refine HY1.mono ?_; rintro e u2 ⟨rfl, b2⟩)
    go_ret
    exact ⟨rfl, below_after b2 b1⟩
end Go.Proofs.Ytfpfaekbakilpab
