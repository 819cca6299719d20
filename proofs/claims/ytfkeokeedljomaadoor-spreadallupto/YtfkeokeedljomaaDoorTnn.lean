/- Any things in turn, any lists spread again or given to each: the law's walk (both refused). -/
import Derived.Test.YtfkeokeedljomaaDoorTb0
namespace Go.Proofs.YtfkeokeedljomaaDoor
open Go.RowKit
set_option linter.unusedVariables false
set_option linter.unusedSimpArgs false

section
variable (W : World) (a0 : Option Addr) (cap0 : Nat) (l : List ByteArray) (a1 : Option Addr) (cap1 : Nat) (LL : List Tl) (wk : Int)
set_option maxRecDepth 100000 in
set_option maxHeartbeats 8000000 in
theorem all_nn (h : CsAt W a0 (tcells l)) (hl : l.length ≤ 100000000) (hL : TlsAt W a1 LL) (hLL : LL.length ≤ 100000000) (ha : (allT LL).length ≤ 100000000) (hg : W.cell? ⟨0, 0, none⟩ = some ET)
    (he1 : erC l.length wk ≠ 0) (he2 : erC (allT LL).length wk ≠ 0) :
    Calls Tryd.prog 3 #[.slice a0 l.length cap0, .slice a1 LL.length cap1, .int .i64 wk] W fun e w' => e = .returned (.bool true) ∧ Below W.heap.size W w' := by
  obtain ⟨n, hn⟩ : ∃ n, l.length = n := ⟨_, rfl⟩
  obtain ⟨n1, hn1⟩ : ∃ n, LL.length = n := ⟨_, rfl⟩
  have HN := Lib.hid hn
  have HN1 := Lib.hid hn1
  have H := Lib.hid h
  have HL := Lib.hid hL
  have HEV := Lib.hid (fun (u : World) (hb : Below W.heap.size W u) => even_no u a0 cap0 n wk l (h.keep hb) hn.symm (by omega) (by rw [← hn]; exact he1))
  have HALL := Lib.hid (fun (u : World) (hb : Below W.heap.size W u) => all_any u a1 cap1 n1 LL (hL.keep hb) hn1.symm (by omega) ha)
  have HAG := Lib.hid (fun (u : World) (hb : Below W.heap.size W u) => again_no u a1 cap1 n1 wk LL (hL.keep hb) hn1.symm (by omega) (by omega) he2)
  have HEVE := Lib.hid (fun (u : World) (hb : Below W.heap.size W u) => every_no u a1 cap1 n1 wk LL (hL.keep hb) hn1.symm (by omega) (by omega) he2)
  obtain ⟨wl, hwl⟩ : ∃ wl, allT LL = wl := ⟨_, rfl⟩
  rw [hwl] at HALL HAG HEVE ha he2
  have HEC1 := Lib.hid (cases_of n wk)
  have HEC2 := Lib.hid (cases_of wl.length wk)
  rw [hn] at he1
  obtain ⟨ek1, hek1⟩ : ∃ k, erC n wk = k := ⟨_, rfl⟩
  rw [hek1] at he1 HEV HEC1
  rw [show errV ek1 = .iface 38 (.int .i64 (ek1 : Int)) from by unfold errV; rw [if_neg he1]] at HEV
  obtain ⟨e1, hee1⟩ : ∃ e : Int, (ek1 : Int) = e := ⟨_, rfl⟩
  have hne1 : e1 ≠ 0 := by omega
  rw [hee1] at HEV HEC1
  clear hek1 hee1
  obtain ⟨ek2, hek2⟩ : ∃ k, erC wl.length wk = k := ⟨_, rfl⟩
  rw [hek2] at he2 HAG HEVE HEC2
  rw [show errV ek2 = .iface 38 (.int .i64 (ek2 : Int)) from by unfold errV; rw [if_neg he2]] at HAG HEVE
  obtain ⟨e2, hee2⟩ : ∃ e : Int, (ek2 : Int) = e := ⟨_, rfl⟩
  have hne2 : e2 ≠ 0 := by omega
  rw [hee2] at HAG HEVE HEC2
  clear hek2 hee2
  have HET := Lib.hid (fun (k : Int) (u : World) (hb : Below W.heap.size W u) => error_hit k u (et_below hg hb))
  have hwll : wl.length ≤ 100000000 := ha
  obtain ⟨nw, hnw⟩ : ∃ nw, wl.length = nw := ⟨_, rfl⟩
  have HNW := Lib.hid hnw
  rw [hn] at hl ⊢
  rw [hn1] at hLL ⊢
  rw [hnw] at HALL HEC2 hwll
  clear h hL ha hg he1 he2 hn hn1 hwl hnw
  go_enter Tryd.func3, Tryd.ntmps3
  go_upto_region 2 with fail
  obtain ⟨b1, HB1⟩ : ∃ b : Bool, Hid (b = true ↔ wk < 1 ∨ 16 < wk) := ⟨decide (wk < 1 ∨ 16 < wk), by show _ ↔ _; simp⟩
  go_cut [29] (fun v wc => v = .bool b1 ∧ W = wc)
  case first =>
    by_cases q1 : wk < 1
    · have z1 : decide (wk < 1) = true := decide_eq_true q1
      obtain rfl : b1 = true := HB1.out.2 (.inl q1)
      go_wp2_with fail
      go_meet
      exact ⟨rfl, rfl⟩
    · have z1 : decide (wk < 1) = false := decide_eq_false q1
      by_cases q2 : wk > 16
      · obtain rfl : b1 = true := HB1.out.2 (.inr q2)
        go_wp2_with fail
        go_meet
        exact ⟨by simp [q2], rfl⟩
      · obtain rfl : b1 = false := by
          cases b1 with
          | false => rfl
          | true => have := HB1.out.1 rfl; omega
        go_wp2_with fail
        go_meet
        exact ⟨by simp [q2], rfl⟩
  case rest =>
    obtain ⟨rfl, rfl⟩ := hcut
    go_upto_if 29 with fail
    go_cut [7] (fun v wc => v = .int .i64 e1 ∧ W = wc)
    case first =>
      cases b1 with
      | true =>
        have hb := HB1.out.1 rfl
        obtain rfl : e1 = 1 := by have := HEC1.out; omega
        go_wp2_with fail
        go_meet
        exact ⟨rfl, rfl⟩
      | false =>
        have hb : ¬ (wk < 1 ∨ 16 < wk) := fun k => by have := HB1.out.2 k; cases this
        by_cases q3 : (n : Int) > 400
        · obtain rfl : e1 = 4 := by have := HEC1.out; omega
          go_wp2_with fail
          go_meet
          exact ⟨rfl, rfl⟩
        · exfalso
          have := HEC1.out; omega
    case rest =>
      obtain ⟨rfl, rfl⟩ := hcut
      have hbw : Below W.heap.size W W := Below.refl _ _
      have z5 : (e1 == 0) = false := by rw [beq_eq_false_iff_ne]; exact hne1
      have z6 : (e1 != 0) = true := by rw [bne_iff_ne]; exact hne1
      have hev := HEV.out W hbw
      go_wp2_with fail
      refine hev.mono ?_
      rintro e u1 ⟨rfl, hb1⟩
      have hER := HET.out e1 u1 hb1
      have HBU1 := Lib.hid hb1
      clear hb1 hev hbw
      go_wp2_with fail
      refine hER.mono ?_
      rintro e u2 ⟨rfl, hb2⟩
      have HBU := Lib.hid (below_after hb2 HBU1.out)
      clear hb2 hER HBU1
      go_wp2_with fail
      go_loop [11] (fun v => v = .int .i64 0) (fun _ => 0)
      case atStart => rfl
      case round =>
        subst hrel
        have hall := HALL.out _ HBU.out
        go_wp2_with fail
        refine hall.mono ?_
        rintro e u3 ⟨AW, dW, rfl, hcw, hb3⟩
        have HBU3 := Lib.hid (below_after hb3 HBU.out)
        have HCW := Lib.hid hcw
        clear hall hcw hb3 HBU
        go_upto_region 23 with fail
        obtain ⟨b2, HB2⟩ : ∃ b : Bool, Hid (b = true ↔ wk < 1 ∨ 16 < wk) := ⟨decide (wk < 1 ∨ 16 < wk), by show _ ↔ _; simp⟩
        go_cut [102] (fun v wc => v = .bool b2 ∧ u3 = wc)
        case first =>
          by_cases q1 : wk < 1
          · have z1 : decide (wk < 1) = true := decide_eq_true q1
            obtain rfl : b2 = true := HB2.out.2 (.inl q1)
            go_wp2_with fail
            go_meet
            exact ⟨rfl, rfl⟩
          · have z1 : decide (wk < 1) = false := decide_eq_false q1
            by_cases q2 : wk > 16
            · obtain rfl : b2 = true := HB2.out.2 (.inr q2)
              go_wp2_with fail
              go_meet
              exact ⟨by simp [q2], rfl⟩
            · obtain rfl : b2 = false := by
                cases b2 with
                | false => rfl
                | true => have := HB2.out.1 rfl; omega
              go_wp2_with fail
              go_meet
              exact ⟨by simp [q2], rfl⟩
        case rest =>
          obtain ⟨rfl, rfl⟩ := hcut
          go_upto_if 102 with fail
          go_cut [7] (fun v wc => v = .int .i64 e2 ∧ u3 = wc)
          case first =>
            cases b2 with
            | true =>
              have hb := HB2.out.1 rfl
              obtain rfl : e2 = 1 := by have := HEC2.out; omega
              go_wp2_with fail
              go_meet
              exact ⟨rfl, rfl⟩
            | false =>
              have hb : ¬ (wk < 1 ∨ 16 < wk) := fun k => by have := HB2.out.2 k; cases this
              by_cases q3 : (nw : Int) > 400
              · obtain rfl : e2 = 4 := by have := HEC2.out; omega
                go_wp2_with fail
                go_meet
                exact ⟨rfl, rfl⟩
              · exfalso
                have := HEC2.out; omega
          case rest =>
            obtain ⟨rfl, rfl⟩ := hcut
            have x5 : (e2 == 0) = false := by rw [beq_eq_false_iff_ne]; exact hne2
            have x6 : (e2 != 0) = true := by rw [bne_iff_ne]; exact hne2
            have hag := HAG.out u3 HBU3.out
            go_wp2_with fail
            refine hag.mono ?_
            rintro e w' ⟨rfl, rfl⟩
            rename World => u4
            have hER := HET.out e2 _ HBU3.out
            clear hag
            go_wp2_with fail
            refine hER.mono ?_
            rintro e u5 ⟨rfl, hb5⟩
            have HBU5 := Lib.hid (below_after hb5 HBU3.out)
            have hev := HEVE.out u5 HBU5.out
            clear hER hb5
            go_wp2_with fail
            refine hev.mono ?_
            rintro e w' ⟨rfl, rfl⟩
            have hER := HET.out e2 _ HBU5.out
            clear hev
            go_wp2_with fail
            refine hER.mono ?_
            rintro e u7 ⟨rfl, hb7⟩
            have HBU7 := Lib.hid (below_after hb7 HBU5.out)
            clear hER hb7
            go_wp2_with fail
            go_ret
            exact ⟨rfl, HBU7.out⟩
end
end Go.Proofs.YtfkeokeedljomaaDoor
