/- Any things in turn, any lists spread again or given to each: the law's walk (the first refused). -/
import Derived.Test.YtfkeokeedljomaaDoorTb0
namespace Go.Proofs.YtfkeokeedljomaaDoor
open Go.RowKit
set_option linter.unusedVariables false
set_option linter.unusedSimpArgs false

section
variable (W : World) (a0 : Option Addr) (cap0 : Nat) (l : List ByteArray) (a1 : Option Addr) (cap1 : Nat) (LL : List Tl) (wk : Int)
set_option maxRecDepth 100000 in
set_option maxHeartbeats 8000000 in
theorem all_ny (h : CsAt W a0 (tcells l)) (hl : l.length ≤ 100000000) (hL : TlsAt W a1 LL) (hLL : LL.length ≤ 100000000) (ha : (allT LL).length ≤ 100000000) (hg : W.cell? ⟨0, 0, none⟩ = some ET)
    (he1 : erC l.length wk ≠ 0) (he2 : erC (allT LL).length wk = 0) :
    Calls Tryd.prog 3 #[.slice a0 l.length cap0, .slice a1 LL.length cap1, .int .i64 wk] W fun e w' => e = .returned (.bool true) ∧ Below W.heap.size W w' := by
  obtain ⟨q1, q2, -⟩ := erC_ok he2
  obtain ⟨m, rfl⟩ : ∃ m : Nat, wk = m := ⟨wk.toNat, by omega⟩
  have hm0 : 0 < m := by omega
  have hm16 : m ≤ 16 := by omega
  clear q1 q2
  obtain ⟨n, hn⟩ : ∃ n, l.length = n := ⟨_, rfl⟩
  obtain ⟨n1, hn1⟩ : ∃ n, LL.length = n := ⟨_, rfl⟩
  have HN := Lib.hid hn
  have HN1 := Lib.hid hn1
  have H := Lib.hid h
  have HL := Lib.hid hL
  have HEV := Lib.hid (fun (u : World) (hb : Below W.heap.size W u) => even_no u a0 cap0 n (m : Int) l (h.keep hb) hn.symm (by omega) (by rw [← hn]; exact he1))
  have HALL := Lib.hid (fun (u : World) (hb : Below W.heap.size W u) => all_any u a1 cap1 n1 LL (hL.keep hb) hn1.symm (by omega) ha)
  have HAG := Lib.hid (fun (u : World) (hb : Below W.heap.size W u) => again_yes u a1 cap1 n1 m LL (hL.keep hb) hn1.symm (by omega) he2)
  have HEVE := Lib.hid (fun (u : World) (hb : Below W.heap.size W u) => every_yes u a1 cap1 n1 m LL (hL.keep hb) hn1.symm (by omega) he2)
  obtain ⟨wl, hwl⟩ : ∃ wl, allT LL = wl := ⟨_, rfl⟩
  rw [hwl] at HALL HAG HEVE ha he2
  have HEC1 := Lib.hid (cases_of n (m : Int))
  have HEC2 := Lib.hid (cases_of wl.length (m : Int))
  rw [hn] at he1
  obtain ⟨ek1, hek1⟩ : ∃ k, erC n (m : Int) = k := ⟨_, rfl⟩
  rw [hek1] at he1 HEV HEC1
  rw [show errV ek1 = .iface 38 (.int .i64 (ek1 : Int)) from by unfold errV; rw [if_neg he1]] at HEV
  obtain ⟨e1, hee1⟩ : ∃ e : Int, (ek1 : Int) = e := ⟨_, rfl⟩
  have hne1 : e1 ≠ 0 := by omega
  rw [hee1] at HEV HEC1
  clear hek1 hee1
  rw [he2] at HEC2
  obtain ⟨e2, hee2⟩ : ∃ e : Int, ((0 : Nat) : Int) = e := ⟨_, rfl⟩
  rw [hee2] at HEC2
  obtain rfl : e2 = 0 := by omega
  have HEW := Lib.hid (fun (u : World) (A : Option Addr) (d : Nat) (hc : CsAt u A (tcells wl)) => even_yes u A d wl.length m wl hc rfl he2)
  clear hee2
  have HET := Lib.hid (fun (k : Int) (u : World) (hb : Below W.heap.size W u) => error_hit k u (et_below hg hb))
  have hwll : wl.length ≤ 100000000 := ha
  obtain ⟨nw, hnw⟩ : ∃ nw, wl.length = nw := ⟨_, rfl⟩
  have HNW := Lib.hid hnw
  rw [hn] at hl ⊢
  rw [hn1] at hLL ⊢
  rw [hnw] at HALL HEC2 hwll HEW
  clear h hL ha hg he1 he2 hn hn1 hwl hnw
  go_enter Tryd.func3, Tryd.ntmps3
  go_upto_region 2 with fail
  obtain ⟨b1, HB1⟩ : ∃ b : Bool, Hid (b = true ↔ (m : Int) < 1 ∨ 16 < (m : Int)) := ⟨decide ((m : Int) < 1 ∨ 16 < (m : Int)), by show _ ↔ _; simp⟩
  go_cut [29] (fun v wc => v = .bool b1 ∧ W = wc)
  case first =>
    by_cases q1 : (m : Int) < 1
    · have z1 : decide ((m : Int) < 1) = true := decide_eq_true q1
      obtain rfl : b1 = true := HB1.out.2 (.inl q1)
      go_wp2_with fail
      go_meet
      exact ⟨rfl, rfl⟩
    · have z1 : decide ((m : Int) < 1) = false := decide_eq_false q1
      by_cases q2 : (m : Int) > 16
      · obtain rfl : b1 = true := HB1.out.2 (.inr q2)
        go_wp2_with fail
        go_meet
        exact ⟨by simp [q2], rfl⟩
      · obtain rfl : b1 = false := by
          cases b1 with
          | false => rfl
          | true => have := HB1.out.1 rfl; omega
        go_wp2_with fail
        go_meet
        exact ⟨by simp [q2], rfl⟩
  case rest =>
    obtain ⟨rfl, rfl⟩ := hcut
    go_upto_if 29 with fail
    go_cut [7] (fun v wc => v = .int .i64 e1 ∧ W = wc)
    case first =>
      cases b1 with
      | true =>
        have hb := HB1.out.1 rfl
        obtain rfl : e1 = 1 := by have := HEC1.out; omega
        go_wp2_with fail
        go_meet
        exact ⟨rfl, rfl⟩
      | false =>
        have hb : ¬ ((m : Int) < 1 ∨ 16 < (m : Int)) := fun k => by have := HB1.out.2 k; cases this
        by_cases q3 : (n : Int) > 400
        · obtain rfl : e1 = 4 := by have := HEC1.out; omega
          go_wp2_with fail
          go_meet
          exact ⟨rfl, rfl⟩
        · exfalso
          have := HEC1.out; omega
    case rest =>
      obtain ⟨rfl, rfl⟩ := hcut
      have hbw : Below W.heap.size W W := Below.refl _ _
      have z5 : (e1 == 0) = false := by rw [beq_eq_false_iff_ne]; exact hne1
      have z6 : (e1 != 0) = true := by rw [bne_iff_ne]; exact hne1
      have hev := HEV.out W hbw
      go_wp2_with fail
      refine hev.mono ?_
      rintro e u1 ⟨rfl, hb1⟩
      have hER := HET.out e1 u1 hb1
      have HBU1 := Lib.hid hb1
      clear hb1 hev hbw
      go_wp2_with fail
      refine hER.mono ?_
      rintro e u2 ⟨rfl, hb2⟩
      have HBU := Lib.hid (below_after hb2 HBU1.out)
      clear hb2 hER HBU1
      go_wp2_with fail
      go_loop [11] (fun v => v = .int .i64 0) (fun _ => 0)
      case atStart => rfl
      case round =>
        subst hrel
        have hall := HALL.out _ HBU.out
        go_wp2_with fail
        refine hall.mono ?_
        rintro e ww3 ⟨AW, dW, rfl, hcw, hb3⟩
        have HBU3 := Lib.hid (below_after hb3 HBU.out)
        have HCW := Lib.hid hcw
        clear hall hcw hb3 HBU
        go_upto_region 23 with fail
        obtain ⟨b2, HB2⟩ : ∃ b : Bool, Hid (b = true ↔ (m : Int) < 1 ∨ 16 < (m : Int)) := ⟨decide ((m : Int) < 1 ∨ 16 < (m : Int)), by show _ ↔ _; simp⟩
        go_cut [102] (fun v wc => v = .bool b2 ∧ ww3 = wc)
        case first =>
          by_cases q1 : (m : Int) < 1
          · have z1 : decide ((m : Int) < 1) = true := decide_eq_true q1
            obtain rfl : b2 = true := HB2.out.2 (.inl q1)
            go_wp2_with fail
            go_meet
            exact ⟨rfl, rfl⟩
          · have z1 : decide ((m : Int) < 1) = false := decide_eq_false q1
            by_cases q2 : (m : Int) > 16
            · obtain rfl : b2 = true := HB2.out.2 (.inr q2)
              go_wp2_with fail
              go_meet
              exact ⟨by simp [q2], rfl⟩
            · obtain rfl : b2 = false := by
                cases b2 with
                | false => rfl
                | true => have := HB2.out.1 rfl; omega
              go_wp2_with fail
              go_meet
              exact ⟨by simp [q2], rfl⟩
        case rest =>
          obtain ⟨rfl, rfl⟩ := hcut
          go_upto_if 102 with fail
          go_cut [7] (fun v wc => v = .int .i64 0 ∧ ww3 = wc)
          case first =>
            cases b2 with
            | true =>
              have hb := HB2.out.1 rfl
              exfalso
              have := HEC2.out; omega
            | false =>
              have hb : ¬ ((m : Int) < 1 ∨ 16 < (m : Int)) := fun k => by have := HB2.out.2 k; cases this
              by_cases q3 : (nw : Int) > 400
              · exfalso
                have := HEC2.out; omega
              · clear hb
                go_wp2_with fail
                go_meet
                exact ⟨rfl, rfl⟩
          case rest =>
            obtain ⟨rfl, rfl⟩ := hcut
            have hag := HAG.out ww3 HBU3.out
            have hnil := error_nil
            have y1 : ((m : Int) != (m : Int)) = false := by simp
            have y2 : ((0 : Int) == 0) = true := by simp
            have y3 : ((0 : Int) != 0) = false := by simp
            go_wp2_with fail
            refine hag.mono ?_
            rintro e ww4 ⟨v4, rfl, hR4⟩
            obtain ⟨B4, rfl, hb4, hat4⟩ := hR4.at_
            rw [rowsP_len]
            have HAT4 := Lib.hid hat4
            have HB34 := Lib.hid hb4
            have HBU4 := Lib.hid (below_after hb4 HBU3.out)
            have hev := HEVE.out ww4 HBU4.out
            clear hag hR4 hb4 hat4
            go_wp2_with (go_at_call 6; refine (hnil _).mono ?_; rintro e w' ⟨rfl, rfl⟩)
            refine hev.mono ?_
            rintro e ww5 ⟨v5, rfl, hR5⟩
            obtain ⟨B5, rfl, hb5, hat5⟩ := hR5.at_
            rw [evP_len]
            have HAT5 := Lib.hid hat5
            have HB45 := Lib.hid hb5
            have HB35 := Lib.hid (below_after hb5 HB34.out)
            have HBU5 := Lib.hid (below_after hb5 HBU4.out)
            have hew := HEW.out ww5 AW dW (HCW.out.keep HB35.out)
            clear hev hR5 hb5 hat5
            go_wp2_with (go_at_call 6; refine (hnil _).mono ?_; rintro e w' ⟨rfl, rfl⟩)
            refine hew.mono ?_
            rintro e ww6 ⟨v6, rfl, hR6⟩
            obtain ⟨B6, rfl, hb6, hat6⟩ := hR6.at_
            rw [rowsP_len]
            have HAT6 := Lib.hid hat6
            have HB56 := Lib.hid hb6
            have HB46 := Lib.hid (below_after hb6 HB45.out)
            have HB36 := Lib.hid (below_after hb6 HB35.out)
            have HBU6 := Lib.hid (below_after hb6 HBU5.out)
            have hnw4 : nw ≤ 400 := by have := HEC2.out; omega
            clear hew hR6 hb6 hat6
            go_wp2_with fail
            go_loopw [21] (fun vi wr => ∃ j : Nat, vi = .int .i64 (j : Int) ∧ j ≤ m ∧ Hid (∃ x, wr = ww6.drewN x)) (fun vi _ => m - (intOf vi).toNat)
            case atStart => exact ⟨0, rfl, by omega, ⟨0, rfl⟩⟩
            case round =>
              rename World => wr
              obtain ⟨j, rfl, hj, ⟨x0, hx0⟩⟩ := hrel
              by_cases hltj : j < m
              · have hzj : (j : Int) < (m : Int) := by omega
                obtain ⟨A1, c1, f1, f2⟩ := HAT4.out j _ (rowsP_at m wl j hltj)
                obtain ⟨A2, c2, f3, f4⟩ := HAT6.out j _ (rowsP_at m wl j hltj)
                obtain ⟨A3, c3, f5, f6⟩ := HAT5.out j _ (evP_at m wl m j hltj)
                rw [if_pos hltj] at f5 f6
                have hrl := rowP_le m hm0 j hltj wl
                have hnwx := HNW.out
                have g1 : wr.cell? ⟨B4, j, none⟩ = some (.slice A1 (rowP m wl j).length c1) := by rw [hx0]; show ww6.cell? _ = _; rw [HB46.out.cell (p := ⟨B4, j, none⟩) (cell_lt f1)]; exact f1
                have g3 : wr.cell? ⟨B6, j, none⟩ = some (.slice A2 (rowP m wl j).length c2) := by rw [hx0]; exact f3
                have g5 : ww6.cell? ⟨B5, j, none⟩ = some (.slice A3 wl.length c3) := by rw [HB56.out.cell (p := ⟨B5, j, none⟩) (cell_lt f5)]; exact f5
                have hdr : ∀ (u : World) (x : Nat), Below u.heap.size u (u.drewN x) := fun u x => ⟨rfl, rfl, rfl, Nat.le_refl _, fun _ _ => rfl⟩
                have htx : ∀ y, Calls Tryd.prog 7 #[.slice A1 (rowP m wl j).length c1, .slice A2 (rowP m wl j).length c2] (wr.drewN y) fun e w' => e = .returned (.bool true) ∧ ∃ z, w' = (wr.drewN y).drewN z := fun y => by
                  rw [hx0]
                  exact texts_yes _ A1 A2 c1 c2 _ (rowP m wl j) (((f2.keep HB46.out).keep (hdr _ _)).keep (hdr _ _)) ((f4.keep (hdr _ _)).keep (hdr _ _)) rfl (by omega)
                have HTW : Hid (∀ y, Calls Tryd.prog 7 #[.slice A3 nw c3, .slice AW nw dW] (ww6.drewN y) fun e w' => e = .returned (.bool true) ∧ ∃ z, w' = (ww6.drewN y).drewN z) := fun y => texts_yes _ A3 AW c3 dW nw wl ((f6.keep HB56.out).keep (hdr _ _)) ((HCW.out.keep HB36.out).keep (hdr _ _)) HNW.out.symm (by omega)
                rw [hnwx] at g5
                have HX0 := Lib.hid hx0
                clear f1 f2 f3 f4 f5 f6 hdr hrl hnwx hx0
                generalize (rowP m wl j).length = r at *
                go_wp2_with fail
                go_quiet (first | (go_at_call 7; exact Calls.quiet_of (htx _)))
                have hwn : wr.drewN nq = ww6.drewN (x0 + nq) := by rw [HX0.out, World.drewN_drewN]
                rw [hwn]
                have g5' : (ww6.drewN (x0 + nq)).cell? ⟨B5, j, none⟩ = some (.slice A3 nw c3) := g5
                have htw := HTW.out (x0 + nq)
                clear htx g1 g3 g5 hwn HTW
                generalize hu7 : ww6.drewN (x0 + nq) = ww7 at g5' htw ⊢
                have HU7 := Lib.hid hu7
                clear hu7
                go_wp2_with fail
                refine htw.mono ?_
                rintro e w8 ⟨rfl, x1, rfl⟩
                clear htw g5'
                go_wp2_with fail
                exact ⟨⟨j + 1, by go_num, by omega, ⟨x0 + nq + x1, by rw [← HU7.out, World.drewN_drewN]⟩⟩, by simp [intOf]; omega⟩
              · have hzj : ¬ (j : Int) < (m : Int) := by omega
                have HFIN : Hid (Below W.heap.size W wr) := by rw [hx0]; exact HBU6.out.trans ⟨rfl, rfl, rfl, Nat.le_refl _, fun _ _ => rfl⟩
                clear hx0
                go_wp2_with fail
                go_ret
                exact ⟨rfl, HFIN.out⟩
end
end Go.Proofs.YtfkeokeedljomaaDoor
