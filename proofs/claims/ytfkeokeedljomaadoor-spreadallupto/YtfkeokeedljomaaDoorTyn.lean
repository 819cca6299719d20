/- Any things in turn, any lists spread again or given to each: the law's walk (the second refused). -/
import Derived.Test.YtfkeokeedljomaaDoorTb0
namespace Go.Proofs.YtfkeokeedljomaaDoor
open Go.RowKit
set_option linter.unusedVariables false
set_option linter.unusedSimpArgs false

section
variable (W : World) (a0 : Option Addr) (cap0 : Nat) (l : List ByteArray) (a1 : Option Addr) (cap1 : Nat) (LL : List Tl) (wk : Int)
set_option maxRecDepth 100000 in
set_option maxHeartbeats 8000000 in
theorem all_yn (h : CsAt W a0 (tcells l)) (hl : l.length ≤ 100000000) (hL : TlsAt W a1 LL) (hLL : LL.length ≤ 100000000) (ha : (allT LL).length ≤ 100000000) (hg : W.cell? ⟨0, 0, none⟩ = some ET)
    (he1 : erC l.length wk = 0) (he2 : erC (allT LL).length wk ≠ 0) :
    Calls Tryd.prog 3 #[.slice a0 l.length cap0, .slice a1 LL.length cap1, .int .i64 wk] W fun e w' => e = .returned (.bool true) ∧ Below W.heap.size W w' := by
  obtain ⟨q1, q2, -⟩ := erC_ok he1
  obtain ⟨m, rfl⟩ : ∃ m : Nat, wk = m := ⟨wk.toNat, by omega⟩
  have hm0 : 0 < m := by omega
  have hm16 : m ≤ 16 := by omega
  clear q1 q2
  obtain ⟨n, hn⟩ : ∃ n, l.length = n := ⟨_, rfl⟩
  obtain ⟨n1, hn1⟩ : ∃ n, LL.length = n := ⟨_, rfl⟩
  have HN := Lib.hid hn
  have HN1 := Lib.hid hn1
  have H := Lib.hid h
  have HL := Lib.hid hL
  have HEV := Lib.hid (fun (u : World) (hb : Below W.heap.size W u) => even_yes u a0 cap0 n m l (h.keep hb) hn.symm (by rw [← hn]; exact he1))
  have HALL := Lib.hid (fun (u : World) (hb : Below W.heap.size W u) => all_any u a1 cap1 n1 LL (hL.keep hb) hn1.symm (by omega) ha)
  have HAG := Lib.hid (fun (u : World) (hb : Below W.heap.size W u) => again_no u a1 cap1 n1 (m : Int) LL (hL.keep hb) hn1.symm (by omega) (by omega) he2)
  have HEVE := Lib.hid (fun (u : World) (hb : Below W.heap.size W u) => every_no u a1 cap1 n1 (m : Int) LL (hL.keep hb) hn1.symm (by omega) (by omega) he2)
  obtain ⟨wl, hwl⟩ : ∃ wl, allT LL = wl := ⟨_, rfl⟩
  rw [hwl] at HALL HAG HEVE ha he2
  have HEC1 := Lib.hid (cases_of n (m : Int))
  have HEC2 := Lib.hid (cases_of wl.length (m : Int))
  rw [hn] at he1
  rw [he1] at HEC1
  obtain ⟨e1, hee1⟩ : ∃ e : Int, ((0 : Nat) : Int) = e := ⟨_, rfl⟩
  rw [hee1] at HEC1
  obtain rfl : e1 = 0 := by omega
  clear hee1
  obtain ⟨ek2, hek2⟩ : ∃ k, erC wl.length (m : Int) = k := ⟨_, rfl⟩
  rw [hek2] at he2 HAG HEVE HEC2
  rw [show errV ek2 = .iface 38 (.int .i64 (ek2 : Int)) from by unfold errV; rw [if_neg he2]] at HAG HEVE
  obtain ⟨e2, hee2⟩ : ∃ e : Int, (ek2 : Int) = e := ⟨_, rfl⟩
  have hne2 : e2 ≠ 0 := by omega
  rw [hee2] at HAG HEVE HEC2
  clear hek2 hee2
  have HET := Lib.hid (fun (k : Int) (u : World) (hb : Below W.heap.size W u) => error_hit k u (et_below hg hb))
  have hwll : wl.length ≤ 100000000 := ha
  obtain ⟨nw, hnw⟩ : ∃ nw, wl.length = nw := ⟨_, rfl⟩
  have HNW := Lib.hid hnw
  rw [hn] at hl ⊢
  rw [hn1] at hLL ⊢
  rw [hnw] at HALL HEC2 hwll
  clear h hL ha hg he1 he2 hn hn1 hwl hnw
  go_enter Tryd.func3, Tryd.ntmps3
  go_upto_region 2 with fail
  obtain ⟨b1, HB1⟩ : ∃ b : Bool, Hid (b = true ↔ (m : Int) < 1 ∨ 16 < (m : Int)) := ⟨decide ((m : Int) < 1 ∨ 16 < (m : Int)), by show _ ↔ _; simp⟩
  go_cut [29] (fun v wc => v = .bool b1 ∧ W = wc)
  case first =>
    by_cases q1 : (m : Int) < 1
    · have z1 : decide ((m : Int) < 1) = true := decide_eq_true q1
      obtain rfl : b1 = true := HB1.out.2 (.inl q1)
      go_wp2_with fail
      go_meet
      exact ⟨rfl, rfl⟩
    · have z1 : decide ((m : Int) < 1) = false := decide_eq_false q1
      by_cases q2 : (m : Int) > 16
      · obtain rfl : b1 = true := HB1.out.2 (.inr q2)
        go_wp2_with fail
        go_meet
        exact ⟨by simp [q2], rfl⟩
      · obtain rfl : b1 = false := by
          cases b1 with
          | false => rfl
          | true => have := HB1.out.1 rfl; omega
        go_wp2_with fail
        go_meet
        exact ⟨by simp [q2], rfl⟩
  case rest =>
    obtain ⟨rfl, rfl⟩ := hcut
    go_upto_if 29 with fail
    go_cut [7] (fun v wc => v = .int .i64 0 ∧ W = wc)
    case first =>
      cases b1 with
      | true =>
        have hb := HB1.out.1 rfl
        exfalso
        have := HEC1.out; omega
      | false =>
        have hb : ¬ ((m : Int) < 1 ∨ 16 < (m : Int)) := fun k => by have := HB1.out.2 k; cases this
        by_cases q3 : (n : Int) > 400
        · exfalso
          have := HEC1.out; omega
        · clear hb
          go_wp2_with fail
          go_meet
          exact ⟨rfl, rfl⟩
    case rest =>
      obtain ⟨rfl, rfl⟩ := hcut
      have hbw : Below W.heap.size W W := Below.refl _ _
      have hev := HEV.out W hbw
      have hnil := error_nil
      go_wp2_with fail
      refine hev.mono ?_
      rintro e z1 ⟨v, rfl, hR⟩
      obtain ⟨B, rfl, hbz, hat⟩ := hR.at_
      rw [rowsP_len]
      have HAT : Hid (∀ (j : Nat), j < m → ∃ A c, z1.cell? ⟨B, j, none⟩ = some (.slice A (rowP m l j).length c) ∧ CsAt z1 A (tcells (rowP m l j))) := fun j hj => hat j _ (rowsP_at m l j hj)
      have HBZ := Lib.hid hbz
      clear hev hR hbz hat hbw
      have y1 : ((m : Int) != (m : Int)) = false := by simp
      have y2 : ((0 : Int) == 0) = true := by simp
      have y3 : ((0 : Int) != 0) = false := by simp
      go_wp2_with (go_at_call 6; refine (hnil _).mono ?_; rintro e w' ⟨rfl, rfl⟩)
      go_loopw [11] (fun vi wr => ∃ i : Nat, vi = .int .i64 (i : Int) ∧ i ≤ m ∧ Hid (Below z1.heap.size z1 wr)) (fun vi _ => m - (intOf vi).toNat)
      case atStart => exact ⟨0, rfl, by omega, Below.refl _ _⟩
      case round =>
        obtain ⟨i, rfl, hi, hB⟩ := hrel
        by_cases hlt : i < m
        · have hz : (i : Int) < (m : Int) := by omega
          have hn3 : n ≤ 400 := by have := HEC1.out; omega
          go_wp2_with fail
          go_loopw [12, 13] (fun vw vk wx => ∃ q : Nat, vk = .int .i64 ((q * m + i : Nat) : Int) ∧ q * m + i ≤ n + 16 ∧ Hid (TxR wx vw ((rowP m l i).take q) ∧ (∀ b, vw.ownBlock = some b → z1.heap.size ≤ b) ∧ Below z1.heap.size z1 wx)) (fun _ vk _ => n + 16 - (intOf vk).toNat)
          case atStart => exact ⟨0, by rw [Nat.zero_mul, Nat.zero_add], by omega, RwAt.nil _ _ _, by simp [Value.ownBlock], hB.out⟩
          case round =>
            rename World => wx
            obtain ⟨q, rfl, hq, hT⟩ := hrel
            have hrl := rowP_len m hm0 i hlt l q
            have hra := rowP_at m hm0 i hlt l q
            have hle := rowP_le m hm0 i hlt l
            obtain ⟨k, hk⟩ : ∃ k, q * m + i = k := ⟨_, rfl⟩
            rw [hk] at hq hrl hra ⊢
            have HK := Lib.hid hk
            clear hk
            by_cases hlt2 : k < n
            · have hz2 : (k : Int) < (n : Int) := by omega
              have hkl : k < l.length := by have := HN.out; omega
              have hqr := hrl.2 hkl
              obtain ⟨b, o, rfl, c1⟩ := tx_at (H.out.keep HBZ.out) k hkl
              have c1' : wx.cell? ⟨b, o + k, none⟩ = some (.string l[k]) := by rw [hT.out.2.2.cell (p := ⟨b, o + k, none⟩) (cell_lt c1)]; exact c1
              have htk : (rowP m l i).take (q + 1) = (rowP m l i).take q ++ [l[k]] := by
                rw [List.take_succ_eq_append_getElem hqr]
                rw [List.getElem?_eq_getElem hqr, List.getElem?_eq_getElem hkl] at hra
                injection hra with hra
                rw [hra]
              have hb2 : Below wx.heap.size wx (wx.alloc (.cells #[.string l[k]] 9)) := (Below.refl _ _).alloc (Nat.le_refl _) _
              obtain ⟨A1, c2, w1, hrun, h4, h5, h6⟩ := tx_app (m := [l[k]]) (hT.out.1.keep hb2) (src_one (s := l[k]) (u := wx.alloc (.cells #[.string l[k]] 9)) (heap_alloc_new wx _)) (by rw [List.length_singleton, List.length_take]; have := HN.out; omega)
              have HE2 : Hid (TxR w1 (.slice A1 ((rowP m l i).take q ++ [l[k]]).length c2) ((rowP m l i).take (q + 1)) ∧ (∀ b, Value.ownBlock (.slice A1 ((rowP m l i).take q ++ [l[k]]).length c2) = some b → z1.heap.size ≤ b) ∧ Below z1.heap.size z1 w1) := by
                rw [htk]
                refine ⟨h4, fun b' hb' => ?_, below_grown (hT.out.2.2.alloc hT.out.2.2.size _) h5 hT.out.2.1⟩
                rcases h6 b' hb' with h | h
                · exact hT.out.2.1 b' h
                · have := hT.out.2.2.size; have := hb2.size; omega
              obtain ⟨A9, c9, rfl, -, -⟩ := hT.out.1.slice
              have hln2 : ((rowP m l i).take q ++ [l[k]]).length = ((rowP m l i).take q).length + [l[k]].length := by simp
              rw [hln2] at HE2
              have HR := Lib.hid hrun
              clear hrun h4 h5 h6 hb2 hln2 htk hqr hra hrl hle c1 hT
              generalize ((rowP m l i).take q).length = r at *
              generalize l[k] = x at *
              go_wp2_with (at_builtin; refine Lib.wpList_append_run _ rfl _ _ _ _ rfl _ _ rfl rfl _ _ HR.out ?_)
              refine ⟨⟨q + 1, ?_, ?_, HE2⟩, ?_⟩
              · rw [show (q + 1) * m + i = k + m from by rw [Nat.add_mul, Nat.one_mul]; have := HK.out; omega]; go_num
              · rw [Nat.add_mul, Nat.one_mul]; have := HK.out; omega
              · simp [intOf]; omega
            · have hz2 : ¬ (k : Int) < (n : Int) := by omega
              have hfull : (rowP m l i).take q = rowP m l i := List.take_of_length_le (by have := HN.out; omega)
              rw [hfull] at hT
              obtain ⟨A9, c9, rfl, -, -⟩ := hT.out.1.slice
              obtain ⟨A8, c8, d1, d2⟩ := HAT.out i hlt
              have d1' : wx.cell? ⟨B, i, none⟩ = some (.slice A8 (rowP m l i).length c8) := by rw [hT.out.2.2.cell (p := ⟨B, i, none⟩) (cell_lt d1)]; exact d1
              have htx := texts_yes wx A8 A9 c8 c9 _ (rowP m l i) (d2.keep hT.out.2.2) hT.out.1.cs rfl (by have := HN.out; omega)
              have HT2 := Lib.hid hT.out.2.2
              clear hfull hT d1 d2 hrl hra hle
              generalize (rowP m l i).length = r at *
              go_wp2_with fail
              refine htx.mono ?_
              rintro e w3 ⟨rfl, x, rfl⟩
              have HT3 : Hid (Below z1.heap.size z1 (wx.drewN x)) := HT2.out.trans ⟨rfl, rfl, rfl, Nat.le_refl _, fun _ _ => rfl⟩
              clear htx HT2
              go_wp2_with fail
              exact ⟨⟨i + 1, by go_num, by omega, HT3⟩, by simp [intOf]; omega⟩
        · have hz : ¬ (i : Int) < (m : Int) := by omega
          have HBU : Hid (Below W.heap.size W wr) := below_after hB.out HBZ.out
          clear hB HBZ HAT
          have hall := HALL.out _ HBU.out
          go_wp2_with fail
          refine hall.mono ?_
          rintro e u3 ⟨AW, dW, rfl, hcw, hb3⟩
          have HBU3 := Lib.hid (below_after hb3 HBU.out)
          have HCW := Lib.hid hcw
          clear hall hcw hb3 HBU
          go_upto_region 23 with fail
          obtain ⟨b2, HB2⟩ : ∃ b : Bool, Hid (b = true ↔ (m : Int) < 1 ∨ 16 < (m : Int)) := ⟨decide ((m : Int) < 1 ∨ 16 < (m : Int)), by show _ ↔ _; simp⟩
          go_cut [102] (fun v wc => v = .bool b2 ∧ u3 = wc)
          case first =>
            by_cases q1 : (m : Int) < 1
            · have z1 : decide ((m : Int) < 1) = true := decide_eq_true q1
              obtain rfl : b2 = true := HB2.out.2 (.inl q1)
              go_wp2_with fail
              go_meet
              exact ⟨rfl, rfl⟩
            · have z1 : decide ((m : Int) < 1) = false := decide_eq_false q1
              by_cases q2 : (m : Int) > 16
              · obtain rfl : b2 = true := HB2.out.2 (.inr q2)
                go_wp2_with fail
                go_meet
                exact ⟨by simp [q2], rfl⟩
              · obtain rfl : b2 = false := by
                  cases b2 with
                  | false => rfl
                  | true => have := HB2.out.1 rfl; omega
                go_wp2_with fail
                go_meet
                exact ⟨by simp [q2], rfl⟩
          case rest =>
            obtain ⟨rfl, rfl⟩ := hcut
            go_upto_if 102 with fail
            go_cut [7] (fun v wc => v = .int .i64 e2 ∧ u3 = wc)
            case first =>
              cases b2 with
              | true =>
                have hb := HB2.out.1 rfl
                obtain rfl : e2 = 1 := by have := HEC2.out; omega
                go_wp2_with fail
                go_meet
                exact ⟨rfl, rfl⟩
              | false =>
                have hb : ¬ ((m : Int) < 1 ∨ 16 < (m : Int)) := fun k => by have := HB2.out.2 k; cases this
                by_cases q3 : (nw : Int) > 400
                · obtain rfl : e2 = 4 := by have := HEC2.out; omega
                  go_wp2_with fail
                  go_meet
                  exact ⟨rfl, rfl⟩
                · exfalso
                  have := HEC2.out; omega
            case rest =>
              obtain ⟨rfl, rfl⟩ := hcut
              have x5 : (e2 == 0) = false := by rw [beq_eq_false_iff_ne]; exact hne2
              have x6 : (e2 != 0) = true := by rw [bne_iff_ne]; exact hne2
              have hag := HAG.out u3 HBU3.out
              go_wp2_with fail
              refine hag.mono ?_
              rintro e w' ⟨rfl, rfl⟩
              rename World => u4
              have hER := HET.out e2 _ HBU3.out
              clear hag
              go_wp2_with fail
              refine hER.mono ?_
              rintro e u5 ⟨rfl, hb5⟩
              have HBU5 := Lib.hid (below_after hb5 HBU3.out)
              have hev := HEVE.out u5 HBU5.out
              clear hER hb5
              go_wp2_with fail
              refine hev.mono ?_
              rintro e w' ⟨rfl, rfl⟩
              have hER := HET.out e2 _ HBU5.out
              clear hev
              go_wp2_with fail
              refine hER.mono ?_
              rintro e u7 ⟨rfl, hb7⟩
              have HBU7 := Lib.hid (below_after hb7 HBU5.out)
              clear hER hb7
              go_wp2_with fail
              go_ret
              exact ⟨rfl, HBU7.out⟩
end
end Go.Proofs.YtfkeokeedljomaaDoor
