/- Which worker gets which load: the law's walk, where the loads are right. -/
import Derived.Test.YtfkeokeedljomaaDoorSx0
namespace Go.Proofs.YtfkeokeedljomaaDoor
open Go.RowKit
set_option linter.unusedVariables false

def atV : Option Nat → Int
  | none => -1
  | some y => y
section
variable (W : World) (a0 : Option Addr) (cap0 : Nat) (L : List Int) (wk : Int)
set_option maxRecDepth 100000 in
set_option maxHeartbeats 8000000 in
theorem loads_yes (h : CsAt W a0 (icells L)) (he : erL L wk = 0) :
    Calls Tryd.prog 4 #[.slice a0 L.length cap0, .int .i64 wk] W fun e w' => e = .returned (.bool true) ∧ Below W.heap.size W w' := by
  have H := Lib.hid h
  obtain ⟨n, hn⟩ : ∃ n, L.length = n := ⟨_, rfl⟩
  obtain ⟨q1, q2, q3, q4, q5⟩ := erL_ok he
  obtain ⟨m, rfl⟩ : ∃ m : Nat, wk = m := ⟨wk.toNat, by omega⟩
  rw [hn] at q3 ⊢
  have HN := Lib.hid hn
  have hm0 : 0 < m := by omega
  have hm16 : m ≤ 16 := by omega
  have HE := Lib.hid (least_yes W a0 cap0 n m L h hn.symm he)
  have HLD : Hid (∀ x < n, 0 ≤ ldf L x ∧ ldf L x ≤ 1000000) := fun x hx => badL_no q4 x (by omega)
  have HANY := Lib.hid q4
  have HMB := make_b n q3
  have HMI := make_i m (by omega)
  have z1 : decide ((m : Int) < 1) = false := decide_eq_false (by omega)
  have z2 : ¬ (m : Int) > 16 := by omega
  have z3 : ¬ (n : Int) > 400 := by omega
  clear he q1 q2 q4 q5 h hn
  go_enter Tryd.func4, Tryd.ntmps4
  go_wp2_with fail
  go_loop [5, 6] (fun v5 v6 => ∃ k : Nat, v6 = .int .i64 (k : Int) ∧ k ≤ n ∧ v5 = .int .i64 0) (fun _ v6 => n - (intOf v6).toNat)
  case atStart => exact ⟨0, rfl, by omega, rfl⟩
  case round =>
    obtain ⟨k, rfl, hk, rfl⟩ := hrel
    by_cases hlt : k < n
    · have hz : (k : Int) < (n : Int) := by omega
      obtain ⟨b, o, rfl, c1⟩ := is_at H.out k (by have := HN.out; omega)
      rw [← ldf_at L k (by have := HN.out; omega)] at c1
      have hld := HLD.out k hlt
      generalize ldf L k = x at *
      have y1 : decide (x < 0) = false := decide_eq_false (by omega)
      have y2 : ¬ x > 1000000 := by omega
      go_wp2_with fail
      exact ⟨⟨k + 1, by go_num, by omega, rfl⟩, by simp [intOf]; omega⟩
    · have hz : ¬ (k : Int) < (n : Int) := by omega
      go_wp2_with fail
      refine HE.out.mono ?_
      rintro e u2 ⟨C, rfl, k1, k2, k3, hb2⟩
      have HC : Hid (Bk (ldf L) 0 C ∧ C.length = n ∧ C.Nodup ∧ ∀ x ∈ C, x < n) := ⟨k1, k2, k1.1.nodup_iff.2 (List.nodup_range' ..), fun x hx => by have := k1.mem hx; omega⟩
      have HB2 := Lib.hid hb2
      obtain ⟨gw, hgw⟩ : ∃ g, W.heap.size = g := ⟨_, rfl⟩
      rw [hgw] at k3 ⊢
      have HGOT := Lib.hid k3
      have hek := error_nil u2
      clear k1 k2 k3 hb2 hgw hlt
      go_wp2_with (go_at_call 6; refine hek.mono ?_; rintro e w' ⟨rfl, rfl⟩)
      have HD0 : Hid (BR ((u2.alloc (.cells (madeCells #[.bool false] n) 4)).alloc (.cells (madeCells #[.int .i64 0] m) 3)) u2.heap.size (dnL C n 0)) := by
        show BR _ _ _
        rw [dnL_zero]
        exact (BR.made u2 n).fr (xs := []) (by simp) ((Fr.refl _ _).alloc _)
      have HS0 : Hid (ZR ((u2.alloc (.cells (madeCells #[.bool false] n) 4)).alloc (.cells (madeCells #[.int .i64 0] m) 3)) (u2.heap.size + 1) (givs (ldf L) m n (C.take 0)).1) := by
        have := ZR.made (u2.alloc (.cells (madeCells #[.bool false] n) 4)) m
        show ZR _ _ (List.replicate m 0)
        simpa using this
      have HF0 : Hid (Below u2.heap.size u2 ((u2.alloc (.cells (madeCells #[.bool false] n) 4)).alloc (.cells (madeCells #[.int .i64 0] m) 3))) := ((Below.refl _ _).alloc (Nat.le_refl _) _).alloc (by simp) _
      obtain ⟨db, hdb⟩ : ∃ d, u2.heap.size = d := ⟨_, rfl⟩
      rw [hdb] at HD0 HS0 HF0 ⊢
      have HDB := Lib.hid hdb
      clear hdb hek
      generalize (u2.alloc (.cells (madeCells #[.bool false] n) 4)).alloc (.cells (madeCells #[.int .i64 0] m) 3) = W1 at HD0 HS0 HF0 ⊢
      go_loopw [80] (fun vt wr => ∃ t : Nat, vt = .int .i64 (t : Int) ∧ t ≤ n ∧ Hid (BR wr db (dnL C n t)) ∧ Hid (ZR wr (db + 1) (givs (ldf L) m n (C.take t)).1) ∧ Hid (Below db u2 wr)) (fun vt _ => n - (intOf vt).toNat)
      case atStart => exact ⟨0, rfl, by omega, HD0, HS0, HF0⟩
      case round =>
        obtain ⟨t, rfl, ht, hD, hS, hB⟩ := hrel
        by_cases hlt : t < n
        · have hz2 : (t : Int) < (n : Int) := by omega
          have hCS : Hid (CsAt wr a0 (icells L)) := by
            have h1 : Below u2.heap.size u2 wr := by rw [HDB.out]; exact hB.out
            exact (H.out.keep HB2.out).keep h1
          go_wp2_with fail
          go_loopw [12, 13] (fun va vi wx => ∃ (i : Nat) (a : Option Nat), vi = .int .i64 (i : Int) ∧ va = .int .i64 (atV a) ∧ i ≤ n ∧ Hid (Pk (ldf L) (fun x => x ∈ C.take t) i a) ∧ Hid (∃ q, wx = wr.drewN q)) (fun _ vi _ => n - (intOf vi).toNat)
          case atStart => exact ⟨0, none, rfl, rfl, by omega, Pk.zero _ _, ⟨0, rfl⟩⟩
          case round =>
            rename World => wx
            obtain ⟨i, a, rfl, rfl, hi, hP, ⟨q0, hq0⟩⟩ := hrel
            by_cases hlt2 : i < n
            · have hz3 : (i : Int) < (n : Int) := by omega
              have d1 := (hD.out i _ (dnL_at C n t i hlt2)).1
              have d1' : wx.cell? ⟨db, i, none⟩ = some (.bool (decide (i ∈ C.take t))) := by rw [hq0]; exact d1
              obtain ⟨b, o, rfl, c1⟩ := is_at hCS.out i (by have := HN.out; omega)
              rw [← ldf_at L i (by have := HN.out; omega)] at c1
              have c1' : wx.cell? ⟨b, o + i, none⟩ = some (.int .i64 (ldf L i)) := by rw [hq0]; exact c1
              have HQ0 := Lib.hid hq0
              clear d1 c1 hq0
              by_cases hdn : i ∈ C.take t
              · have hpk := Lib.hid (hP.out.done hdn)
                rw [decide_eq_true hdn] at d1'
                clear hdn
                go_wp2_with fail
                go_quiet (fail)
                go_wp2_with fail
                exact ⟨⟨i + 1, a, by go_num, rfl, by omega, hpk, ⟨q0 + nq, by rw [HQ0.out, World.drewN_drewN]⟩⟩, by simp [intOf]; omega⟩
              · rw [decide_eq_false hdn] at d1'
                cases a with
                | none =>
                  have hpk := Lib.hid (hP.out.first hdn)
                  clear hdn
                  simp only [atV]
                  go_wp2_with fail
                  go_quiet (fail)
                  go_wp2_with fail
                  exact ⟨⟨i + 1, some i, by go_num, rfl, by omega, hpk, ⟨q0 + nq, by rw [HQ0.out, World.drewN_drewN]⟩⟩, by simp [intOf]; omega⟩
                | some y =>
                  have hyn : y < n := by
                    rcases hP.out with ⟨h1, -⟩ | ⟨z, h1, h2, -⟩
                    · cases h1
                    · injection h1 with h1; omega
                  have hyz : (y : Int) < (n : Int) := by omega
                  have hy0 : ¬ (y : Int) < 0 := by omega
                  have hy1 : decide ((y : Int) < 0) = false := decide_eq_false hy0
                  obtain ⟨b2, o2, e2, c2⟩ := is_at hCS.out y (by have := HN.out; omega)
                  obtain ⟨rfl, rfl⟩ : b = b2 ∧ o = o2 := by injection e2 with e2; injection e2 with e2 e3; exact ⟨e2, e3⟩
                  rw [← ldf_at L y (by have := HN.out; omega)] at c2
                  have c2' : wx.cell? ⟨b, o + y, none⟩ = some (.int .i64 (ldf L y)) := by rw [HQ0.out]; exact c2
                  clear c2 e2
                  by_cases hgt : ldf L i > ldf L y
                  · have hpk := Lib.hid (hP.out.more hdn hgt)
                    clear hdn
                    simp only [atV]
                    generalize ldf L i = x1 at *
                    generalize ldf L y = x2 at *
                    have hg2 : decide (x1 > x2) = true := decide_eq_true hgt
                    go_wp2_with fail
                    go_quiet (fail)
                    go_wp2_with fail
                    exact ⟨⟨i + 1, some i, by go_num, rfl, by omega, hpk, ⟨q0 + nq, by rw [HQ0.out, World.drewN_drewN]⟩⟩, by simp [intOf]; omega⟩
                  · have hpk := Lib.hid (hP.out.less hgt)
                    clear hdn
                    simp only [atV]
                    generalize ldf L i = x1 at *
                    generalize ldf L y = x2 at *
                    have hg2 : decide (x1 > x2) = false := decide_eq_false hgt
                    go_wp2_with fail
                    go_quiet (fail)
                    go_wp2_with fail
                    exact ⟨⟨i + 1, some y, by go_num, rfl, by omega, hpk, ⟨q0 + nq, by rw [HQ0.out, World.drewN_drewN]⟩⟩, by simp [intOf]; omega⟩
            · have hz3 : ¬ (i : Int) < (n : Int) := by omega
              obtain rfl : i = n := by omega
              obtain ⟨y, hy, rfl⟩ := Pk.end_ HC.out.1 HC.out.2.1 hlt hP.out
              simp only [atV]
              have hym := List.mem_of_getElem? hy
              have hyn := HC.out.2.2.2 y hym
              have hyz : (y : Int) < (i : Int) := by omega
              have HY := Lib.hid hy
              have hGl := (givs_len (ldf L) m i (C.take t)).1
              have hDx : Hid (BR wx db (dnL C i t)) := by rw [hq0]; exact hD.out
              have hSx : Hid (ZR wx (db + 1) (givs (ldf L) m i (C.take t)).1) := by rw [hq0]; exact hS.out
              have hBx : Hid (Below db u2 wx) := by rw [hq0]; exact hB.out.trans ⟨rfl, rfl, rfl, Nat.le_refl _, fun _ _ => rfl⟩
              have hCx : Hid (CsAt wx a0 (icells L)) := by rw [hq0]; exact hCS.out.keep ⟨rfl, rfl, rfl, Nat.le_refl _, fun _ _ => rfl⟩
              clear hP hq0 hy hym hD hS hB hCS
              have HGL := Lib.hid hGl
              clear hGl
              go_wp2_with fail
              have hwho := who_at (ldf L) m i C HC.out.2.2.1 HC.out.2.2.2 t y HY.out
              obtain ⟨g1, -⟩ := HGOT.out y _ hwho
              have hBu : Below u2.heap.size u2 wx := by rw [HDB.out]; exact hBx.out
              have hnx : Hid (givs (ldf L) m i (C.take (t + 1)) = giv (ldf L) (givs (ldf L) m i (C.take t)) y) := by
                obtain ⟨k1, rfl⟩ := List.getElem?_eq_some_iff.1 HY.out
                show _ = _
                rw [List.take_succ_eq_append_getElem k1, givs_snoc]
              have hbd := givs_bd (ldf L) m i hm0 1000000 (C.take t) (fun x hx => HLD.out x (HC.out.2.2.2 x (List.mem_of_mem_take hx)))
              have hle : (C.take t).length ≤ 400 := by rw [List.length_take]; omega
              have HBD : Hid (∀ z ∈ (givs (ldf L) m i (C.take t)).1, 0 ≤ z ∧ z ≤ 400000000) := fun z hz => by have := hbd z hz; omega
              clear hwho hbd hle
              obtain ⟨Hs, Ks, hHK⟩ : ∃ Hs Ks, givs (ldf L) m i (C.take t) = (Hs, Ks) := ⟨_, _, rfl⟩
              rw [hHK] at hSx HGL HBD hnx g1
              simp only at hSx HGL HBD g1
              have HAM := Lib.hid (argmin_lt Hs (by intro e; have := HGL.out; rw [e] at this; simp at this; omega))
              clear hHK
              go_loopw [14, 15] (fun vw vj wz => ∃ (j w : Nat), vj = .int .i64 (j : Int) ∧ vw = .int .i64 (w : Int) ∧ 1 ≤ j ∧ j ≤ m ∧ Hid (Am Hs j w) ∧ Hid (∃ q, wz = wx.drewN q)) (fun _ vj _ => m - (intOf vj).toNat)
              case atStart => exact ⟨1, 0, rfl, rfl, by omega, by omega, Am.one _, ⟨0, rfl⟩⟩
              case round =>
                rename World => wz
                obtain ⟨j, w, rfl, rfl, hj1, hj, hA, ⟨q1, hq1⟩⟩ := hrel
                have hwj := hA.out.1
                by_cases hlt3 : j < m
                · have hz4 : (j : Int) < (m : Int) := by omega
                  have hz5 : (w : Int) < (m : Int) := by omega
                  have e1 := (hSx.out j (Hs.getD j 0) (by rw [List.getD_eq_getElem?_getD, List.getElem?_eq_getElem (by have := HGL.out; omega)]; rfl)).1
                  have e2 := (hSx.out w (Hs.getD w 0) (by rw [List.getD_eq_getElem?_getD, List.getElem?_eq_getElem (by have := HGL.out; omega)]; rfl)).1
                  have e1' : wz.cell? ⟨db + 1, j, none⟩ = some (.int .i64 (Hs.getD j 0)) := by rw [hq1]; exact e1
                  have e2' : wz.cell? ⟨db + 1, w, none⟩ = some (.int .i64 (Hs.getD w 0)) := by rw [hq1]; exact e2
                  have HQ1 := Lib.hid hq1
                  clear e1 e2 hq1 g1
                  by_cases hl : Hs.getD j 0 < Hs.getD w 0
                  · have hA2 := Lib.hid (hA.out.yes hl)
                    have hl2 : decide (Hs.getD j 0 < Hs.getD w 0) = true := decide_eq_true hl
                    generalize Hs.getD j 0 = x1 at *
                    generalize Hs.getD w 0 = x2 at *
                    go_wp2_with fail
                    go_quiet (fail)
                    go_wp2_with fail
                    exact ⟨⟨j + 1, j, by go_num, rfl, by omega, by omega, hA2, ⟨q1 + nq, by rw [HQ1.out, World.drewN_drewN]⟩⟩, by simp [intOf]; omega⟩
                  · have hA2 := Lib.hid (hA.out.no hl)
                    have hl2 : decide (Hs.getD j 0 < Hs.getD w 0) = false := decide_eq_false hl
                    generalize Hs.getD j 0 = x1 at *
                    generalize Hs.getD w 0 = x2 at *
                    go_wp2_with fail
                    go_quiet (fail)
                    go_wp2_with fail
                    exact ⟨⟨j + 1, w, by go_num, rfl, by omega, by omega, hA2, ⟨q1 + nq, by rw [HQ1.out, World.drewN_drewN]⟩⟩, by simp [intOf]; omega⟩
                · have hz4 : ¬ (j : Int) < (m : Int) := by omega
                  obtain rfl : j = m := by omega
                  have hw : w = argmin Hs := by
                    have := hA.out
                    rw [← HGL.out] at this
                    exact this.end_
                  rw [← hw] at g1 HAM
                  have hwm : w < j := by have := HAM.out; have := HGL.out; omega
                  have hwz : (w : Int) < (j : Int) := by omega
                  have hDz : BR wz db (dnL C i t) := by rw [hq1]; exact hDx.out
                  have hSz : ZR wz (db + 1) Hs := by rw [hq1]; exact hSx.out
                  have hBz : Below db u2 wz := by rw [hq1]; exact hBx.out.trans ⟨rfl, rfl, rfl, Nat.le_refl _, fun _ _ => rfl⟩
                  have hBzu : Below u2.heap.size u2 wz := by rw [HDB.out]; exact hBz
                  have hCz : CsAt wz a0 (icells L) := by rw [hq1]; exact hCx.out.keep ⟨rfl, rfl, rfl, Nat.le_refl _, fun _ _ => rfl⟩
                  obtain ⟨d1, d2⟩ := hDz y _ (dnL_at C i t y hyn)
                  obtain ⟨s1, s2⟩ := hSz w (Hs.getD w 0) (by rw [List.getD_eq_getElem?_getD, List.getElem?_eq_getElem HAM.out]; rfl)
                  obtain ⟨b, o, rfl, c1⟩ := is_at hCz y (by have := HN.out; omega)
                  rw [← ldf_at L y (by have := HN.out; omega)] at c1
                  have hcl : b ≠ db ∧ b ≠ db + 1 := by
                    obtain ⟨b3, o3, e3, c3⟩ := is_at H.out y (by have := HN.out; omega)
                    injection e3 with e3; injection e3 with e3
                    have := cell_lt c3
                    have := HB2.out.size
                    have := HDB.out
                    omega
                  have hgl : gw ≠ db ∧ gw ≠ db + 1 := by
                    have := cell_lt g1
                    have := HDB.out
                    omega
                  have g1z : wz.cell? ⟨gw, y, none⟩ = some (.int .i64 (w : Int)) := by rw [hBzu.cell (p := ⟨gw, y, none⟩) (cell_lt g1)]; exact g1
                  have hld := HLD.out y hyn
                  have hsb : 0 ≤ Hs.getD w 0 ∧ Hs.getD w 0 ≤ 400000000 := by
                    have := HBD.out (Hs[w]'HAM.out) (List.getElem_mem _)
                    rw [List.getD_eq_getElem?_getD, List.getElem?_eq_getElem HAM.out]; exact this
                  have hne : ¬ (db + 1 = db) := by omega
                  have hend : Hid (BR ((wz.setCell ⟨db, y, none⟩ (.bool true)).setCell ⟨db + 1, w, none⟩ (.int .i64 (Hs.getD w 0 + ldf L y))) db (dnL C i (t + 1)) ∧ ZR ((wz.setCell ⟨db, y, none⟩ (.bool true)).setCell ⟨db + 1, w, none⟩ (.int .i64 (Hs.getD w 0 + ldf L y))) (db + 1) (givs (ldf L) j i (C.take (t + 1))).1 ∧ Below db u2 ((wz.setCell ⟨db, y, none⟩ (.bool true)).setCell ⟨db + 1, w, none⟩ (.int .i64 (Hs.getD w 0 + ldf L y)))) := by
                    refine ⟨?_, ?_, (hBz.setCell (by show db ≤ db; omega) _).setCell (by show db ≤ db + 1; omega) _⟩
                    · rw [← dnL_set C i t y HY.out]
                      exact (hDz.set y true).fr (xs := [db + 1]) (by simp) ((Fr.refl _ _).setCell (.inl (by simp)) _)
                    · rw [hnx.out]
                      unfold giv
                      simp only
                      rw [← hw]
                      exact (hSz.fr (xs := [db]) (by simp) ((Fr.refl _ _).setCell (.inl (by simp)) _)).set w _
                  have s1' : (wz.setCell ⟨db, y, none⟩ (.bool true)).cell? ⟨db + 1, w, none⟩ = some (.int .i64 (Hs.getD w 0)) := by rw [World.cell?_setCell_far _ _ _ _ (by show db ≠ db + 1; omega)]; exact s1
                  have c1' : (wz.setCell ⟨db, y, none⟩ (.bool true)).cell? ⟨b, o + y, none⟩ = some (.int .i64 (ldf L y)) := by rw [World.cell?_setCell_far _ _ _ _ (by show db ≠ b; omega)]; exact c1
                  have g1' : ((wz.setCell ⟨db, y, none⟩ (.bool true)).setCell ⟨db + 1, w, none⟩ (.int .i64 (Hs.getD w 0 + ldf L y))).cell? ⟨gw, y, none⟩ = some (.int .i64 (w : Int)) := by rw [World.cell?_setCell_far _ _ _ _ (by show db + 1 ≠ gw; omega), World.cell?_setCell_far _ _ _ _ (by show db ≠ gw; omega)]; exact g1z
                  clear hw hDz hSz hBz hBzu hCz g1 hq1 hnx hA g1z
                  generalize Hs.getD w 0 = x1 at *
                  generalize ldf L y = x2 at *
                  have t9 : ((w : Int) != (w : Int)) = false := by simp
                  go_wp2_with fail
                  go_region
                  all_goals go_wp2_with fail
                  all_goals exact ⟨⟨t + 1, by go_num, by omega, hend.out.1.fr (xs := []) (by simp) (Fr.refl _ _).drew, hend.out.2.1.fr (xs := []) (by simp) (Fr.refl _ _).drew, hend.out.2.2.drew⟩, by simp [intOf]; omega⟩
        · have hz2 : ¬ (t : Int) < (n : Int) := by omega
          go_wp2_with fail
          go_ret
          exact ⟨rfl, HB2.out.trans (by have h1 : Below u2.heap.size u2 wr := by rw [HDB.out]; exact hB.out
                                        exact h1.mono HB2.out.size)⟩
end
end Go.Proofs.YtfkeokeedljomaaDoor
