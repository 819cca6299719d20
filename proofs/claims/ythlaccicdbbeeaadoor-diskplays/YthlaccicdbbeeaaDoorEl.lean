/- DiskPlays, walked. -/
import Derived.Test.YthlaccicdbbeeaaDoorEm
import Derived.Test.YthlaccicdbbeeaaDoorEp
import Derived.Deep.DeepCutAuto
namespace Go.Proofs.YthlaccicdbbeeaaDoor
open Go.RowKit
set_option linter.unusedVariables false

/-- The first t of four numbers. -/
def vv (l : List Int) (t m : Nat) : Int := if m < t then l.getD m 0 else 0
/-- The thing of a step. -/
def wkOf (v0 v1 v2 v3 : Int) (bs : List UInt8) : Wk := ⟨v0, fileP v1, fileP v2, bs, v3⟩

set_option maxRecDepth 100000 in
set_option maxHeartbeats 20000000 in
theorem plays_walk (w : World) (ps : Option Addr) (cs : Nat) (S : List (List Int)) (hS : IiAt w ps S) (hSl : S.length ≤ 9223372036854775807) (hSll : ∀ l ∈ S, l.length ≤ 9223372036854775807) (pb : Option Addr) (cb : Nat) (b : List UInt8) (hb : BsAt w pb b) (hbc : pb = none → cb = 0) (hbl : b.length + 1 ≤ 140737488355328) (hg : w.cell? ⟨0, 0, none⟩ = some ET) :
    Calls Tryd.prog 3 #[.slice ps S.length cs, .slice pb b.length cb] w fun e w' => e = .returned (.bool true) ∧ Below w.heap.size w w' := by
  go_enter Tryd.func3, Tryd.ntmps3
  go_wp2_with (go_at_call 5; refine (new_any w).mono ?_; rintro e w1 ⟨rfl, h1, b1⟩)
  have hK : Below w1.heap.size w1 (w1.alloc (.cells #[.slice none 0 0, .slice none 0 0, .slice none 0 0, .int .i64 0, .int .i64 (-1)] 30)) := (Below.refl _ _).alloc (Nat.le_refl _) _
  have hBo : Both w.heap.size (w1.alloc (.cells #[.slice none 0 0, .slice none 0 0, .slice none 0 0, .int .i64 0, .int .i64 (-1)] 30)) (w.heap.size + 1) w.heap.size w1.heap.size (.slice none 0 0) newD newK newK 0 0 := by
    refine ⟨h1.newX hK (fun b hb => by subst hb; simp), ⟨none, 0, [], none, 0, [], none, 0, [], ?_, .inl rfl, rfl, .inl rfl, rfl, .inl rfl, rfl, by simp, fun _ => rfl⟩, Tie.new, Bd.new, rfl, by omega⟩
    show (w1.heap.push _)[w1.heap.size]? = _
    simp [newK]
  have hB2 : Below w.heap.size w (w1.alloc (.cells #[.slice none 0 0, .slice none 0 0, .slice none 0 0, .int .i64 0, .int .i64 (-1)] 30)) := b1.trans (hK.mono b1.size)
  clear h1 hK
  go_loopw [7] (fun i wr => ∃ (j : Nat) (uv : Value) (d : Ds) (k : Kd) (n : Nat), j ≤ S.length ∧ j ≤ 80 ∧ i = .int .i64 j ∧ Both w.heap.size wr (w.heap.size + 1) w.heap.size w1.heap.size uv d k k n j ∧ Below w.heap.size w wr) (fun i _ => S.length - (intOf i).toNat)
  case atStart => exact ⟨0, _, _, _, _, Nat.zero_le _, by omega, rfl, hBo, hB2⟩
  case round =>
    clear hBo hB2
    obtain ⟨j, uv, d, k, n, hj, hj8, rfl, hBo, hB⟩ := hrel
    by_cases hlt : j < S.length ∧ j < 80
    · obtain ⟨l1, l2⟩ := hlt
      have i1 : (j : Int) < S.length := by omega
      have i2 : (j : Int) < 80 := by omega
      rcases hS with hS | ⟨sb, so, rfl, hS⟩
      · subst hS; simp at l1
      obtain ⟨q, qc, s1, s2⟩ := hS j l1
      have hlen := hSll _ (List.getElem_mem l1)
      have hsb := block_lt_of_cell s1
      have r1 : ∀ w' : World, Below w.heap.size w w' → w'.cell? ⟨sb, so + j, none⟩ = some (.slice q S[j].length qc) := fun w' h => (h.cell (p := ⟨sb, so + j, none⟩) hsb).trans s1
      clear s1 hS
      generalize S[j] = l at *
      generalize wr = wo at *
      go_wp2
      have hVa : Below wo.heap.size wo (wo.alloc (.cells #[.int .i64 0, .int .i64 0, .int .i64 0, .int .i64 0] 31)) := (Below.refl _ _).alloc (Nat.le_refl _) _
      have hV0 : (wo.alloc (.cells #[.int .i64 0, .int .i64 0, .int .i64 0, .int .i64 0] 31)).heap[wo.heap.size]? = some (.cells #[.int .i64 (vv l 0 0), .int .i64 (vv l 0 1), .int .i64 (vv l 0 2), .int .i64 (vv l 0 3)] 31) := by
        show (wo.heap.push _)[wo.heap.size]? = _
        simp [vv]
      have hz0 : wo.heap.size + 1 ≤ (wo.alloc (.cells #[.int .i64 0, .int .i64 0, .int .i64 0, .int .i64 0] 31)).heap.size := by simp
      go_loopw [9] (fun i wr => ∃ t : Nat, t ≤ l.length ∧ t ≤ 4 ∧ i = .int .i64 t ∧ Below wo.heap.size wo wr ∧ wr.heap[wo.heap.size]? = some (.cells #[.int .i64 (vv l t 0), .int .i64 (vv l t 1), .int .i64 (vv l t 2), .int .i64 (vv l t 3)] 31) ∧ wo.heap.size + 1 ≤ wr.heap.size) (fun i _ => 4 - (intOf i).toNat)
      case atStart => exact ⟨0, Nat.zero_le _, by omega, rfl, hVa, hV0, hz0⟩
      case round =>
        clear hVa hV0 hz0
        obtain ⟨t, ht, ht4, rfl, hVa, hV0, hz0⟩ := hrel
        have hBv : Below w.heap.size w wr := hB.trans (hVa.mono hB.size)
        have rr1 := r1 wr hBv
        by_cases hl : t < l.length ∧ t < 4
        · obtain ⟨m1, m2⟩ := hl
          have n1 : (t : Int) < l.length := by omega
          have n2 : (t : Int) < 4 := by omega
          rcases s2 with s2 | ⟨lb, lo', rfl, s2⟩
          · subst s2; simp at m1
          have s3 := s2 t m1
          have s4 : wr.cell? ⟨lb, lo' + t, none⟩ = some (.int .i64 (l.getD t 0)) := by
            rw [(hBv.cell (p := ⟨lb, lo' + t, none⟩) (block_lt_of_cell s3)).trans s3]; simp [List.getD, m1]
          have vc : ∀ m, m < 4 → wr.cell? ⟨wo.heap.size, m, none⟩ = some (.int .i64 (vv l t m)) := fun m hm => by
            obtain rfl | rfl | rfl | rfl : m = 0 ∨ m = 1 ∨ m = 2 ∨ m = 3 := by omega
            all_goals simp [World.cell?, hV0]
          have vc0 := vc t m2
          have vf : wr.frozen? ⟨wo.heap.size, t, none⟩ = false := by simp [World.frozen?, hV0]
          have HV : Hid ((wr.setCell ⟨wo.heap.size, t, none⟩ (.int .i64 (l.getD t 0))).heap[wo.heap.size]? = some (.cells #[.int .i64 (vv l (t + 1) 0), .int .i64 (vv l (t + 1) 1), .int .i64 (vv l (t + 1) 2), .int .i64 (vv l (t + 1) 3)] 31)) := by
            show _ = _
            obtain rfl | rfl | rfl | rfl : t = 0 ∨ t = 1 ∨ t = 2 ∨ t = 3 := by omega
            all_goals simp [World.setCell, Array.getElem?_modify, hV0, vv]
          have HB : Hid (Below wo.heap.size wo (wr.setCell ⟨wo.heap.size, t, none⟩ (.int .i64 (l.getD t 0)))) := hVa.setCell (Nat.le_refl _) _
          clear s2 s3 vc
          generalize l.getD t 0 = lt at *
          go_wp2
          go_roundw
          case rel => exact ⟨t + 1, by omega, by omega, by go_num, HB.out, HV.out, by simpa using hz0⟩
          case measure => simp [intOf]; omega
        · have hcase : ¬ (t : Int) < l.length ∨ ((t : Int) < l.length ∧ ¬ (t : Int) < 4) := by omega
          have hBn := hBo.below hVa
          clear hBo
          generalize vv l t 0 = v0 at *
          generalize vv l t 1 = v1 at *
          generalize vv l t 2 = v2 at *
          generalize vv l t 3 = v3 at *
          have y0 : wr.cell? ⟨wo.heap.size, 0, none⟩ = some (.int .i64 v0) := by simp [World.cell?, hV0]
          have y1 : wr.cell? ⟨wo.heap.size, 1, none⟩ = some (.int .i64 v1) := by simp [World.cell?, hV0]
          have y2 : wr.cell? ⟨wo.heap.size, 2, none⟩ = some (.int .i64 v2) := by simp [World.cell?, hV0]
          have y3 : wr.cell? ⟨wo.heap.size, 3, none⟩ = some (.int .i64 v3) := by simp [World.cell?, hV0]
          have hzw : wo.heap.size < wr.heap.size := by omega
          generalize wr = wp at *
          go_upto_region 8 with fail
          go_cut [44] (fun t wc => wp = wc ∧ t = .bool false)
          case first =>
            rcases hcase with n1 | ⟨n1, n2⟩
            · go_wp2_with fail
              go_meet
              case rel => exact ⟨rfl, by simp⟩
            · go_wp2_with fail
              go_meet
              case rel => exact ⟨rfl, by simp⟩
          case rest =>
            obtain ⟨rfl, rfl⟩ := hcut
            clear hcase
            go_upto_region 11 with fail
            go_cut [10] (fun t wc => wc = (wp.alloc (.cells #[.int .i64 v0, .string (fileP v1), .string (fileP v2), .slice none 0 0, .int .i64 v3] 35)).drew ∧ t = .pointer (some ⟨wp.heap.size, 0, none⟩))
            case first =>
              go_region_held3 (fun w' => w'.cell? ⟨wo.heap.size, 0, none⟩ = some (.int .i64 v0) ∧ w'.cell? ⟨wo.heap.size, 1, none⟩ = some (.int .i64 v1) ∧ w'.cell? ⟨wo.heap.size, 2, none⟩ = some (.int .i64 v2) ∧ w'.cell? ⟨wo.heap.size, 3, none⟩ = some (.int .i64 v3)) (first | go_keep | (refine ⟨?_, ?_, ?_, ?_⟩ <;> (simp [go_sem, y0, y1, y2, y3, hzw]; done))) (first | (go_at_call 6; refine (file_any _ _).mono ?_; rintro e w' ⟨rfl, rfl⟩))
              all_goals
                go_wp2_with fail
                go_meet
                case rel => exact ⟨rfl, rfl⟩
            case rest =>
              obtain ⟨rfl, rfl⟩ := hcut
              go_upto_region 13 with fail
              go_cut [68] (fun t wc => wc = (wp.alloc (.cells #[.int .i64 v0, .string (fileP v1), .string (fileP v2), .slice none 0 0, .int .i64 v3] 35)).drew ∧ t = .int .i64 v0)
              case first =>
                go_wp2_with fail
                go_meet
                case rel => exact ⟨rfl, rfl⟩
              case rest =>
                obtain ⟨rfl, rfl⟩ := hcut
                have hbox : ((wp.alloc (.cells #[.int .i64 v0, .string (fileP v1), .string (fileP v2), .slice none 0 0, .int .i64 v3] 35)).drew).heap[wp.heap.size]? = some (.cells #[.int .i64 v0, .string (fileP v1), .string (fileP v2), .slice none 0 0, .int .i64 v3] 35) := by
                  show (wp.heap.push _)[wp.heap.size]? = _
                  simp
                have hbel : Below wp.heap.size wp ((wp.alloc (.cells #[.int .i64 v0, .string (fileP v1), .string (fileP v2), .slice none 0 0, .int .i64 v3] 35)).drew) := ((Below.refl _ wp).alloc (Nat.le_refl _) _).drew
                have hzz : wp.heap.size + 1 ≤ ((wp.alloc (.cells #[.int .i64 v0, .string (fileP v1), .string (fileP v2), .slice none 0 0, .int .i64 v3] 35)).drew).heap.size := by
                  show _ ≤ (wp.heap.push _).size
                  simp
                have hBm := hBn.below hbel
                have hBw : Below w.heap.size w ((wp.alloc (.cells #[.int .i64 v0, .string (fileP v1), .string (fileP v2), .slice none 0 0, .int .i64 v3] 35)).drew) := hBv.trans (hbel.mono hBv.size)
                have hOw := (hBn.dk.oth (Nat.le_refl wp.heap.size)).1
                have hKw : wp.heap.size ≠ w1.heap.size := by have := hBn.ka.lt; omega
                generalize (wp.alloc (.cells #[.int .i64 v0, .string (fileP v1), .string (fileP v2), .slice none 0 0, .int .i64 v3] 35)).drew = wq at *
                generalize hWb : wp.heap.size = Wb at *
                clear y0 y1 y2 y3 hV0 rr1 s2
                by_cases hkd : 1 ≤ v0 ∧ v0 ≤ 6
                · apply_assumption
                  go_cut [11] (fun v wc => ∃ (q' : Option Addr) (qc' : Nat) (bs : List UInt8), wc.heap[Wb]? = some (.cells #[.int .i64 v0, .string (fileP v1), .string (fileP v2), .slice q' bs.length qc', .int .i64 v3] 35) ∧ v = erV (doP k (wkOf v0 v1 v2 v3 bs)).1 ∧ (∃ wz, Mid w.heap.size wz (w.heap.size + 1) w.heap.size w1.heap.size uv k (wkOf v0 v1 v2 v3 bs) j wc) ∧ Below w.heap.size w wc ∧ (∀ uv', wc.cell? ⟨w.heap.size + 1, 1, none⟩ = some uv' → BsO wc (OKb w1.heap.size (w.heap.size + 1) w.heap.size uv') q' bs))
                  case first =>
                    have hj1 : j ≤ 100 := by omega
                    have y0 : wq.cell? ⟨Wb, 0, none⟩ = some (.int .i64 v0) := by simp [World.cell?, hbox]
                    have y1 : wq.cell? ⟨Wb, 1, none⟩ = some (.string (fileP v1)) := by simp [World.cell?, hbox]
                    have y2 : wq.cell? ⟨Wb, 2, none⟩ = some (.string (fileP v2)) := by simp [World.cell?, hbox]
                    have y3 : wq.cell? ⟨Wb, 3, none⟩ = some (.slice none 0 0) := by simp [World.cell?, hbox]
                    have y4 : wq.cell? ⟨Wb, 4, none⟩ = some (.int .i64 v3) := by simp [World.cell?, hbox]
                    have hkc : v0 = 1 ∨ v0 = 2 ∨ v0 = 3 ∨ v0 = 4 ∨ v0 = 5 ∨ v0 = 6 := by omega
                    rcases hkc with rfl | rfl | rfl | rfl | rfl | rfl
                    · as_aux_lemma =>
                        have hbq : BsAt wq pb b := hb.keep hBw
                        have hwlt : Wb < wq.heap.size := by omega
                        have hc8 : ((UInt8.ofNat j).toNat : Nat) = j := by
                          rw [UInt8.toNat_ofNat']; omega
                        have HN : Hid ((j : Int) = (UInt8.ofNat j).toNat) := by show _ = _; omega
                        generalize UInt8.ofNat j = c8 at *
                        go_upto_region 15 with fail
                        go_wp2_with (at_builtin; refine append_bs rfl _ _ rfl wq.heap.size _ [] rfl (World.ownsRow_nil _ _ _ _) pb _ cb b rfl rfl hbq hbc (by simp; omega) (Nat.le_refl _) ?_)
                        intro va wa hoa hba
                        replace hoa := own_tail hoa
                        obtain ⟨Aa, ca, rfl⟩ := own_slice hoa
                        have ba : wa.heap[Wb]? = _ := (hba.block Wb hwlt).trans hbox
                        have f3 : wa.frozen? ⟨Wb, 3, none⟩ = false := by simp [World.frozen?, ba]
                        have z3 : wa.cell? ⟨Wb, 3, none⟩ = some (.slice none 0 0) := by simp [World.cell?, ba]
                        have hsa := hba.size
                        have ho2 := own_box hoa hwlt 3 (.slice Aa b.length ca)
                        have b2 : (wa.setCell ⟨Wb, 3, none⟩ (.slice Aa b.length ca)).heap[Wb]? = some (.cells #[.int .i64 1, .string (fileP v1), .string (fileP v2), .slice Aa b.length ca, .int .i64 v3] 35) := by simp [World.setCell, Array.getElem?_modify, ba]
                        have hb2 : Below Wb wp (wa.setCell ⟨Wb, 3, none⟩ (.slice Aa b.length ca)) := (hbel.trans (hba.mono (by omega))).setCell (Nat.le_refl _) _
                        have hs2 : wq.heap.size ≤ (wa.setCell ⟨Wb, 3, none⟩ (.slice Aa b.length ca)).heap.size := by simpa using hsa
                        clear y0 y1 y2 y3 y4
                        go_upto_region 16 with fail
                        clear f3 z3
                        generalize wa.setCell ⟨Wb, 3, none⟩ (.slice Aa b.length ca) = w2 at *
                        have z3 : w2.cell? ⟨Wb, 3, none⟩ = some (.slice Aa b.length ca) := by simp [World.cell?, b2]
                        have hbl2 : (b ++ [c8]).length ≤ 140737488355328 := by simp; omega
                        have hWq : Wb ≤ wq.heap.size := by omega
                        go_wp2_with (at_builtin; refine append_bs rfl _ _ rfl wq.heap.size _ b rfl (ho2.alloc _) _ 1 1 [c8] rfl rfl (bs_one _ _ _ _ (by first | exact HN.out | (simp [IntKind.wrap, IntKind.bits, IntKind.signed]; have := HN.out; omega))) (by intro h; cases h) (by simp; omega) (by simp; omega) ?_)
                        intro vd wd hod hbd
                        generalize b ++ [c8] = bc at *
                        obtain ⟨Ad, cd, rfl⟩ := own_slice hod
                        have bd : wd.heap[Wb]? = _ := (hbd.block Wb hwlt).trans ((Below.heap_alloc _ _ _ (by omega)).trans b2)
                        have f3 : wd.frozen? ⟨Wb, 3, none⟩ = false := by simp [World.frozen?, bd]
                        have z3' : wd.cell? ⟨Wb, 3, none⟩ = some (.slice Aa b.length ca) := by simp [World.cell?, bd]
                        have hb3 : Below Wb wp (wd.setCell ⟨Wb, 3, none⟩ (.slice Ad bc.length cd)) := (hb2.trans (((Below.refl Wb w2).alloc (by omega) _).trans (hbd.mono hWq))).setCell (Nat.le_refl _) _
                        have bo3 : (wd.setCell ⟨Wb, 3, none⟩ (.slice Ad bc.length cd)).heap[Wb]? = some (.cells #[.int .i64 1, .string (fileP v1), .string (fileP v2), .slice Ad bc.length cd, .int .i64 v3] 35) := by simp [World.setCell, Array.getElem?_modify, bd]
                        have ho3 := own_box hod hwlt 3 (.slice Ad bc.length cd)
                        clear hod hbd hb2 b2 ho2 z3 hs2 hoa hba ba hsa
                        go_upto_region 17 with fail
                        clear f3 z3' bd
                        generalize wd.setCell ⟨Wb, 3, none⟩ (.slice Ad bc.length cd) = w3 at *
                        have ob := own_bs ho3 rfl
                        have hBo3 := hBn.below (show Below wp.heap.size wp w3 by rw [hWb]; exact hb3)
                        have hlt3 : Wb < w3.heap.size := (Array.getElem?_eq_some_iff.1 bo3).1
                        have hBw3 : Below w.heap.size w w3 := hBv.trans (hb3.mono (by have := hBv.size; omega))
                        have HM := mid_write2 hBo3 hj1 (wkOf 1 v1 v2 v3 bc) rfl (by have := file_size v1; show (fileP v1).size ≤ 100; omega) Ad cd ob.1 (fun a ha => (hBn.dk.oth (by have := ob.2.2.2 a ha; omega)).1) (fun a ha => by have := ob.2.2.2 a ha; have := hBn.ka.lt; omega) hbl2
                        have y1 : w3.cell? ⟨Wb, 1, none⟩ = some (.string (fileP v1)) := by simp [World.cell?, bo3]
                        have y3 : w3.cell? ⟨Wb, 3, none⟩ = some (.slice Ad bc.length cd) := by simp [World.cell?, bo3]
                        go_wp2_with (go_at_call 7; refine HM.mono ?_; rintro e wc ⟨rfl, hm, hqq⟩)
                        obtain ⟨uvn, dn, nn, gg1, gg2, gg3, gg4, gg5⟩ := hm
                        have hxb : wc.heap[Wb]? = _ := (gg5.block Wb hlt3 hOw).trans bo3
                        go_meet
                        case rel => exact ⟨Ad, cd, bc, hxb, rfl, ⟨w3, uvn, dn, nn, gg1, gg2, gg3, gg4, gg5⟩, hBw3.trans (gg5.low hBo3.dk), hqq⟩
                    · as_aux_lemma =>
                        have HM := mid_rename hBm hj1 (wkOf 2 v1 v2 v3 []) rfl (by have := file_size v1; show (fileP v1).size ≤ 100; omega) (by have := file_size v2; show (fileP v2).size ≤ 100; omega)
                        go_wp2_with (go_at_call 8; refine HM.mono ?_; rintro e wc ⟨rfl, hm⟩)
                        obtain ⟨uvn, dn, nn, gg1, gg2, gg3, gg4, gg5⟩ := hm
                        have hxb : wc.heap[Wb]? = _ := (gg5.block Wb (by omega) hOw).trans hbox
                        go_meet
                        case rel => exact ⟨none, 0, [], hxb, rfl, ⟨wq, uvn, dn, nn, gg1, gg2, gg3, gg4, gg5⟩, hBw.trans (gg5.low hBm.dk), fun uv' _ => BsO.nil _ _ _⟩
                    · as_aux_lemma =>
                        have HM := mid_remove hBm hj1 (wkOf 3 v1 v2 v3 []) rfl (by have := file_size v1; show (fileP v1).size ≤ 100; omega)
                        go_wp2_with (go_at_call 9; refine HM.mono ?_; rintro e wc ⟨rfl, hm⟩)
                        obtain ⟨uvn, dn, nn, gg1, gg2, gg3, gg4, gg5⟩ := hm
                        have hxb : wc.heap[Wb]? = _ := (gg5.block Wb (by omega) hOw).trans hbox
                        go_meet
                        case rel => exact ⟨none, 0, [], hxb, rfl, ⟨wq, uvn, dn, nn, gg1, gg2, gg3, gg4, gg5⟩, hBw.trans (gg5.low hBm.dk), fun uv' _ => BsO.nil _ _ _⟩
                    · as_aux_lemma =>
                        have HM := mid_sync hBm hj1 (wkOf 4 v1 v2 v3 []) rfl
                        go_wp2_with (go_at_call 10; refine HM.mono ?_; rintro e wc ⟨rfl, hm⟩)
                        obtain ⟨uvn, dn, nn, gg1, gg2, gg3, gg4, gg5⟩ := hm
                        have hxb : wc.heap[Wb]? = _ := (gg5.block Wb (by omega) hOw).trans hbox
                        go_meet
                        case rel => exact ⟨none, 0, [], hxb, rfl, ⟨wq, uvn, dn, nn, gg1, gg2, gg3, gg4, gg5⟩, hBw.trans (gg5.low hBm.dk), fun uv' _ => BsO.nil _ _ _⟩
                    · as_aux_lemma =>
                        have HM := mid_crash hBm hj1 (wkOf 5 v1 v2 v3 []) rfl
                        go_wp2_with (go_at_call 11; refine HM.mono ?_; rintro e wc ⟨⟨_, rfl⟩, hc0, hm⟩)
                        obtain ⟨uvn, dn, nn, gg1, gg2, gg3, gg4, gg5⟩ := hm
                        have hxb : wc.heap[Wb]? = _ := (gg5.block Wb (by omega) hOw).trans hbox
                        go_meet
                        case rel => exact ⟨none, 0, [], hxb, by rw [← hc0]; rfl, ⟨wq, uvn, dn, nn, gg1, gg2, gg3, gg4, gg5⟩, hBw.trans (gg5.low hBm.dk), fun uv' _ => BsO.nil _ _ _⟩
                    · as_aux_lemma =>
                        have HM := mid_fail hBm hj1 (wkOf 6 v1 v2 v3 []) rfl
                        go_wp2_with (go_at_call 12; refine HM.mono ?_; rintro e wc ⟨⟨_, rfl⟩, hc0, hm⟩)
                        obtain ⟨uvn, dn, nn, gg1, gg2, gg3, gg4, gg5⟩ := hm
                        have hxb : wc.heap[Wb]? = _ := (gg5.block Wb (by omega) hOw).trans hbox
                        go_meet
                        case rel => exact ⟨none, 0, [], hxb, by rw [← hc0]; rfl, ⟨wq, uvn, dn, nn, gg1, gg2, gg3, gg4, gg5⟩, hBw.trans (gg5.low hBm.dk), fun uv' _ => BsO.nil _ _ _⟩
                  case rest =>
                    as_aux_lemma =>
                      obtain ⟨bq, bqc, bs, x1, rfl, ⟨wz, x3⟩, x4, x5⟩ := hcut
                      have hj1 : j ≤ 100 := by omega
                      have HD := do_mid (qc := bqc) hBm.bd hBm.all hj1 x3 (show 1 ≤ (wkOf v0 v1 v2 v3 bs).kind ∧ (wkOf v0 v1 v2 v3 bs).kind ≤ 6 from hkd) (by have := file_size v1; show (fileP v1).size ≤ 100; omega) (by have := file_size v2; show (fileP v2).size ≤ 100; omega) x5
                      have y0 : wc.cell? ⟨Wb, 0, none⟩ = some (.int .i64 v0) := by simp [World.cell?, x1]
                      have y1 : wc.cell? ⟨Wb, 1, none⟩ = some (.string (fileP v1)) := by simp [World.cell?, x1]
                      have y2 : wc.cell? ⟨Wb, 2, none⟩ = some (.string (fileP v2)) := by simp [World.cell?, x1]
                      have y3 : wc.cell? ⟨Wb, 3, none⟩ = some (.slice bq bs.length bqc) := by simp [World.cell?, x1]
                      have y4 : wc.cell? ⟨Wb, 4, none⟩ = some (.int .i64 v3) := by simp [World.cell?, x1]
                      have hgb := block_lt_of_cell hg
                      have hk1 : w.heap.size ≤ w1.heap.size := b1.size
                      have hk2 : w1.heap.size < wc.heap.size := by obtain ⟨_, _, _, _, g, _⟩ := x3; exact g.lt
                      apply_assumption
                      generalize doP k (wkOf v0 v1 v2 v3 bs) = r at *
                      clear x3 x5 hBm hBn hbel hbox hWb hOw
                      go_wp2_with fail
                      refine HD.mono ?_
                      rintro e w2 ⟨rfl, ⟨uv2, d2, n2, hB2⟩, hf2⟩
                      have hb2 : Below w.heap.size w w2 := x4.trans (hf2.toBelow x4.size (by simp; omega))
                      have hg2 := (hb2.cell (p := ⟨0, 0, none⟩) hgb).trans hg
                      clear HD y0 y1 y2 y3 y4 x1 hf2 x4
                      go_wp2_with fail
                      refine (told_any r.1 w2 hg2).mono ?_
                      rintro e w3 ⟨rfl, hb3⟩
                      have hBo3 := hB2.below hb3
                      have hb3' : Below w.heap.size w w3 := hb2.trans (hb3.mono hb2.size)
                      clear hB2 hb2 hg2 hb3
                      go_wp2_with fail
                      refine (names_any hBo3.dk (by have := hBo3.nb; omega)).mono ?_
                      rintro e w4 ⟨A, cap, l, rfl, hA, hN, hln, hAn, hb4⟩
                      have hBo4 := hBo3.below hb4
                      have hb4' : Below w.heap.size w w4 := hb3'.trans (hb4.mono hb3'.size)
                      have hl := both_names hBo3 hN
                      obtain ⟨pN, cN, c0, c3, cT⟩ := both_now hBo4
                      have hst := steps_any hBo4.dk
                      rw [hBo4.tie.st] at hst
                      have hll : l.length = r.2.N.length := by rw [hl]; simp
                      have cT' : Hid (∀ t (ht : t < l.length), ∃ b o, pN = some ⟨b, o, none⟩ ∧ w4.cell? ⟨b, o + t * 2, none⟩ = some (.string l[t])) := fun t ht => by
                        obtain ⟨b', o', e1, e2⟩ := cT t (by rw [← hll]; exact ht)
                        have e3 : l[t] = r.2.N[t].1 := by simp only [hl, List.getElem_map]
                        exact ⟨b', o', e1, by rw [e2, e3]⟩
                      rw [← hll] at c0
                      have hlle : l.length ≤ 1000000 := by have := hBo3.nb; omega
                      clear cT hll hl hN hBo3 hb3' hb4 hAn hln
                      go_wp2_with fail
                      refine hst.mono ?_
                      rintro e w5 ⟨rfl, rfl⟩
                      generalize r.2.st = rst at *
                      go_wp2
                      go_loopw [15] (fun i wr => ∃ (t dn : Nat), t ≤ l.length ∧ i = .int .i64 t ∧ wr = w4.drewN dn) (fun i _ => l.length - (intOf i).toNat)
                      case atStart => exact ⟨0, 0, Nat.zero_le _, rfl, rfl⟩
                      case round =>
                        obtain ⟨t2, dn, ht2, rfl, rfl⟩ := hrel
                        by_cases hlt : t2 < l.length
                        · have hi : (t2 : Int) < l.length := by omega
                          obtain ⟨nb, no, rfl, e2⟩ := cT'.out t2 hlt
                          rcases hA with hA | ⟨ab, ao, rfl, hA⟩
                          · subst hA; simp at hlt
                          have e2' : (w4.drewN dn).cell? ⟨nb, no + t2 * 2, none⟩ = some (.string l[t2]) := e2
                          have e3' : (w4.drewN dn).cell? ⟨ab, ao + t2, none⟩ = some (.string l[t2]) := hA t2 hlt
                          have c0' : (w4.drewN dn).cell? ⟨w1.heap.size, 0, none⟩ = some (.slice (some ⟨nb, no, none⟩) l.length cN) := c0
                          have e3 := hA t2 hlt
                          clear hA cT'
                          generalize l[t2] = nm at *
                          go_wp2
                          go_quiet (fail)
                          go_wp2
                          first
                          | (go_roundw; (case rel => exact ⟨t2 + 1, dn + nq, by omega, by go_num, rfl⟩); (case measure => simp [intOf]; omega))
                          | exact ⟨⟨t2 + 1, dn + nq, by omega, by go_num, rfl⟩, by simp [intOf]; omega⟩
                        · have hi : ¬ (t2 : Int) < l.length := by omega
                          have hBo5 := hBo4.below (w' := w4.drewN dn) ⟨rfl, rfl, rfl, Nat.le_refl _, fun _ _ => rfl⟩
                          have hb5 : Below w.heap.size w (w4.drewN dn) := hb4'.trans ⟨rfl, rfl, rfl, Nat.le_refl _, fun _ _ => rfl⟩
                          clear hBo4 hb4' cT' hA c0 c3 hst
                          generalize w4.drewN dn = w6 at *
                          go_wp2
                          go_loopw [16] (fun i wr => ∃ t3 : Nat, t3 ≤ 6 ∧ i = .int .i64 t3 ∧ Below w6.heap.size w6 wr) (fun i _ => 6 - (intOf i).toNat)
                          case atStart => exact ⟨0, by omega, rfl, Below.refl _ _⟩
                          case round =>
                            obtain ⟨t3, ht3, rfl, hb6⟩ := hrel
                            have hBo6 := hBo5.below hb6
                            have hb6' : Below w.heap.size w wr := hb5.trans (hb6.mono hb5.size)
                            by_cases hlt3 : t3 < 6
                            · have hi3 : (t3 : Int) < 6 := by omega
                              have hfs : (fileP t3).size ≤ maxLen := by have := file_size t3; unfold maxLen; omega
                              have HF := file_any (t3 : Int)
                              have HR := read_tie hBo6 (fileP t3) hfs
                              go_wp2_with (go_at_call 6; refine (HF _).mono ?_; rintro e w' ⟨rfl, rfl⟩)
                              refine HR.mono ?_
                              rintro e w7 ⟨A7, c7, rfl, hA7, hb7⟩
                              have hBo7 := hBo6.below hb7
                              have HK := kread_any hBo7.ka (fileP t3) hfs (by have := hBo7.bd.N hBo7.all; omega)
                              have hb7' : Below w.heap.size w w7 := hb6'.trans (hb7.mono hb6'.size)
                              have hg7 := (hb7'.cell (p := ⟨0, 0, none⟩) hgb).trans hg
                              clear HR
                              generalize krd r.2 (fileP t3) = cc at *
                              generalize kbs r.2 (fileP t3) = bb at *
                              go_wp2_with (go_at_call 6; refine (HF _).mono ?_; rintro e w' ⟨rfl, rfl⟩)
                              refine HK.mono ?_
                              rintro e w8 ⟨⟨A8, c8, rfl, hA8⟩, rfl⟩
                              go_wp2_with fail
                              refine (told_any cc _ hg7).mono ?_
                              rintro e w9 ⟨rfl, hb9⟩
                              have cv1 : (convert 23 9 (.slice A7 bb.length c7)).run Tryd.prog w9 = .ok (.string ⟨bb.toArray⟩) w9 := BsAt.convert (hA7.keep hb9) _ _ rfl
                              have cv2 : (convert 23 9 (.slice A8 bb.length c8)).run Tryd.prog w9 = .ok (.string ⟨bb.toArray⟩) w9 := BsAt.convert (hA8.keep hb9) _ _ rfl
                              have hb69 : Below w6.heap.size w6 w9 := hb6.trans ((hb7.mono hb6.size).trans (hb9.mono (Nat.le_trans hb6.size hb7.size)))
                              go_wp2
                              first
                              | (go_roundw; (case rel => exact ⟨t3 + 1, by omega, by go_num, hb69⟩); (case measure => simp [intOf]; omega))
                              | exact ⟨⟨t3 + 1, by omega, by go_num, hb69⟩, by simp [intOf]; omega⟩
                            · have hi3 : ¬ (t3 : Int) < 6 := by omega
                              go_wp2
                              first
                              | (go_roundw; (case rel => exact ⟨j + 1, uv2, d2, r.2, n2, by omega, by omega, by go_num, hBo6, hb6'⟩); (case measure => simp [intOf]; omega))
                              | (go_roundw; (case rel => (repeat apply Exists.intro); exact ⟨⟨j + 1, uv2, d2, r.2, n2, by omega, by omega, by go_num, hBo6, hb6'⟩, rfl⟩); (case measure => simp [intOf]; omega))
                              | exact ⟨⟨j + 1, uv2, d2, r.2, n2, by omega, by omega, by go_num, hBo6, hb6'⟩, by simp [intOf]; omega⟩
                · as_aux_lemma =>
                    have k1 : ¬ v0 = 1 := by omega
                    have k2 : ¬ v0 = 2 := by omega
                    have k3 : ¬ v0 = 3 := by omega
                    have k4 : ¬ v0 = 4 := by omega
                    have k5 : ¬ v0 = 5 := by omega
                    have k6 : ¬ v0 = 6 := by omega
                    go_wp2_with fail
                    go_roundw
                    case rel => exact ⟨j + 1, uv, d, k, n, by omega, by omega, by go_num, ⟨hBm.dk, hBm.ka, hBm.tie, hBm.bd.up (Nat.le_succ j), hBm.all, by have := hBm.nb; omega⟩, hBw⟩
                    case measure => simp [intOf]; omega
    · by_cases l1 : j < S.length
      · have i1 : (j : Int) < S.length := by omega
        have i2 : ¬ (j : Int) < 80 := by omega
        go_wp2
        go_ret
        exact ⟨rfl, hB⟩
      · have i1 : ¬ (j : Int) < S.length := by omega
        go_wp2
        go_ret
        exact ⟨rfl, hB⟩
end Go.Proofs.YthlaccicdbbeeaaDoor
