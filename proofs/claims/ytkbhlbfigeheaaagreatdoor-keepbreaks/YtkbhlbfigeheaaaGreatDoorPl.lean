/- KeepBreaks: the walk. -/
import Derived.Test.YtkbhlbfigeheaaaGreatDoorPo
import Derived.Test.YtkbhlbfigeheaaaGreatDoorPj
import Derived.Test.YtkbhlbfigeheaaaGreatDoorPureKu
import Derived.Deep.RegionWith
import Derived.Deep.DeepCutAuto
import Derived.Deep.CutBlock
import Derived.Deep.RegionHeld3
import Derived.Lib.SlBytesConst
namespace Go.Proofs.YtkbhlbfigeheaaaGreatDoor
open Go.RowKit
set_option linter.unusedVariables false
theorem cell_new_marked (w : World) (v : Value) (t : TypeId) (f : Nat × Nat) : (w.alloc (.cells #[v] t f)).cell? ⟨w.heap.size, 0, none⟩ = some v := by
  unfold World.cell?
  rw [show (w.alloc (.cells #[v] t f)).heap[w.heap.size]? = _ from new_alloc _ rfl]
  rfl
theorem KT.up {lo lo' : Nat} {w : World} (h : KT lo w) (hl : lo ≤ lo') : KT lo' w := fun w' hb => h w' (hb.mono hl)
set_option maxRecDepth 100000 in
set_option maxHeartbeats 16000000 in
theorem breaks_walk (W : World) (hT : KT W.heap.size W) (a0 : Option Addr) (c0 : Nat) (S : List (List Int)) (hS : IiAt W a0 S) (hSl : S.length ≤ 9223372036854775807) (hSr : ∀ l ∈ S, l.length ≤ 9223372036854775807) (hSi : ∀ l ∈ S, ∀ x ∈ l, I64 x) :
    Calls Tryz.prog 4 #[.slice a0 S.length c0] W fun e w' => e = .returned (.bool true) ∧ Below W.heap.size W w' := by
  have HN := new_any W
  have HN2 := new_any
  have hid3 : IdOk 3 := ⟨by decide, by decide⟩
  obtain ⟨d1, s1, k1, u1, b1, n1⟩ := save_free KpD.new (by decide) hid3 rfl (x := [120]) (by decide)
  have i1 : IdsIs (updK (fun _ => none) 3 (some [120])) ([] ++ [3]) := ids_put (a := []) (b := []) ids_nil (by simp) (by simp) [120]
  have v1 : updK (fun _ => none) 3 (some [120]) 3 = some [120] := updK_same _ _ _
  generalize updK (fun _ => none) 3 (some [120]) = P1 at *
  go_enter Tryz.func4, Tryz.ntmps4
  go_wp2_with (go_at_call 6; refine Hid.out ?_)
  refine Lib.hid ?_
  refine HN.mono ?_
  rintro e w1 ⟨rfl, hd1, hb1⟩
  have hk1 : KpS W.heap.size w1 (W.heap.size + 1) W.heap.size (.slice none 0 0) newD 0 (fun _ => none) := ⟨hd1, KpD.new, hT.on hb1⟩
  have HN3 := HN2 w1
  clear HN HN2 hd1
  go_wp2_with (go_at_call 6; refine Hid.out ?_)
  refine Lib.hid ?_
  refine HN3.mono ?_
  rintro e w2 ⟨rfl, hd2, hb2⟩
  have hk2 : KpS w1.heap.size w2 (w1.heap.size + 1) w1.heap.size (.slice none 0 0) newD 0 (fun _ => none) := ⟨hd2, KpD.new, ((hT.on hb1).up hb1.size).on hb2⟩
  clear HN3 hd2
  have hal : Below w2.heap.size w2 (w2.alloc (.cells #[.int .u8 120] 5 (1, 2))) := (Below.refl _ _).alloc (Nat.le_refl _) _
  have hk3 := hk2.keep hal
  have HS := save_any hk3.dk KpIs.none hk3.tab (by decide) (by decide) (by decide) (by decide) 3 (some ⟨w2.heap.size, 0, none⟩) 1 [120] (show BsAt (w2.alloc (.cells #[.int .u8 120] 5 (1, 2))) (some ⟨w2.heap.size, 0, none⟩) [120] from .inr ⟨_, _, rfl, fun i hi => by simp at hi; subst hi; exact cell_new_marked _ _ _ _⟩) (by decide) (by intro h; cases h)
  rw [s1] at HS
  have hcv := Lib.run_convert_bytes_const (P := Tryz.prog) w2 23 5 #[.int .u8 120] 1 1 Tryz.underlying23 Tryz.underlying5
  simp only [List.size_toArray, List.length_cons, List.length_nil, Nat.zero_add, Nat.reduceAdd] at hcv
  go_wp2_with (go_at_call 8; refine Hid.out ?_)
  refine Lib.hid ?_
  clear hcv
  refine HS.mono ?_
  intro e w3 hst
  obtain ⟨rfl, uv3, hk4, -, -, hb3⟩ := hk3.step hst k1
  simp only [erV_0]
  have hb13 : Below w1.heap.size w1 w3 := (hb2.trans (hal.mono hb2.size)).trans hb3
  have HL := lat_some hk4 (by omega) i1 v1
  clear HS hst hk3 hk2
  go_wp2_with (go_at_call 9; refine Hid.out ?_)
  refine Lib.hid ?_
  refine HL.mono ?_
  rintro e w4 ⟨A4, c4, rfl, hA4, hb4⟩
  have e1 := hA4.convert 1 c4 rfl
  have hb14 : Below w1.heap.size w1 w4 := hb13.trans (hb4.mono hb13.size)
  have hk5 := hk1.keep hb14
  have hb04 : Below W.heap.size W w4 := hb1.trans (hb14.mono hb1.size)
  clear HL hA4 hk4 hk1 k1 i1 v1 s1 u1 b1 n1 hb13 hb14 hb2 hal
  simp only [List.length_cons, List.length_nil, Nat.zero_add]
  go_wp2_with fail
  go_loopw [9, 10, 11] (fun s g i wr => ∃ (k : Nat) (safe : Int) (gv : Nat) (uv : Value) (d : Ds) (n : Nat) (P : Pc) (l : List Int), k ≤ 40 ∧ k ≤ S.length ∧ s = .int .i64 safe ∧ g = .int .i64 gv ∧ i = .int .i64 k ∧ gv ≤ k ∧ KpS W.heap.size wr (W.heap.size + 1) W.heap.size uv d n P ∧ d.U = [] ∧ d.bd < 0 ∧ Sm (100 * k) d ∧ n ≤ 10000 * k ∧ Jk P l safe gv ∧ Below W.heap.size W wr) (fun _ _ i _ => 40 - (intOf i).toNat)
  case atStart => exact ⟨0, 0, 0, _, _, 0, _, [], by omega, by omega, rfl, rfl, rfl, by omega, hk5, rfl, by decide, Sm.new, by omega, Jk.start, hb04⟩
  case round =>
    obtain ⟨k, safe, gv, uv, d, n, P, l, hk40, hkS, rfl, rfl, rfl, hgk, hks, hU, hbd, hsm, hn, hJ, hbr⟩ := hrel
    clear hk5 hb04 d1 e1
    by_cases hlt : k < S.length ∧ k < 40
    · have h1 : (k : Int) < (S.length : Int) := by omega
      have h2 : (k : Int) < 40 := by omega
      obtain ⟨hltS, hlt40⟩ := hlt
      obtain ⟨wo, rfl⟩ : ∃ wo, wo = wr := ⟨_, rfl⟩
      obtain ⟨pb, po, rfl, hrow⟩ : ∃ b o, a0 = some ⟨b, o, none⟩ ∧ ∃ q c, W.cell? ⟨b, o + k, none⟩ = some (.slice q S[k].length c) ∧ IsAt W q S[k] := by
        rcases hS with hS | ⟨b, o, e, hS⟩
        · rw [hS] at hltS; simp at hltS
        · exact ⟨b, o, e, hS k hltS⟩
      obtain ⟨rq, rc, hcel, hrw⟩ := hrow
      have hrl := hSr _ (List.getElem_mem hltS)
      have hri := hSi _ (List.getElem_mem hltS)
      generalize S[k] = row at *
      generalize S.length = sl at *
      clear hS hSr hSi
      have HKs := Lib.hid hks
      have HJ := Lib.hid hJ
      have HSm := Lib.hid hsm
      have HX := Lib.hid (And.intro hU hbd)
      clear hks hJ hsm hU hbd
      have ck : wo.cell? ⟨pb, po + k, none⟩ = some (.slice rq row.length rc) := (hbr.cell (p := ⟨pb, po + k, none⟩) (block_lt_of_cell hcel)).trans hcel
      have hpl : pb < wo.heap.size := Nat.lt_of_lt_of_le (block_lt_of_cell hcel) hbr.size
      go_upto_block 2 with fail
      go_cut [12] (fun v12 wc => v12 = .pointer (some ⟨wo.heap.size, 0, none⟩) ∧ ∃ v0 v1 v2 v3 : Int, Hid (I64 v0 ∧ I64 v1 ∧ I64 v2 ∧ I64 v3) ∧ wc.heap[wo.heap.size]? = some (.cells #[.int .i64 v0, .int .i64 v1, .int .i64 v2, .int .i64 v3] 37 (0, 0)) ∧ Below wo.heap.size wo wc)
      case first =>
        have h0 : (wo.alloc (.cells #[.int .i64 0, .int .i64 0, .int .i64 0, .int .i64 0] 37)).heap[wo.heap.size]? = some (.cells #[.int .i64 0, .int .i64 0, .int .i64 0, .int .i64 0] 37 (0, 0)) := new_alloc _ rfl
        have hb0 : Below wo.heap.size wo (wo.alloc (.cells #[.int .i64 0, .int .i64 0, .int .i64 0, .int .i64 0] 37)) := (Below.refl _ _).alloc (Nat.le_refl _) _
        have hI0 : I64 0 := ⟨by decide, by decide⟩
        go_wp2_with fail
        go_loopw [13] (fun j wr => ∃ q : Nat, q ≤ 4 ∧ q ≤ row.length ∧ j = .int .i64 q ∧ ∃ v0 v1 v2 v3 : Int, Hid (I64 v0 ∧ I64 v1 ∧ I64 v2 ∧ I64 v3) ∧ wr.heap[wo.heap.size]? = some (.cells #[.int .i64 v0, .int .i64 v1, .int .i64 v2, .int .i64 v3] 37 (0, 0)) ∧ Below wo.heap.size wo wr) (fun j _ => 4 - (intOf j).toNat)
        case atStart => exact ⟨0, by omega, by omega, rfl, 0, 0, 0, 0, ⟨hI0, hI0, hI0, hI0⟩, h0, hb0⟩
        case round =>
          clear h0 hb0
          obtain ⟨q, hq4, hqr, rfl, v0, v1, v2, v3, hv, hblk, hbx⟩ := hrel
          have hvl : wo.heap.size < wr.heap.size := (Array.getElem?_eq_some_iff.1 hblk).1
          have ckx : wr.cell? ⟨pb, po + k, none⟩ = some (.slice rq row.length rc) := (hbx.cell (p := ⟨pb, po + k, none⟩) hpl).trans ck
          by_cases hql : q < row.length
          · have hql' : (q : Int) < (row.length : Int) := by omega
            obtain ⟨rb, ro, rfl, hrc⟩ := hrw.at hql
            have ckr : wr.cell? ⟨rb, ro + q, none⟩ = some (.int .i64 row[q]) := by
              have hbW : Below W.heap.size W wr := hbr.trans (hbx.mono hbr.size)
              exact (hbW.cell (p := ⟨rb, ro + q, none⟩) (block_lt_of_cell hrc)).trans hrc
            have hI := hri _ (List.getElem_mem hql)
            have q0 : wr.cell? ⟨wo.heap.size, 0, none⟩ = some (.int .i64 v0) := by simp [World.cell?, hblk]
            have q1 : wr.cell? ⟨wo.heap.size, 1, none⟩ = some (.int .i64 v1) := by simp [World.cell?, hblk]
            have q2 : wr.cell? ⟨wo.heap.size, 2, none⟩ = some (.int .i64 v2) := by simp [World.cell?, hblk]
            have q3 : wr.cell? ⟨wo.heap.size, 3, none⟩ = some (.int .i64 v3) := by simp [World.cell?, hblk]
            have z : ∀ o, wr.frozen? ⟨wo.heap.size, o, none⟩ = false := fun o => by simp [World.frozen?, hblk]
            have z0 := z 0; have z1 := z 1; have z2 := z 2; have z3 := z 3
            have HB := Lib.hid (And.intro hblk hbx)
            clear hblk hbx z
            generalize row[q] = x at *
            obtain rfl | rfl | rfl | rfl | rfl : q = 0 ∨ q = 1 ∨ q = 2 ∨ q = 3 ∨ q = 4 := by omega
            · have ckr0 : wr.cell? ⟨rb, ro, none⟩ = some (.int .i64 x) := ckr
              go_wp2_with fail
              go_roundw
              case rel => exact ⟨1, by omega, by omega, by go_num, x, v1, v2, v3, ⟨hI, hv.out.2⟩, by simp [World.setCell, HB.out.1, Array.getElem?_modify], HB.out.2.setCell (Nat.le_refl _) _⟩
              case measure => simp [intOf]
            · go_wp2_with fail
              go_roundw
              case rel => exact ⟨2, by omega, by omega, by go_num, v0, x, v2, v3, ⟨hv.out.1, hI, hv.out.2.2⟩, by simp [World.setCell, HB.out.1, Array.getElem?_modify], HB.out.2.setCell (Nat.le_refl _) _⟩
              case measure => simp [intOf]
            · go_wp2_with fail
              go_roundw
              case rel => exact ⟨3, by omega, by omega, by go_num, v0, v1, x, v3, ⟨hv.out.1, hv.out.2.1, hI, hv.out.2.2.2⟩, by simp [World.setCell, HB.out.1, Array.getElem?_modify], HB.out.2.setCell (Nat.le_refl _) _⟩
              case measure => simp [intOf]
            · go_wp2_with fail
              go_roundw
              case rel => exact ⟨4, by omega, by omega, by go_num, v0, v1, v2, x, ⟨hv.out.1, hv.out.2.1, hv.out.2.2.1, hI⟩, by simp [World.setCell, HB.out.1, Array.getElem?_modify], HB.out.2.setCell (Nat.le_refl _) _⟩
              case measure => simp [intOf]
            · go_wp2_with fail
              go_meet
              case rel => exact ⟨rfl, v0, v1, v2, v3, hv, HB.out.1, HB.out.2⟩
          · have hql' : ¬ (q : Int) < (row.length : Int) := by omega
            go_wp2_with fail
            go_meet
            case rel => exact ⟨rfl, v0, v1, v2, v3, hv, hblk, hbx⟩
      case rest =>
        obtain ⟨rfl, v0, v1, v2, v3, hv, hblk, hbx⟩ := hcut
        have hbW : Below W.heap.size W wc := hbr.trans (hbx.mono hbr.size)
        have hks := HKs.out.keep hbx
        have hcells : ∀ (u : World), u.heap[wo.heap.size]? = some (.cells #[.int .i64 v0, .int .i64 v1, .int .i64 v2, .int .i64 v3] 37 (0, 0)) → u.cell? ⟨wo.heap.size, 0, none⟩ = some (.int .i64 v0) ∧ u.cell? ⟨wo.heap.size, 1, none⟩ = some (.int .i64 v1) ∧ u.cell? ⟨wo.heap.size, 2, none⟩ = some (.int .i64 v2) ∧ u.cell? ⟨wo.heap.size, 3, none⟩ = some (.int .i64 v3) := fun u h => by simp [World.cell?, h]
        have HC := Lib.hid hcells
        clear hcells
        obtain ⟨q0, q1, q2, q3⟩ := HC.out wc hblk
        have hoth : Oth (W.heap.size + 1) W.heap.size uv wo.heap.size := HKs.out.dk.oth (Nat.le_refl _)
        have hlv : wo.heap.size < wc.heap.size := (Array.getElem?_eq_some_iff.1 hblk).1
        have hs0 : 0 ≤ d.s := HSm.out.1
        have hs1 : d.s ≤ 4000 := by have := HSm.out.2.1; omega
        go_upto_if 80 with fail
        go_cut [] (fun wd => ∃ b' : Int, Hid (KpS W.heap.size wd (W.heap.size + 1) W.heap.size uv { d with bd := b' } n P ∧ (v1 < 0 → b' < 0)) ∧ Below W.heap.size W wd ∧ wd.heap[wo.heap.size]? = some (.cells #[.int .i64 v0, .int .i64 v1, .int .i64 v2, .int .i64 v3] 37 (0, 0)) ∧ wo.heap.size < wd.heap.size)
        case first =>
          by_cases hv1 : 0 ≤ v1
          · have hr0 := Int.tmod_nonneg 8 hv1
            have hr1 := Int.tmod_lt_of_pos v1 (show (0 : Int) < 8 by decide)
            have HSt := Lib.hid (fun (u : World) (hb : Below wc.heap.size wc u) => steps_any (hks.keep hb).dk)
            have HF := Lib.hid (fun (u : World) (hb : Below wc.heap.size wc u) (at_ : Int) => fail_any (hks.keep hb).dk at_)
            have HW := Lib.hid (And.intro hblk (And.intro hks hbW))
            clear hks hbW hblk
            go_wp2_with fail
            go_region_with (first
              | (go_at_call 14; refine (HSt.out _ (by first | exact (Below.refl _ _).drew | exact Below.refl _ _)).mono ?_; rintro e u ⟨rfl, rfl⟩)
              | (go_at_call 13; refine (HF.out _ (by first | exact (Below.refl _ _).drew | exact Below.refl _ _) _).mono ?_; rintro e u ⟨⟨vv, rfl⟩, hdu, hfu⟩))
            all_goals
              have hks := HW.out.2.1
              have hlow : Below W.heap.size wc u := ⟨hfu.os, hfu.tape, hfu.output, hfu.size, fun k hk => hfu.block k (Nat.lt_of_lt_of_le hk hks.dk.lole) (hks.dk.othLo hk)⟩
              have hb2 : u.heap[wo.heap.size]? = some (.cells #[.int .i64 v0, .int .i64 v1, .int .i64 v2, .int .i64 v3] 37 (0, 0)) := (hfu.block _ hlv hoth).trans HW.out.1
              have hks2 : KpS W.heap.size u (W.heap.size + 1) W.heap.size uv { d with bd := _ } n P := ⟨hdu, ⟨hks.kp.kp, hks.kp.uk⟩, hks.tab.on hlow⟩
              have hbW2 : Below W.heap.size W u := HW.out.2.2.trans hlow
              have hlv2 : wo.heap.size < u.heap.size := (Array.getElem?_eq_some_iff.1 hb2).1
              clear hks hdu hfu hlow
              go_wp2_with fail
              go_meet
              case rel => exact ⟨_, ⟨hks2, fun h => by omega⟩, hbW2, hb2, hlv2⟩
          · have hv1' : v1 < 0 := by omega
            go_wp2_with fail
            go_meet
            case rel => exact ⟨d.bd, ⟨hks, fun _ => HX.out.2⟩, hbW, hblk, hlv⟩
        case rest =>
          clear q0 q1 q2 q3 hblk hks hbW hlv
          obtain ⟨b', HK2, hbW, hblk, hlv⟩ := hcut
          obtain ⟨wd, rfl⟩ : ∃ wd, wd = wc := ⟨_, rfl⟩
          obtain ⟨q0, q1, q2, q3⟩ := HC.out wd hblk
          have hgv : (gv : Int) + 1 ≤ 41 := by omega
          have hll : l.length ≤ 40 := by have := HJ.out.len HKs.out.kp.kp.ok gv rfl; omega
          go_upto_if 91 with fail
          go_cut [9, 10, 14] (fun v9 v10 v14 we => ∃ (safe' : Int) (gv' : Nat) (d2 : Ds) (uv2 : Value) (n2 : Nat), v9 = .int .i64 safe' ∧ v10 = .int .i64 gv' ∧ gv' ≤ k + 1 ∧ Hid (DkS W.heap.size we (W.heap.size + 1) W.heap.size uv2 d2 n2 ∧ KT W.heap.size we ∧ Evt d2 (b' < 0) safe' gv' ∧ Sm (100 * k + 50) d2 ∧ n2 ≤ n + 80) ∧ Below W.heap.size W we ∧ we.heap[wo.heap.size]? = some (.cells #[.int .i64 v0, .int .i64 v1, .int .i64 v2, .int .i64 v3] 37 (0, 0)))
          case first =>
            have hks := HK2.out.1
            have hU2 : ({ d with bd := b' } : Ds).U = [] := HX.out.1
            have hsm2 : Sm (100 * k) ({ d with bd := b' } : Ds) := HSm.out
            by_cases hv0 : v0 = 1
            · have hr0 : 0 ≤ (v2.tmod 3 + 3).tmod 3 := Int.tmod_nonneg 3 (by have := Int.lt_tmod_of_pos v2 (show (0 : Int) < 3 by decide); omega)
              have hr1 := Int.tmod_lt_of_pos (v2.tmod 3 + 3) (show (0 : Int) < 3 by decide)
              have hr2 := Int.lt_tmod_of_pos v2 (show (0 : Int) < 3 by decide)
              have hr3 := Int.tmod_lt_of_pos v2 (show (0 : Int) < 3 by decide)
              generalize hmm : (v2.tmod 3 + 3).tmod 3 = mm at *
              have HCl := clean_any hks.dk hks.kp.kp hks.tab hsm2 (by omega) (by omega) (1 + mm) (by omega) l HJ.out.ids
              have HEv := Lib.hid (evt_clean hks.kp hU2 HJ.out (show 1 ≤ 1 + mm by omega))
              have HS2 := Lib.hid (hsm2.clean l (1 + mm))
              clear HC
              go_wp2_with (go_at_call 12; refine Hid.out ?_)
              refine Lib.hid ?_
              refine HCl.mono ?_
              intro e we hst
              obtain ⟨he, uv2, hd2, hf2, -⟩ := hst
              subst he
              have hlow := hf2.low hks.dk
              go_wp2_with fail
              go_meet
              case rel => exact ⟨safe, gv, _, uv2, _, rfl, rfl, by omega, ⟨hd2, hks.tab.on hlow, HEv.out, HS2.out.up (by omega), by omega⟩, hbW.trans hlow, (hf2.block _ hlv hoth).trans hblk⟩
            · have hid : IdOk ((gv : Int) + 1) := ⟨by omega, by omega⟩
              have HTx := text_any wd (id := (gv : Int) + 1) (by omega) (by omega)
              have htl := txP_len (id := (gv : Int) + 1) (by omega) (by omega)
              have HEv := Lib.hid (evt_save hks.kp hU2 HJ.out (by omega) (by omega))
              have HS2 := Lib.hid (hsm2.save P ((gv : Int) + 1) (txP ((gv : Int) + 1)))
              have HSv := Lib.hid (fun (u : World) (hb : Below wd.heap.size wd u) (g c : Nat) (hA : BsAt u (some ⟨g, 0, none⟩) (txP ((gv : Int) + 1))) => save_any (hks.keep hb).dk hks.kp.kp (hks.keep hb).tab hsm2.1 (by show d.s < _; omega) (by rw [hU2]; decide) (by omega) ((gv : Int) + 1) (some ⟨g, 0, none⟩) c _ hA (by omega) (by intro h; cases h))
              have HG := Lib.hid (show Value.int .i64 ((gv : Int) + 1) = .int .i64 ((gv + 1 : Nat) : Int) by push_cast; rfl)
              have HG2 := Lib.hid (show ((gv : Int) + 1) = ((gv + 1 : Nat) : Int) by push_cast; rfl)
              clear HC
              generalize txP ((gv : Int) + 1) = tx at *
              go_wp2_with (go_at_call 15; refine Hid.out ?_)
              refine Lib.hid ?_
              refine HTx.mono ?_
              rintro e wt ⟨tg, tc, rfl, hA, hbt⟩
              have HSv1 := HSv.out wt hbt tg tc hA
              have hkt := hks.keep hbt
              clear HSv HTx hA
              go_wp2_with (go_at_call 8; refine Hid.out ?_)
              refine Lib.hid ?_
              refine HSv1.mono ?_
              intro e we hst
              obtain ⟨he, uv2, hd2, hf2, -⟩ := hst
              subst he
              have hlow := hf2.low hkt.dk
              have hb2 : we.heap[wo.heap.size]? = some (.cells #[.int .i64 v0, .int .i64 v1, .int .i64 v2, .int .i64 v3] 37 (0, 0)) := (hf2.block _ (Nat.lt_of_lt_of_le hlv hbt.size) hoth).trans ((hbt.block _ hlv).trans hblk)
              have hbW2 : Below W.heap.size W we := (hbW.trans (hbt.mono hks.dk.lole)).trans hlow
              have htab := hkt.tab.on hlow
              clear HSv1
              by_cases hr : (saveR { d with bd := b' } P ((gv : Int) + 1) tx).1 = 0
              · have hev := HEv.out
                rw [if_pos hr] at hev
                have HEv2 := Lib.hid hev
                rw [hr, erV_0]
                clear hev HEv hkt
                go_wp2_with fail
                go_meet
                case rel => exact ⟨(gv : Int) + 1, gv + 1, _, uv2, _, rfl, HG.out, by omega, ⟨hd2, htab, by rw [← HG2.out]; exact HEv2.out, HS2.out.up (by omega), by omega⟩, hbW2, hb2⟩
              · have hev := HEv.out
                rw [if_neg hr] at hev
                have HEv2 := Lib.hid hev
                rw [erV_ne hr]
                clear hev HEv hkt
                go_wp2_with fail
                go_meet
                case rel => exact ⟨safe, gv + 1, _, uv2, _, rfl, HG.out, by omega, ⟨hd2, htab, by rw [← HG2.out]; exact HEv2.out, HS2.out.up (by omega), by omega⟩, hbW2, hb2⟩
          case rest =>
            clear q0 q1 q2 q3 hblk hbW hlv
            obtain ⟨safe', gv', d2, uv2, n2, rfl, rfl, hgk2, HD2, hbW, hblk⟩ := hcut
            obtain ⟨we, rfl⟩ : ∃ we, we = wc := ⟨_, rfl⟩
            obtain ⟨q0, q1, q2, q3⟩ := HC.out we hblk
            clear q0 q2
            go_upto_if 112 with fail
            go_cut [] (fun wf => ∃ (uv3 : Value) (d3 : Ds) (n3 : Nat) (P' : Pc) (l' : List Int), Hid (KpS W.heap.size wf (W.heap.size + 1) W.heap.size uv3 d3 n3 P' ∧ d3.U = [] ∧ d3.bd < 0 ∧ Sm (100 * k + 60) d3 ∧ n3 ≤ n + 180 + 200 * k ∧ Jk P' l' safe' gv') ∧ Below W.heap.size W wf)
            case first =>
              obtain ⟨hd2, ht2, hev, hsm2, hn2⟩ := HD2.out
              have hUl := hsm2.2.2
              by_cases hv1 : 0 ≤ v1
              · have HCr := crash_any hd2 v3 (by omega) (by unfold maxLen; omega)
                obtain ⟨P', l', hk', hj'⟩ := hev.cr v3
                have HE := Lib.hid (And.intro hk' hj')
                clear HC hev hk' hj'
                go_wp2_with (go_at_call 16; refine Hid.out ?_)
                refine Lib.hid ?_
                refine HCr.mono ?_
                rintro e wf ⟨⟨vv, rfl⟩, hd3, hf3⟩
                have hlow := hf3.low hd2
                go_wp2_with fail
                go_meet
                case rel => exact ⟨_, _, _, P', l', ⟨⟨hd3, HE.out.1, ht2.on hlow⟩, rfl, (by show (-1 : Int) < 0; decide), Sm.cr _ _ _, by omega, HE.out.2⟩, hbW.trans hlow⟩
              · have hv1' : v1 < 0 := by omega
                obtain ⟨P', l', hk', hu', hb', hj'⟩ := hev.fr (HK2.out.2 hv1')
                go_wp2_with fail
                go_meet
                case rel => exact ⟨_, _, _, P', l', ⟨⟨hd2, hk', ht2⟩, hu', hb', hsm2.up (by omega), by omega, hj'⟩, hbW⟩
            case rest =>
              clear q1 q3 hblk hbW HC
              obtain ⟨uv3, d3, n3, P', l', HF, hbW⟩ := hcut
              obtain ⟨wf, rfl⟩ : ∃ wf, wf = wc := ⟨_, rfl⟩
              obtain ⟨hks3, hu3, hbd3, hsm3, hn3, hj3⟩ := HF.out
              have hs0' := hj3.s0
              have hsg' := hj3.sg
              have HKK := Lib.hid (fun (u : World) (hb : Below wf.heap.size wf u) => show ∃ (k1 : Nat) (safe1 : Int) (gv1 : Nat) (uv : Value) (d : Ds) (n : Nat) (P : Pc) (l : List Int), k1 ≤ 40 ∧ k1 ≤ sl ∧ Value.int .i64 safe' = .int .i64 safe1 ∧ Value.int .i64 (gv' : Int) = .int .i64 gv1 ∧ Value.int .i64 ((k + 1 : Nat) : Int) = .int .i64 k1 ∧ gv1 ≤ k1 ∧ KpS W.heap.size u (W.heap.size + 1) W.heap.size uv d n P ∧ d.U = [] ∧ d.bd < 0 ∧ Sm (100 * k1) d ∧ n ≤ 10000 * k1 ∧ Jk P l safe1 gv1 ∧ Below W.heap.size W u from
                ⟨k + 1, safe', gv', uv3, d3, n3, P', l', by omega, by omega, rfl, rfl, rfl, by omega, hks3.keep hb, hu3, hbd3, hsm3.up (by omega), by omega, hj3, hbW.trans (hb.mono hks3.dk.lole)⟩)
              rcases List.eq_nil_or_concat l' with hl0 | ⟨r, m, hl0⟩
              · have hl1 := hj3.ids
                rw [hl0] at hl1
                have HL := lat_none hks3 (by omega) hl1
                have hsz : safe' = 0 := by
                  rcases Int.lt_or_le 0 safe' with h | h
                  · obtain ⟨r, m, e, -⟩ := hj3.last h
                    rw [hl0] at e
                    simp at e
                  · omega
                have hsz' : ¬ (0 : Int) < safe' := by omega
                clear hj3 HF hl0 hl1 hsz
                go_wp2_with (go_at_call 9; refine Hid.out ?_)
                refine Lib.hid ?_
                refine HL.mono ?_
                rintro e wg ⟨rfl, hbg⟩
                clear HL
                go_wp2_with fail
                go_roundw
                case rel => exact HKK.out _ hbg
                case measure => simp [intOf]; omega
              · rw [List.concat_eq_append] at hl0
                have hl1 := hj3.ids
                rw [hl0] at hl1
                obtain ⟨x, hx⟩ := Option.isSome_iff_exists.1 (hl1.last rfl).1
                obtain ⟨hm1, rfl⟩ := hj3.tx m x hx
                have hmok : IdOk m := hks3.kp.kp.ok m (by rw [hx]; rfl)
                have hm2 : safe' ≤ m := by
                  rcases Int.lt_or_le 0 safe' with h | h
                  · obtain ⟨r2, m2, e, h2⟩ := hj3.last h
                    rw [hl0] at e
                    have e2 := List.append_inj' e rfl
                    simp at e2
                    rw [e2.2]; exact h2
                  · have := hmok.1; omega
                have HL := lat_some hks3 (by omega) hl1 hx
                have HTx := Lib.hid (fun (u : World) => text_any u (id := m) (by have := hmok.1; omega) (by have := hmok.2; omega))
                have HLi := Lib.hid (fun (u : World) (hb : Below wf.heap.size wf u) => list_is (hks3.keep hb) (by omega) hl1)
                have hd1 : decide (m < safe') = false := by simp; omega
                have hd2 : decide ((gv' : Int) < m) = false := by simp; omega
                have hd1' : ¬ m < safe' := by omega
                have hd2' : ¬ (gv' : Int) < m := by omega
                have hlen1 : (r ++ [m]).length = r.length + 1 := by simp
                have hlast : (r ++ [m])[r.length]'(by simp) = m := by simp
                have hrl : r.length ≤ 1000000 := by
                  have := hj3.len hks3.kp.kp.ok gv' rfl
                  rw [hl0, hlen1] at this; omega
                clear hj3 HF hl0 hl1 hx hm1 hm2
                go_wp2_with (go_at_call 9; refine Hid.out ?_)
                refine Lib.hid ?_
                refine HL.mono ?_
                rintro e wg ⟨Ag, cg, rfl, hAg, hbg⟩
                clear HL
                have HAg := Lib.hid hAg
                clear hAg
                go_upto_region 31 with fail
                go_cut [146] (fun v146 wh => v146 = .bool false ∧ Below wg.heap.size wg wh)
                case first =>
                  have HE1 := Lib.hid (fun (u : World) (hu : Below wg.heap.size wg u) => (HAg.out.keep hu).convert _ cg rfl)
                  have HE2 := Lib.hid (fun (u : World) (g c : Nat) (hA : BsAt u (some ⟨g, 0, none⟩) (txP m)) => hA.convert (txP m).length c rfl)
                  have HE3 := Lib.hid (fun (u : World) (g : Nat) (hA : BsAt u (some ⟨g, 0, none⟩) (txP m)) => show BsAt u.drew (some ⟨g, 0, none⟩) (txP m) from hA.keep ((Below.refl _ _).drew))
                  have c0 := HE1.out (wg) ((Below.refl _ _))
                  have c1 := HE1.out (wg.drew) ((Below.refl _ _).drew)
                  have c2 := HE1.out (wg.drew.drew) ((Below.refl _ _).drew.drew)
                  have c3 := HE1.out (wg.drew.drew.drew) ((Below.refl _ _).drew.drew.drew)
                  have c4 := HE1.out (wg.drew.drew.drew.drew) ((Below.refl _ _).drew.drew.drew.drew)
                  have e3 := str_eqT (txP m)
                  generalize (⟨(txP m).toArray⟩ : ByteArray) = sm at *
                  generalize htx : txP m = tx at *
                  clear HKK HLi hlast hmok hlen1 hrl htx
                  clear HAg HK2 HX HSm HJ HKs HD2 hri hrw hcel ck hks3 hbW hbg hv hbx hoth
                  refine wp_region_noPanic ?_
                  refine wp_region_held_drew (S := fun w' => (convert 23 9 (.slice Ag tx.length cg)).run Tryz.prog w' = .ok (.string sm) w') (by kernel_rfl) (HE1.out _ ((Below.refl _ _).drew)) (fun hHeld => ?_)
                  refine wpAnyH_take (i := 0) (oi := { dst := some 131, op := Op.move (Operand.tmp 15), type := 3, pos := "law.go:476", after := #[], guard := none }) (v := ?_) rfl (by kernel_rfl) (by kernel_rfl) (by kernel_rfl) (fun _ _ _ h => h) (Or.inl ⟨by rfl, ?_⟩) hHeld ?_
                  rotate_left
                  · intro w hSw
                    (try dsimp only at hSw)
                    go_simp
                    all_goals with_reducible rfl
                  try simp only [Act.put, List.setIfInBounds_toArray, List.set_cons_zero, List.set_cons_succ]
                  refine wpAnyH_take (i := 1) (oi := { dst := some 132, op := Op.move (Operand.tmp 9), type := 3, pos := "law.go:476", after := #[], guard := none }) (v := ?_) rfl (by kernel_rfl) (by kernel_rfl) (by kernel_rfl) (fun _ _ _ h => h) (Or.inl ⟨by rfl, ?_⟩) hHeld ?_
                  rotate_left
                  · intro w hSw
                    (try dsimp only at hSw)
                    go_simp
                    all_goals with_reducible rfl
                  try simp only [Act.put, List.setIfInBounds_toArray, List.set_cons_zero, List.set_cons_succ]
                  refine wpAnyH_take (i := 2) (oi := { dst := some 133, op := Op.binOp BinOp.lss 3 (Operand.tmp 131) (Operand.tmp 132) 3, type := 4, pos := "law.go:476", after := #[{ on := 0, ground := Ground.data }, { on := 1, ground := Ground.data }], guard := none }) (v := ?_) rfl (by kernel_rfl) (by kernel_rfl) (by kernel_rfl) (fun _ _ _ h => h) (Or.inl ⟨by rfl, ?_⟩) hHeld ?_
                  rotate_left
                  · intro w hSw
                    (try dsimp only at hSw)
                    go_simp
                    all_goals with_reducible rfl
                  try simp only [Act.put, List.setIfInBounds_toArray, List.set_cons_zero, List.set_cons_succ]
                  refine wpAnyH_take (i := 3) (oi := { dst := some 134, op := Op.move (Operand.tmp 133), type := 4, pos := "law.go:476", after := #[{ on := 2, ground := Ground.data }], guard := none }) (v := ?_) rfl (by kernel_rfl) (by kernel_rfl) (by kernel_rfl) (fun _ _ _ h => h) (Or.inl ⟨by rfl, ?_⟩) hHeld ?_
                  rotate_left
                  · intro w hSw
                    (try dsimp only at hSw)
                    go_simp
                    all_goals with_reducible rfl
                  try simp only [Act.put, List.setIfInBounds_toArray, List.set_cons_zero, List.set_cons_succ]
                  refine wpAnyH_take (i := 4) (oi := { dst := some 135, op := Op.move (Operand.tmp 15), type := 3, pos := "law.go:476", after := #[{ on := 3, ground := Ground.guard }], guard := some (3, false) }) (v := ?_) rfl (by kernel_rfl) (by kernel_rfl) (by kernel_rfl) (fun _ _ _ h => h) (Or.inl ⟨by rfl, ?_⟩) hHeld ?_
                  rotate_left
                  · intro w hSw
                    (try dsimp only at hSw)
                    go_simp
                    all_goals with_reducible rfl
                  try simp only [Act.put, List.setIfInBounds_toArray, List.set_cons_zero, List.set_cons_succ]
                  refine wpAnyH_take (i := 5) (oi := { dst := some 136, op := Op.move (Operand.tmp 10), type := 3, pos := "law.go:476", after := #[{ on := 3, ground := Ground.guard }], guard := some (3, false) }) (v := ?_) rfl (by kernel_rfl) (by kernel_rfl) (by kernel_rfl) (fun _ _ _ h => h) (Or.inl ⟨by rfl, ?_⟩) hHeld ?_
                  rotate_left
                  · intro w hSw
                    (try dsimp only at hSw)
                    go_simp
                    all_goals with_reducible rfl
                  try simp only [Act.put, List.setIfInBounds_toArray, List.set_cons_zero, List.set_cons_succ]
                  refine wpAnyH_take (i := 6) (oi := { dst := some 137, op := Op.binOp BinOp.gtr 3 (Operand.tmp 135) (Operand.tmp 136) 3, type := 4, pos := "law.go:476", after := #[{ on := 4, ground := Ground.data }, { on := 5, ground := Ground.data }, { on := 3, ground := Ground.guard }], guard := some (3, false) }) (v := ?_) rfl (by kernel_rfl) (by kernel_rfl) (by kernel_rfl) (fun _ _ _ h => h) (Or.inl ⟨by rfl, ?_⟩) hHeld ?_
                  rotate_left
                  · intro w hSw
                    (try dsimp only at hSw)
                    go_simp
                    all_goals with_reducible rfl
                  try simp only [Act.put, List.setIfInBounds_toArray, List.set_cons_zero, List.set_cons_succ]
                  refine wpAnyH_take (i := 7) (oi := { dst := some 138, op := Op.pick (Operand.tmp 134) (Operand.const (Value.bool true)) (Operand.tmp 137), type := 4, pos := "law.go:476", after := #[{ on := 3, ground := Ground.data }, { on := 6, ground := Ground.data }], guard := none }) (v := ?_) rfl (by kernel_rfl) (by kernel_rfl) (by kernel_rfl) (fun _ _ _ h => h) (Or.inl ⟨by rfl, ?_⟩) hHeld ?_
                  rotate_left
                  · intro w hSw
                    (try dsimp only at hSw)
                    go_simp
                    all_goals with_reducible rfl
                  try simp only [Act.put, List.setIfInBounds_toArray, List.set_cons_zero, List.set_cons_succ]
                  refine wpAnyH_take (i := 8) (oi := { dst := some 139, op := Op.move (Operand.tmp 138), type := 4, pos := "law.go:476", after := #[{ on := 7, ground := Ground.data }, { on := 3, ground := Ground.chain }], guard := none }) (v := ?_) rfl (by kernel_rfl) (by kernel_rfl) (by kernel_rfl) (fun _ _ _ h => h) (Or.inl ⟨by rfl, ?_⟩) hHeld ?_
                  rotate_left
                  · intro w hSw
                    (try dsimp only at hSw)
                    go_simp
                    all_goals with_reducible rfl
                  try simp only [Act.put, List.setIfInBounds_toArray, List.set_cons_zero, List.set_cons_succ]
                  refine wpAnyH_take (i := 9) (oi := { dst := some 140, op := Op.move (Operand.tmp 16), type := 23, pos := "law.go:476", after := #[{ on := 8, ground := Ground.guard }], guard := some (8, false) }) (v := ?_) rfl (by kernel_rfl) (by kernel_rfl) (by kernel_rfl) (fun _ _ _ h => h) (Or.inl ⟨by rfl, ?_⟩) hHeld ?_
                  rotate_left
                  · intro w hSw
                    (try dsimp only at hSw)
                    go_simp
                    all_goals with_reducible rfl
                  try simp only [Act.put, List.setIfInBounds_toArray, List.set_cons_zero, List.set_cons_succ]
                  refine wpAnyH_take (i := 10) (oi := { dst := some 141, op := Op.convert 23 9 (Operand.tmp 140), type := 9, pos := "law.go:476", after := #[{ on := 9, ground := Ground.data }, { on := 8, ground := Ground.guard }], guard := some (8, false) }) (v := ?_) rfl (by kernel_rfl) (by kernel_rfl) (by kernel_rfl) (fun _ _ _ h => h) (Or.inl ⟨by rfl, ?_⟩) hHeld ?_
                  rotate_left
                  · intro w hSw
                    (try dsimp only at hSw)
                    go_simp
                    all_goals with_reducible rfl
                  try simp only [Act.put, List.setIfInBounds_toArray, List.set_cons_zero, List.set_cons_succ]
                  refine wpAnyH_take (i := 11) (oi := { dst := some 142, op := Op.move (Operand.tmp 15), type := 3, pos := "law.go:476", after := #[{ on := 8, ground := Ground.guard }], guard := some (8, false) }) (v := ?_) rfl (by kernel_rfl) (by kernel_rfl) (by kernel_rfl) (fun _ _ _ h => h) (Or.inl ⟨by rfl, ?_⟩) hHeld ?_
                  rotate_left
                  · intro w hSw
                    (try dsimp only at hSw)
                    go_simp
                    all_goals with_reducible rfl
                  try simp only [Act.put, List.setIfInBounds_toArray, List.set_cons_zero, List.set_cons_succ]
                  refine wpAnyH_ready (rs := [12]) (by kernel_rfl) (by simp) ?_
                  refine AllReadyH.cons (o := { dst := some 143, op := Op.call { callee := Callee.value (Operand.func 15), args := #[Operand.tmp 142], argTypes := #[3] }, type := 23, pos := "law.go:476", after := #[{ on := 11, ground := Ground.data }, { on := 8, ground := Ground.chain }, { on := 8, ground := Ground.guard }], guard := some (8, false) }) rfl (fun K hK => ?_) AllReadyH.nil
                  go_simp
                  go_at_call 15
                  refine (HTx.out _).mono ?_
                  rintro e u ⟨tg, tc, rfl, hA, hbu⟩
                  have hbgu : Below wg.heap.size wg u := ⟨hbu.os, hbu.tape, hbu.output, hbu.size, hbu.block⟩
                  have f0 := HE1.out (u) (hbgu)
                  have f1 := HE1.out (u.drew) (hbgu.drew)
                  have f2 := HE1.out (u.drew.drew) (hbgu.drew.drew)
                  have f3 := HE1.out (u.drew.drew.drew) (hbgu.drew.drew.drew)
                  have f4 := HE1.out (u.drew.drew.drew.drew) (hbgu.drew.drew.drew.drew)
                  have hA1 := HE3.out (u) tg hA
                  have hA2 := HE3.out (u.drew) tg hA1
                  have hA3 := HE3.out (u.drew.drew) tg hA2
                  have hA4 := HE3.out (u.drew.drew.drew) tg hA3
                  have g0 := HE2.out (u) tg tc hA
                  have g1 := HE2.out (u.drew) tg tc hA1
                  have g2 := HE2.out (u.drew.drew) tg tc hA2
                  have g3 := HE2.out (u.drew.drew.drew) tg tc hA3
                  have g4 := HE2.out (u.drew.drew.drew.drew) tg tc hA4
                  go_wp2_with fail
                  refine hK.out _ _ (HE1.out _ (by first | exact hbgu | exact hbgu.drew)) (fun hHeld2 => ?_)
                  clear hK K
                  try simp only [Act.put, List.setIfInBounds_toArray, List.set_cons_zero, List.set_cons_succ]
                  refine wpAnyH_ready (rs := [13]) (by kernel_rfl) (by simp) ?_
                  refine AllReadyH.cons (o := { dst := some 144, op := Op.convert 23 9 (Operand.tmp 143), type := 9, pos := "law.go:476", after := #[{ on := 12, ground := Ground.data }, { on := 8, ground := Ground.guard }], guard := some (8, false) }) rfl (fun K hK => ?_) AllReadyH.nil
                  go_simp
                  refine hK.out _ _ (HE1.out _ (by first | exact hbgu | exact hbgu.drew)) (fun hHeld3 => ?_)
                  clear hK K
                  try simp only [Act.put, List.setIfInBounds_toArray, List.set_cons_zero, List.set_cons_succ]
                  refine wpAnyH_take (i := 14) (oi := { dst := some 145, op := Op.binOp BinOp.neq 9 (Operand.tmp 141) (Operand.tmp 144) 9, type := 4, pos := "law.go:476", after := #[{ on := 10, ground := Ground.data }, { on := 13, ground := Ground.data }, { on := 8, ground := Ground.guard }], guard := some (8, false) }) (v := ?_) rfl (by kernel_rfl) (by kernel_rfl) (by kernel_rfl) (fun _ _ _ h => h) (Or.inl ⟨by rfl, ?_⟩) hHeld3 ?_
                  rotate_left
                  · intro w hSw
                    (try dsimp only at hSw)
                    go_simp
                    all_goals with_reducible rfl
                  try simp only [Act.put, List.setIfInBounds_toArray, List.set_cons_zero, List.set_cons_succ]
                  refine wpAnyH_take (i := 15) (oi := { dst := some 146, op := Op.pick (Operand.tmp 139) (Operand.const (Value.bool true)) (Operand.tmp 145), type := 4, pos := "law.go:476", after := #[{ on := 8, ground := Ground.data }, { on := 14, ground := Ground.data }], guard := none }) (v := ?_) rfl (by kernel_rfl) (by kernel_rfl) (by kernel_rfl) (fun _ _ _ h => h) (Or.inl ⟨by rfl, ?_⟩) hHeld3 ?_
                  rotate_left
                  · intro w hSw
                    (try dsimp only at hSw)
                    go_simp
                    all_goals with_reducible rfl
                  try simp only [Act.put, List.setIfInBounds_toArray, List.set_cons_zero, List.set_cons_succ]
                  refine wpAnyH_done (by kernel_rfl) ?_ _
                  refine NoPanic.normal ?_
                  go_wp2_with fail
                  go_meet
                  case rel => exact ⟨rfl, hbgu.os, hbgu.tape, hbgu.output, hbgu.size, hbgu.block⟩
                case rest =>
                  obtain ⟨rfl, hbh⟩ := hcut
                  obtain ⟨wh, rfl⟩ : ∃ wh, wh = wc := ⟨_, rfl⟩
                  have hbfh : Below wf.heap.size wf wh := hbg.trans (hbh.mono hbg.size)
                  have HLi1 := HLi.out wh hbfh
                  clear HLi HTx
                  go_wp2_with (go_at_call 11; refine Hid.out ?_)
                  refine Lib.hid ?_
                  refine HLi1.mono ?_
                  rintro e wi ⟨Ai, ci, rfl, -, hgi, hci, hbi⟩
                  obtain ⟨gi, rfl, -, -, hcell⟩ := hgi (by simp)
                  have hqi : wi.cell? ⟨gi, r.length, none⟩ = some (.int .i64 m) := by
                    have := hcell r.length (by simp)
                    rw [hlast] at this
                    exact this
                  rw [hlen1]
                  have hbfi : Below wf.heap.size wf wi := hbfh.trans (hbi.mono hbfh.size)
                  clear hgi hcell HLi1 hlast
                  go_wp2_with fail
                  go_roundw
                  case rel => exact HKK.out _ hbfi
                  case measure => simp [intOf]; omega
    · by_cases h1 : k < S.length
      · have h1' : (k : Int) < (S.length : Int) := by omega
        have h2' : ¬ (k : Int) < 40 := by omega
        go_wp2_with fail
        go_ret
        exact ⟨rfl, hbr⟩
      · have h1' : ¬ (k : Int) < (S.length : Int) := by omega
        go_wp2_with fail
        go_ret
        exact ⟨rfl, hbr⟩
end Go.Proofs.YtkbhlbfigeheaaaGreatDoor
