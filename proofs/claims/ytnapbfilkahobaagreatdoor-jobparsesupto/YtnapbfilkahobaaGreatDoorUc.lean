/- The document's ParseJob: the walk. -/
import Derived.Test.YtnapbfilkahobaaGreatDoorHz
namespace Go.Proofs.YtnapbfilkahobaaGreatDoor
open Go.RowKit
set_option linter.unusedVariables false
set_option linter.unusedSimpArgs false

theorem bb_ne {a b : List UInt8} (h : a ≠ b) : ((bb a).toList == (bb b).toList) = false := by
  rw [toList_eq, toList_eq, beq_eq_false_iff_ne]; simpa [bb] using h
theorem bb_eq {a b : List UInt8} (h : a = b) : ((bb a).toList == (bb b).toList) = true := by rw [h]; simp
theorem cell_four_newS (w : World) (p : Addr) (v a b c d : Value) (t : TypeId) : ∀ j u, [a, b, c, d][j]? = some u → ((w.setCell p v).alloc (.cells #[a, b, c, d] t)).cell? ((⟨w.heap.size, 0, none⟩ : Addr).add j) = some u := by
  have h := cell_four_new (w.setCell p v) a b c d t
  have e : (w.setCell p v).heap.size = w.heap.size := by simp
  rw [e] at h; exact h
theorem bb_emp (a : List UInt8) : (bb a).toList.isEmpty = decide (a = []) := by
  rw [toList_eq]; cases a <;> simp [bb]

set_option maxRecDepth 100000 in
set_option maxHeartbeats 8000000 in
theorem pj_any (s : ByteArray) (w : World) (hs : s.size ≤ 100000000) : Calls Tryz.prog 23 #[.string s] w (PjEnd w (docLoop [] (cutC 10 s.data.toList))) := by
  obtain ⟨i0, hi, hz0, hz1, hz2⟩ := info_parts Tryz.infoInt
  obtain ⟨i1, hi1, hy0, hy1, hy2⟩ := info_parts Tryz.infoNode
  have hslen : s.data.toList.length = s.size := by simp
  have HCut := dcut_any s 10 w hs
  have hPl := cutC_len 10 s.data.toList
  have hPs := cutC_sub 10 s.data.toList
  obtain ⟨p0, pr, hPe⟩ := cutC_some 10 s.data.toList
  have hPp : 0 < (cutC 10 s.data.toList).length := by rw [hPe]; simp
  obtain ⟨R, hR⟩ : ∃ R, R = docLoop [] (cutC 10 s.data.toList) := ⟨_, rfl⟩
  rw [← hR]
  have HR := Lib.hid hR
  clear hR hPe
  generalize cutC 10 s.data.toList = P at *
  rw [hslen] at hPl hPs
  have HPs := Lib.hid hPs
  clear hslen hPs
  have HK := Lib.hid (fun (u : World) => kinds_any u)
  go_enter Tryz.func23, Tryz.ntmps23
  go_wp2_with (go_at_call 52; refine HCut.mono ?_; rintro e w1 ⟨gl, cpl, rfl, hcl, hgl, hln, b1⟩; refine Hid.out ?_)
  refine Lib.hid ?_
  clear HCut
  have HK1 := HK.out w1
  go_wp2_with (go_at_call 47; refine HK1.mono ?_; rintro e w2 ⟨gn, rfl, hgn, hnm, b2⟩; refine Hid.out ?_)
  refine Lib.hid ?_
  clear HK HK1
  have B2 : Below w.heap.size w w2 := below_two b1 b2
  have HLn := Lib.hid (fun (u : World) (hu : Below w2.heap.size w2 u) => (hln.keep (Keeps.of b2)).keep (Keeps.of hu))
  have HNm := Lib.hid (fun (u : World) (hu : Below w2.heap.size w2 u) (k : Nat) (h1 : 1 ≤ k) (h2 : k ≤ 10) => Keeps.of hu _ _ (hnm k h1 h2))
  clear hln hnm b1 b2
  have hpI : (P.length : Int) ≤ 100000001 := by omega
  go_wp2_with fail
  go_loopw [5, 8] (fun v i wr => ∃ (X : List Px) (j : Nat), j ≤ P.length ∧ i = .int .i64 j ∧ X.length ≤ 12 ∧ Hid (DpAt w2.heap.size X v wr) ∧ Hid ((j < P.length → X.length = j ∧ docLoop (X.map (·.1)) (P.drop j) = R) ∧ (j = P.length → endD (X.map (·.1)) = R)) ∧ Below w2.heap.size w2 wr) (fun _ i _ => P.length - (intOf i).toNat)
  case atStart => exact ⟨[], 0, by omega, rfl, by simp, Lib.hid (DpAt.none _ _), Lib.hid ⟨fun _ => ⟨rfl, by rw [HR.out]; rfl⟩, fun h => by omega⟩, Below.refl _ _⟩
  case round =>
    obtain ⟨X, j, hj, rfl, hX12, HD, HS, hbS⟩ := hrel
    rename World => wS
    clear HR
    have hbw : Below w.heap.size w wS := below_two B2 hbS
    obtain ⟨lA, lcap, hlv⟩ := HD.out.form
    subst hlv
    by_cases hlt : j < P.length
    · have hjI : (j : Int) < P.length := by omega
      obtain ⟨hXj, hdl⟩ := HS.out.1 hlt
      have hcj := HLn.out wS hbS j hlt
      rw [Nat.zero_add] at hcj
      have hdr : P.drop j = P[j] :: P.drop (j + 1) := List.drop_eq_getElem_cons hlt
      have hlsz := HPs.out P[j] (List.getElem_mem hlt)
      rw [hdr] at hdl
      have HL := Lib.hid hdl
      clear hdl hdr HS HPs
      generalize P[j] = line at *
      have hE := bb_emp line
      by_cases hlast : j + 1 = P.length
      · have hla : ((j : Int) == (P.length : Int) - 1) = true := by rw [beq_iff_eq]; omega
        have hdn : P.drop (j + 1) = [] := List.drop_eq_nil_of_le (by omega)
        rw [hdn] at HL
        clear hdn
        by_cases hle : line = []
        · have hE1 : (bb line).toList.isEmpty = true := by rw [hE]; simpa using hle
          have HL2 : Hid (endD (X.map (·.1)) = R) := by show _ = _; have := HL.out; rw [hle, dl_skip] at this; exact this
          clear hE HL hle
          generalize bb line = lb at *
          go_wp2_with fail
          exact ⟨⟨X, j + 1, by omega, by go_num, hX12, HD, Lib.hid ⟨fun h => by omega, fun _ => HL2.out⟩, hbS⟩, by simp [intOf]; omega⟩
        · as_aux_lemma =>
          have hE1 : (bb line).toList.isEmpty = false := by rw [hE]; simpa using hle
          have HL2 : Hid (R = .bad j 2) := by show _ = _; rw [← HL.out, dl_open hle, List.length_map, hXj]
          clear hE HL hle
          obtain ⟨w0, ws, hsp⟩ := split_some line
          have HCw := dcut_any (bb line) 32 wS (by rw [bb_size]; omega)
          have hbd : (bb line).data.toList = line := rfl
          rw [hbd, cutC_32, hsp] at HCw
          have hwsz : ∀ x ∈ w0 :: ws, x.length ≤ 100000000 := fun x hx => by
            have := cutC_sub 32 line x (by rw [cutC_32, hsp]; exact hx)
            omega
          have hwl : ws.length ≤ 100000000 := by
            have := cutC_len 32 line
            rw [cutC_32, hsp] at this
            simp at this; omega
          have HSp := Lib.hid hsp
          have HWz := Lib.hid hwsz
          simp only [List.length_cons] at HCw
          clear hbd hsp hwsz
          generalize bb line = lb at *
          go_wp2_with (go_at_call 52; refine HCw.mono ?_; rintro e wC ⟨gw, cpw, rfl, hcw, hgw, hwd, bC⟩; refine Hid.out ?_)
          refine Lib.hid ?_
          have hbC2 : Below w2.heap.size w2 wC := below_two hbS bC
          have hNb := Nb.new wC
          have HW := Lib.hid (fun (u : World) (hu : Below wC.heap.size wC u) => hwd.keep (Keeps.of hu))
          have bA : Below wC.heap.size wC (wC.alloc (.cells #[.int .i64 0, .slice none 0 0, .string ⟨#[]⟩, .int .i64 0] 52)) := (Below.refl _ _).alloc (Nat.le_refl _) _
          clear HCw hwd
          go_wp2_with fail
          generalize wC.alloc (.cells #[.int .i64 0, .slice none 0 0, .string ⟨#[]⟩, .int .i64 0] 52) = wA at *
          obtain ⟨nb, hnb⟩ : ∃ nb, nb = wC.heap.size := ⟨_, rfl⟩
          rw [← hnb] at hNb ⊢
          have hnbl : wC.heap.size ≤ nb := by omega
          clear hnb
          go_loopw [12] (fun k wr => ∃ t : Nat, 1 ≤ t ∧ t ≤ 11 ∧ k = .int .i64 t ∧ Nb wr nb (kqP w0 (t - 1)) (.slice none 0 0) ⟨#[]⟩ 0 ∧ Below wC.heap.size wC wr) (fun k _ => 11 - (intOf k).toNat)
          case atStart => exact ⟨1, by omega, by omega, rfl, by rw [show 1 - 1 = 0 from rfl, kq_zero]; exact hNb, bA⟩
          clear hNb bA
          case round =>
            obtain ⟨t, ht1, ht2, rfl, hN, hbt⟩ := hrel
            rename World => wt
            by_cases ht : t ≤ 10
            · have htI : (t : Int) < 11 := by omega
              have hn1 := HNm.out wt (below_two hbC2 hbt) t ht1 ht
              have hw1 := HW.out wt hbt 0 (by simp)
              simp only [List.getElem_cons_zero, Nat.zero_add] at hw1
              obtain ⟨⟨n0, n1, n2, n3⟩, f0, f1, f2, f3⟩ := hN.cells
              have hnl := hN.lt
              by_cases hq : nameP (t : Int) = w0
              · have hx := bb_eq hq
                have HKq := Lib.hid (kq_hit ht1 ht hq)
                generalize bb (nameP (t : Int)) = na at *
                generalize bb w0 = wa at *
                clear hq
                go_wp2_with fail
                go_quiet (fail)
                have HN2 := Lib.hid ((hN.drew nq).put0 (t : Int))
                have HB2 := Lib.hid ((below_drewN hbt nq).setCell (p := ⟨nb, 0, none⟩) hnbl (.int .i64 (t : Int)))
                go_wp2_with fail
                exact ⟨⟨t + 1, by omega, by omega, by go_num, by rw [Nat.add_sub_cancel, HKq.out]; exact HN2.out, HB2.out⟩, by simp [intOf]; omega⟩
              · have hx := bb_ne hq
                have HKq := Lib.hid (kq_miss ht1 ht hq)
                generalize bb (nameP (t : Int)) = na at *
                generalize bb w0 = wa at *
                clear hq
                go_wp2_with fail
                go_quiet (fail)
                go_wp2_with fail
                exact ⟨⟨t + 1, by omega, by omega, by go_num, by rw [Nat.add_sub_cancel, HKq.out]; exact hN.drew nq, below_drewN hbt nq⟩, by simp [intOf]; omega⟩
            · obtain rfl : t = 11 := by omega
              rw [show 11 - 1 = 10 from rfl, kq_ten] at hN
              have hbwt : Below w.heap.size w wt := below_two (below_two hbw bC) hbt
              obtain ⟨⟨n0, n1, n2, n3⟩, f0, f1, f2, f3⟩ := hN.cells
              have hnl := hN.lt
              go_wp2_with fail
              exact bodyPost_ret (v := .tuple #[.slice none 0 0, .int .i64 j, .int .i64 2]) (by simp [results, Tryz.results23, go_sem]) rfl ⟨hbwt, by rw [HL2.out]; rfl⟩
      · have hla : ((j : Int) == (P.length : Int) - 1) = false := by rw [beq_eq_false_iff_ne]; omega
        have hrest : P.drop (j + 1) ≠ [] := fun e => by have := congrArg List.length e; simp at this; omega
        clear hE
        have HNo : Hid (∀ {e : List UInt8}, docRead line = none → R = .bad j 2) := fun {_} h => by rw [← HL.out, dl_none hrest h, List.length_map, hXj]
        have HL0 := Lib.hid (show docLoop (X.map (·.1)) (line :: P.drop (j + 1)) = R from HL.out)
        clear HL
        obtain ⟨w0, ws, hsp⟩ := split_some line
        have HCw := dcut_any (bb line) 32 wS (by rw [bb_size]; omega)
        have hbd : (bb line).data.toList = line := rfl
        rw [hbd, cutC_32, hsp] at HCw
        have hwsz : ∀ x ∈ w0 :: ws, x.length ≤ 100000000 := fun x hx => by
          have := cutC_sub 32 line x (by rw [cutC_32, hsp]; exact hx)
          omega
        have hwl : ws.length ≤ 100000000 := by
          have := cutC_len 32 line
          rw [cutC_32, hsp] at this
          simp at this; omega
        have HSp := Lib.hid hsp
        have HWz := Lib.hid hwsz
        simp only [List.length_cons] at HCw
        clear hbd hsp hwsz
        generalize bb line = lb at *
        go_wp2_with (go_at_call 52; refine HCw.mono ?_; rintro e wC ⟨gw, cpw, rfl, hcw, hgw, hwd, bC⟩; refine Hid.out ?_)
        refine Lib.hid ?_
        have hbC2 : Below w2.heap.size w2 wC := below_two hbS bC
        have hNb := Nb.new wC
        have HW := Lib.hid (fun (u : World) (hu : Below wC.heap.size wC u) => hwd.keep (Keeps.of hu))
        have bA : Below wC.heap.size wC (wC.alloc (.cells #[.int .i64 0, .slice none 0 0, .string ⟨#[]⟩, .int .i64 0] 52)) := (Below.refl _ _).alloc (Nat.le_refl _) _
        clear HCw hwd
        go_wp2_with fail
        generalize wC.alloc (.cells #[.int .i64 0, .slice none 0 0, .string ⟨#[]⟩, .int .i64 0] 52) = wA at *
        obtain ⟨nb, hnb⟩ : ∃ nb, nb = wC.heap.size := ⟨_, rfl⟩
        rw [← hnb] at hNb ⊢
        have hnbl : wC.heap.size ≤ nb := by omega
        clear hnb
        go_loopw [12] (fun k wr => ∃ t : Nat, 1 ≤ t ∧ t ≤ 11 ∧ k = .int .i64 t ∧ Nb wr nb (kqP w0 (t - 1)) (.slice none 0 0) ⟨#[]⟩ 0 ∧ Below wC.heap.size wC wr) (fun k _ => 11 - (intOf k).toNat)
        case atStart => exact ⟨1, by omega, by omega, rfl, by rw [show 1 - 1 = 0 from rfl, kq_zero]; exact hNb, bA⟩
        clear hNb bA
        case round =>
          obtain ⟨t, ht1, ht2, rfl, hN, hbt⟩ := hrel
          rename World => wt
          by_cases ht : t ≤ 10
          · have htI : (t : Int) < 11 := by omega
            have hn1 := HNm.out wt (below_two hbC2 hbt) t ht1 ht
            have hw1 := HW.out wt hbt 0 (by simp)
            simp only [List.getElem_cons_zero, Nat.zero_add] at hw1
            obtain ⟨⟨n0, n1, n2, n3⟩, f0, f1, f2, f3⟩ := hN.cells
            have hnl := hN.lt
            by_cases hq : nameP (t : Int) = w0
            · have hx := bb_eq hq
              have HKq := Lib.hid (kq_hit ht1 ht hq)
              generalize bb (nameP (t : Int)) = na at *
              generalize bb w0 = wa at *
              clear hq
              go_wp2_with fail
              go_quiet (fail)
              have HN2 := Lib.hid ((hN.drew nq).put0 (t : Int))
              have HB2 := Lib.hid ((below_drewN hbt nq).setCell (p := ⟨nb, 0, none⟩) hnbl (.int .i64 (t : Int)))
              go_wp2_with fail
              exact ⟨⟨t + 1, by omega, by omega, by go_num, by rw [Nat.add_sub_cancel, HKq.out]; exact HN2.out, HB2.out⟩, by simp [intOf]; omega⟩
            · have hx := bb_ne hq
              have HKq := Lib.hid (kq_miss ht1 ht hq)
              generalize bb (nameP (t : Int)) = na at *
              generalize bb w0 = wa at *
              clear hq
              go_wp2_with fail
              go_quiet (fail)
              go_wp2_with fail
              exact ⟨⟨t + 1, by omega, by omega, by go_num, by rw [Nat.add_sub_cancel, HKq.out]; exact hN.drew nq, below_drewN hbt nq⟩, by simp [intOf]; omega⟩
          · obtain rfl : t = 11 := by omega
            rw [show 11 - 1 = 10 from rfl, kq_ten] at hN
            have hbwt : Below w.heap.size w wt := below_two (below_two hbw bC) hbt
            obtain ⟨⟨n0, n1, n2, n3⟩, f0, f1, f2, f3⟩ := hN.cells
            have hnl := hN.lt
            by_cases hk0 : kindP w0 = 0
            · rw [hk0] at n0
              have HL2 := Lib.hid (HNo.out (e := []) (dr_nokind HSp.out hk0))
              clear HNo HL0 hN hk0
              go_wp2_with fail
              exact bodyPost_ret (v := .tuple #[.slice none 0 0, .int .i64 j, .int .i64 2]) (by simp [results, Tryz.results23, go_sem]) rfl ⟨hbwt, by rw [HL2.out]; rfl⟩
            have hk1 : (kindP w0 == 0) = false := by simpa using hk0
            have cT := texted_any (kindP w0)
            cases hT : hasTP (kindP w0) with
            | true =>
              rw [hT] at cT
              by_cases hw0 : ws = []
              · have HL2 := Lib.hid (HNo.out (e := []) (dr_notext HSp.out hk0 hT hw0))
                subst hw0
                clear HNo HL0 hk0 hT
                simp only [List.length_nil, Nat.zero_add] at *
                by_cases hcp1 : cpw = 1
                · subst hcp1
                  go_wp2_with (go_at_call 49; refine (cT _).mono ?_; rintro e w' ⟨rfl, rfl⟩; refine Hid.out ?_)
                  refine Lib.hid ?_
                  go_wp2_with fail
                  exact bodyPost_ret (v := .tuple #[.slice none 0 0, .int .i64 j, .int .i64 2]) (by simp [results, Tryz.results23, go_sem]) rfl ⟨hbwt, by rw [HL2.out]; rfl⟩
                · go_wp2_with (go_at_call 49; refine (cT _).mono ?_; rintro e w' ⟨rfl, rfl⟩; refine Hid.out ?_)
                  refine Lib.hid ?_
                  go_wp2_with fail
                  exact bodyPost_ret (v := .tuple #[.slice none 0 0, .int .i64 j, .int .i64 2]) (by simp [results, Tryz.results23, go_sem]) rfl ⟨hbwt, by rw [HL2.out]; rfl⟩
              · as_aux_lemma =>
                obtain ⟨us, lw, hus⟩ : ∃ us lw, ws = us ++ [lw] := ⟨ws.dropLast, ws.getLast hw0, (List.dropLast_concat_getLast hw0).symm⟩
                subst hus
                have HtxD : Hid (txD (kindP w0) (us ++ [lw]) = lw) := by show _ = _; unfold txD; rw [hT, if_pos rfl]; simp
                have HusD : Hid (usD (kindP w0) (us ++ [lw]) = us) := by show _ = _; unfold usD; rw [hT, if_pos rfl]; simp
                have HTn : Hid (¬ (hasTP (kindP w0) = true ∧ (us ++ [lw]) = [])) := fun h => hw0 h.2
                have HTt : Hid (hasTP (kindP w0) = true) := hT
                have HCf : Hid (hasNP (kindP w0) = false) := by
                  show _ = _
                  cases hq : hasNP (kindP w0) with
                  | false => rfl
                  | true => have := nt_not hq; rw [hT] at this; cases this
                have hul : (us ++ [lw]).length = us.length + 1 := by simp
                rw [hul] at hwl hcw
                have hcl := HW.out wt hbt (1 + us.length) (by simp; omega)
                have hge : (w0 :: (us ++ [lw]))[1 + us.length]'(by simp; omega) = lw := by
                  simp [Nat.add_comm 1 us.length]
                rw [hge, Nat.zero_add] at hcl
                have HUs : Hid (∀ (u : World), Below wC.heap.size wC u → ∀ (t : Nat) (h : t < us.length), u.cell? ⟨gw, 1 + t, none⟩ = some (.string (bb us[t]))) := fun u hu t h => by
                  have h1 := HW.out u hu (1 + t) (by simp; omega)
                  have h2 : (w0 :: (us ++ [lw]))[1 + t]'(by simp; omega) = us[t] := by
                    simp [Nat.add_comm 1 t, List.getElem_append_left h]
                  rw [h2, Nat.zero_add] at h1; exact h1
                have hzt : lw.length ≤ 100000000 := HWz.out lw (by simp)
                have hzu : ∀ x ∈ us, x.length ≤ 100000000 := fun x hx => HWz.out x (by simp [hx])
                have HZu := Lib.hid hzu
                simp only [hul]
                clear hge hul hT HW HWz hzu hw0
                obtain ⟨txv, htxv⟩ : ∃ txv, txv = bb lw := ⟨_, rfl⟩
                rw [← htxv] at hcl
                have HTv : Hid (bb (txD (kindP w0) (us ++ [lw])) = txv) := by show _ = _; rw [HtxD.out, htxv]
                have htz : txv.size ≤ 100000000 := by rw [htxv, bb_size]; exact hzt
                clear HtxD htxv hzt
                generalize us ++ [lw] = ws at *
                have hcp2 : ¬ cpw = 1 := by omega
                have HN2 := Lib.hid (hN.put2 txv)
                have HB2 := Lib.hid (hbt.setCell (p := ⟨nb, 2, none⟩) hnbl (.string txv))
                have HnoN : Hid (numsR us = none → R = .bad j 2) := fun h => HNo.out (e := []) (dr_nonum HSp.out hk0 HTn.out (by rw [HusD.out]; exact h))
                have HnoC : Hid (∀ ns, numsR us = some ns → hasNP (kindP w0) = true → ns = [] → R = .bad j 2) := fun ns h h2 h3 => HNo.out (e := []) (dr_nocount HSp.out hk0 HTn.out (by rw [HusD.out]; exact h) h2 h3)
                have HnoS : Hid (∀ ns, numsR us = some ns → ¬ (hasNP (kindP w0) = true ∧ ns = []) → ((kindP w0 = 1 ∧ 0 < (fsD (kindP w0) ns).length) ∨ (kindP w0 ≠ 1 ∧ kindP w0 ≠ 6 ∧ (fsD (kindP w0) ns).length ≠ 1)) → R = .bad j 2) := fun ns h h2 h3 => HNo.out (e := []) (dr_shape HSp.out hk0 HTn.out (by rw [HusD.out]; exact h) h2 h3)
                have HokD : Hid (∀ ns, numsR us = some ns → ¬ (hasNP (kindP w0) = true ∧ ns = []) → ¬ ((kindP w0 = 1 ∧ 0 < (fsD (kindP w0) ns).length) ∨ (kindP w0 ≠ 1 ∧ kindP w0 ≠ 6 ∧ (fsD (kindP w0) ns).length ≠ 1)) → docRead line = some ⟨kindP w0, fsD (kindP w0) ns, txv, nD (kindP w0) ns⟩) := fun ns h h2 h3 => by
                  rw [dr_ok HSp.out hk0 HTn.out (by rw [HusD.out]; exact h) h2 h3, ← HTv.out]; rfl
                have hkr : 1 ≤ kindP w0 ∧ kindP w0 ≤ 10 := (kind_name hk0).2
                have HK1 : Hid (¬ kindP w0 = 1) := fun e => by have := HTt.out; rw [e] at this; exact absurd this (by decide)
                have HK6 : Hid (¬ kindP w0 = 6) := fun e => by have := HTt.out; rw [e] at this; exact absurd this (by decide)
                clear HTt
                clear HSp HTn HusD HTv HNo hN
                generalize kindP w0 = kd at *
                go_wp2_with (go_at_call 49; refine (cT _).mono ?_; rintro e w' ⟨rfl, rfl⟩; refine Hid.out ?_)
                refine Lib.hid ?_
                clear cT
                go_wp2_with fail
                generalize wt.setCell ⟨nb, 2, none⟩ (.string txv) = wB at *
                clear n0 n1 n2 n3 f0 f1 f2 f3 hnl hbt hbwt
                obtain ⟨hkr1, hkr2⟩ := hkr
                go_loopw [14, 15] (fun v k wr => ∃ (t : Nat) (ns : List Int), t ≤ us.length ∧ k = .int .i64 t ∧ Hid (ns.length = t) ∧ Hid (numsR (us.take t) = some ns) ∧ wr.ownsRow wC.heap.size 3 1 v ns.length (iv ns) ∧ Hid (Nb wr nb kd (.slice none 0 0) txv 0) ∧ Below wC.heap.size wC wr) (fun _ k _ => us.length - (intOf k).toNat)
                case atStart => exact ⟨0, [], by omega, rfl, Lib.hid rfl, Lib.hid rfl, World.ownsRow_nil _ _ _ _, HN2, HB2.out⟩
                case round =>
                  obtain ⟨t, ns, ht, rfl, HNl, HNs, hown, HNn, hbn⟩ := hrel
                  have hnlb : ns.length ≤ 100000000 := by have := HNl.out; omega
                  rename World => wn
                  clear HN2 HB2
                  by_cases htl : t < us.length
                  · have htI : (t : Int) < us.length := by omega
                    have hct := HUs.out wn hbn t htl
                    have hsz := HZu.out us[t] (List.getElem_mem htl)
                    have HSm := small2_any (bb us[t]) wn (by rw [bb_size]; exact hsz)
                    rw [show (bb us[t]).data.toList = us[t] from rfl] at HSm
                    cases hnr : numR us[t] with
                    | none =>
                     as_aux_lemma =>
                      have hsv : smV us[t] = -1 := by unfold smV; rw [small_num, hnr]
                      rw [hsv] at HSm
                      have HL2 := Lib.hid (HnoN.out (nums_none htl hnr))
                      have HBn := Lib.hid (below_two (below_two hbw bC) hbn)
                      clear hsv hnr HNs HnoN HnoC HnoS HokD HD HL0
                      generalize bb us[t] = ub at *
                      go_wp2_with (go_at_call 53; refine HSm.mono ?_; rintro e w' ⟨rfl, rfl⟩; refine Hid.out ?_)
                      refine Lib.hid ?_
                      go_wp2_with fail
                      exact bodyPost_ret (v := .tuple #[.slice none 0 0, .int .i64 j, .int .i64 2]) (by simp [results, Tryz.results23, go_sem]) rfl ⟨HBn.out, by rw [HL2.out]; rfl⟩
                    | some n =>
                     as_aux_lemma =>
                      obtain ⟨-, hn0, hn9⟩ := numR_some hnr
                      have hsv : smV us[t] = n := by unfold smV; rw [small_num, hnr]
                      rw [hsv] at HSm
                      have HNs2 := Lib.hid (nums_take htl HNs.out hnr)
                      have hneg : ¬ n < 0 := by omega
                      have hsC := hbn.size
                      clear hsv hnr HNs
                      generalize bb us[t] = ub at *
                      go_wp2_with (go_at_call 53; refine HSm.mono ?_; rintro e w' ⟨rfl, rfl⟩; refine Hid.out ?_)
                      refine Lib.hid ?_
                      go_wp2_with (at_builtin; refine wpList_append_own _ rfl _ _ 41 rfl wC.heap.size 3 i0 (.int .i64 0) 1 8 Tryz.underlying41 hi hz0 hz1 hz2 rfl (by decide) _ _ _ rfl (hown.alloc _) ⟨wn.heap.size, 0, none⟩ 1 1 [.int .i64 n] rfl rfl (cell_one_new _ _ _) (by intro u hu; simp at hu; subst hu; rfl) (by unfold maxLen; omega) (by omega) (by simp; omega) ?_)
                      intro v' w3 hown' hgrow _
                      have hb3 : Below wC.heap.size wC w3 := (hbn.alloc (by omega) _).grown hgrow (by simp; omega) (fun k hk => (hown.lt k hk).1)
                      have ho3 : w3.ownsRow wC.heap.size 3 1 v' (ns ++ [n]).length (iv (ns ++ [n])) := by
                        rw [iv_snoc]; simpa using hown'
                      have HNn3 : Hid (Nb w3 nb kd (.slice none 0 0) txv 0) := by
                        show w3.heap[nb]? = _
                        have hl := HNn.out.lt
                        rw [hgrow.block nb (by simp; omega) (fun e => by
                          obtain ⟨cur, hc⟩ := row_block hown e.symm
                          have h2 : wn.heap[nb]? = _ := HNn.out
                          rw [hc] at h2
                          injection h2 with h2; injection h2 with _ h2
                          revert h2; decide)]
                        exact HNn.out.alloc _
                      clear hown' hgrow hown HNn hbn hsC
                      go_wp2_with fail
                      have HLn2 : Hid ((ns ++ [n]).length = t + 1) := by show _ = _; rw [List.length_append, HNl.out]; rfl
                      first
                        | exact ⟨⟨t + 1, ns ++ [n], by omega, by go_num, HLn2, HNs2, ho3, HNn3, hb3⟩, by simp [intOf]; omega⟩
                        | (refine ⟨?_, by simp [intOf]; omega⟩
                           repeat apply Exists.intro
                           refine ⟨?_, rfl⟩
                           exact ⟨t + 1, ns ++ [n], by omega, by go_num, HLn2, HNs2, ho3, HNn3, hb3⟩)
                  · as_aux_lemma =>
                    obtain rfl : t = us.length := by omega
                    have htI : ¬ ((us.length : Int) < us.length) := by omega
                    have hns := HNs.out
                    rw [List.take_length] at hns
                    have HNa := Lib.hid hns
                    clear hns HNs
                    obtain ⟨vA, vcap, hvv⟩ := own_form hown
                    subst hvv
                    obtain ⟨⟨m0, m1, m2, m3⟩, e0, e1, e2, e3⟩ := HNn.out.cells
                    have hnln := HNn.out.lt
                    have cC := counted_any kd
                    rw [HCf.out] at cC
                    have hnc : ¬ (hasNP kd = true ∧ ns = []) := fun h => by rw [HCf.out] at h; exact absurd h.1 (by decide)
                    have hfd : fsD kd ns = ns := by unfold fsD; rw [HCf.out]; rfl
                    have hnd : nD kd ns = 0 := by unfold nD; rw [HCf.out]; rfl
                    have HS0 := Lib.hid (HnoS.out ns HNa.out hnc)
                    have HOk0 := Lib.hid (HokD.out ns HNa.out hnc)
                    rw [hfd] at HS0 HOk0
                    rw [hnd] at HOk0
                    clear HnoN HnoC HnoS HokD hnc hfd hnd HNa HUs HZu
                    have hfz : ns.length ≤ 100000000 := hnlb
                    clear HNl hnlb
                    generalize us.length = ul at *
                    go_wp2_with (go_at_call 48; refine (cC _).mono ?_; rintro e w' ⟨rfl, rfl⟩; refine Hid.out ?_)
                    refine Lib.hid ?_
                    clear cC
                    obtain ⟨nv, hnv⟩ : ∃ nv : Int, nv = 0 := ⟨_, rfl⟩
                    rw [← hnv] at HOk0 HNn m3
                    have hF := hown
                    have HNF := HNn
                    have hbF := hbn
                    clear hown HNn hbn hnln hnv
                    have hk1e : ¬ kd = 1 := HK1.out
                    have y1 : (kd == 1) = false := by simpa using hk1e
                    have y2 : (kd != 1) = true := by simpa using hk1e
                    have hk6 : ¬ kd = 6 := HK6.out
                    have y3 : (kd != 6) = true := by simpa using hk6
                    by_cases hf1 : ns.length = 1
                    · have hf1I : ((ns.length : Int) != 1) = false := by rw [hf1]; rfl
                      have HOk := Lib.hid (HOk0.out (fun h => h.elim (fun p => hk1e p.1) (fun p => p.2.2 hf1)))
                      clear HS0 HOk0 hk6 hk1e hf1
                      as_aux_lemma =>
                        have HBF2 := Lib.hid (hbF.setCell (p := ⟨nb, 1, none⟩) hnbl (.slice vA ns.length vcap))
                        have HOF2 := Lib.hid (show (wn.setCell ⟨nb, 1, none⟩ (.slice vA ns.length vcap)).ownsRow wC.heap.size 3 1 (.slice vA ns.length vcap) ns.length (iv ns) from ownsRow_of_block hF (fun g hg => by
                          have hne : g ≠ nb := fun e => by
                            subst e
                            obtain ⟨cur, hc⟩ := row_block hF hg
                            have h2 : wn.heap[g]? = _ := HNF.out
                            rw [hc] at h2
                            injection h2 with h2; injection h2 with _ h2
                            revert h2; decide
                          exact Below.heap_setCell _ _ _ _ hne))
                        obtain ⟨⟨m0, m1, m2, m3⟩, e0, e1, e2, e3⟩ := HNF.out.cells
                        have hnlF := HNF.out.lt
                        have HBW := Lib.hid (below_two (below_two hbw bC) HBF2.out)
                        by_cases h12 : j = 12
                        · have HL2 : Hid (R = .bad j 4) := by show _ = _; rw [← HL0.out, dl_full hrest HOk.out (by rw [List.length_map, hXj]; exact h12), List.length_map, hXj]
                          have h12I : ((j : Int) == 12) = true := by rw [h12]; rfl
                          clear HOF2 HOk HL0 HD HBF2 HNF hF hbF h12
                          go_wp2_with fail
                          exact bodyPost_ret (v := .tuple #[.slice none 0 0, .int .i64 j, .int .i64 4]) (by simp [results, Tryz.results23, go_sem]) rfl ⟨HBW.out, by rw [HL2.out]; rfl⟩
                        · have h12I : ((j : Int) == 12) = false := by rw [beq_eq_false_iff_ne]; omega
                          have hDW := HD.out.call (below_two bC HBF2.out)
                          have HDW := Lib.hid hDW
                          have hrw := hDW.row
                          rw [hXj] at hrw
                          have HRow := Lib.hid hrw
                          have HB2W := Lib.hid (below_two hbC2 HBF2.out)
                          have hsW : w2.heap.size ≤ wn.heap.size := by have := HB2W.out.size; simp at this; exact this
                          have hj12 : j < 12 := by omega
                          clear hDW hrw HBF2 HNF hF hbF
                          go_wp2_with (at_builtin; refine wpList_append_own _ rfl _ _ 38 rfl w2.heap.size 52 i1 (.agg #[.int .i64 0, .slice none 0 0, .string ⟨#[]⟩, .int .i64 0]) 4 56 Tryz.underlying38 hi1 hy0 hy1 hy2 rfl (by decide) _ _ _ rfl (HRow.out.alloc _) ⟨wn.heap.size, 0, none⟩ 1 1 (ndC ((⟨kd, ns, txv, nv⟩ : Nd), vA, vcap)) rfl rfl (cell_four_newS _ _ _ _ _ _ _ _) (by intro u hu; simp [ndC] at hu; rcases hu with rfl | rfl | rfl | rfl <;> rfl) (by unfold maxLen; omega) (by omega) (by simp; omega) ?_)
                          intro v' w3 hown' hgrow _
                          obtain ⟨A', cap', rfl⟩ := own_form hown'
                          have hX1 : X.length + 1 = j + 1 := by omega
                          have hDW2 : DpAt w2.heap.size X (.slice lA j lcap) (wn.setCell ⟨nb, 1, none⟩ (.slice vA ns.length vcap)) := by have := HDW.out; rw [hXj] at this; exact this
                          have hown2 : w3.ownsRow w2.heap.size 52 4 (.slice A' (j + 1) cap') (X.length + 1) (X.flatMap ndC ++ ndC ((⟨kd, ns, txv, nv⟩ : Nd), vA, vcap)) := by rw [hX1]; exact hown'
                          have hDN : DpAt w2.heap.size (X ++ [((⟨kd, ns, txv, nv⟩ : Nd), vA, vcap)]) (.slice A' (j + 1) cap') w3 := hDW2.snoc (x := ((⟨kd, ns, txv, nv⟩ : Nd), vA, vcap)) (own_base HOF2.out hbC2.size) ⟨htz, hfz⟩ hgrow hown2
                          clear hDW2 hown2
                          have hb32 : Below w2.heap.size w2 w3 := (HB2W.out.alloc (by simp; omega) _).grown hgrow (by simp; omega) (fun k hk => (HRow.out.lt k hk).1)
                          have hb3 : Below w.heap.size w w3 := below_two B2 hb32
                          have HNode : Calls Tryz.prog 43 #[.slice A' (j + 1) cap', .int .i64 (j : Int)] w3 fun e w' => e = .returned (.int .i64 (nodeP (X.map (·.1)) ⟨kd, ns, txv, nv⟩ : Nat)) ∧ Below w3.heap.size w3 w' := by
                            have e1 : ((X ++ [((⟨kd, ns, txv, nv⟩ : Nd), vA, vcap)]).map (·.1)).length = j + 1 := by simp [hXj]
                            have hl1 : (X ++ [((⟨kd, ns, txv, nv⟩ : Nd), vA, vcap)]).length = j + 1 := by simp [hXj]
                            have hDN2 := hDN
                            rw [← hl1] at hDN2
                            have h := dnode_any (c := cap') hDN2.nodes.1 j (by rw [e1]; omega) (by rw [e1]; omega)
                            have e2 : nodeP (((X ++ [((⟨kd, ns, txv, nv⟩ : Nd), vA, vcap)]).map (·.1)).take j) (((X ++ [((⟨kd, ns, txv, nv⟩ : Nd), vA, vcap)]).map (·.1))[j]'(by rw [e1]; omega)) = nodeP (X.map (·.1)) ⟨kd, ns, txv, nv⟩ := by
                              subst hXj
                              congr 1
                              · simp
                              · simp
                            rw [e2, e1] at h
                            exact h
                          have HDN := Lib.hid hDN
                          have HXm : Hid ((X.map (·.1)).length = j) := by show _ = _; rw [List.length_map]; exact hXj
                          clear hDN hown' hgrow HRow HDW HOF2 HBW
                          by_cases he : nodeP (X.map (·.1)) ⟨kd, ns, txv, nv⟩ = 0
                          · have HR2 := Lib.hid (dl_right hrest HOk.out (by rw [HXm.out]; exact h12) he)
                            rw [he] at HNode
                            clear he
                            go_wp2_with (go_at_call 43; refine HNode.mono ?_; rintro e w4 ⟨rfl, b4⟩; refine Hid.out ?_)
                            refine Lib.hid ?_
                            go_wp2_with fail
                            refine ⟨⟨X ++ [((⟨kd, ns, txv, nv⟩ : Nd), vA, vcap)], j + 1, by omega, by go_num, by simp; omega, Lib.hid (HDN.out.call b4), Lib.hid ⟨fun _ => ⟨by simp [hXj], ?_⟩, fun h => by omega⟩, below_two hb32 b4⟩, by simp [intOf]; omega⟩
                            rw [List.map_append, ← HL0.out, HR2.out]; rfl
                          · have HL2 := Lib.hid ((HL0.out).symm.trans (dl_wrong hrest HOk.out (by rw [HXm.out]; exact h12) he))
                            rw [HXm.out] at HL2
                            have hne : (((nodeP (X.map (·.1)) ⟨kd, ns, txv, nv⟩ : Nat) : Int) != 0) = true := by simpa using he
                            clear he HL0 HD HDN
                            generalize nodeP (X.map (·.1)) ⟨kd, ns, txv, nv⟩ = en at *
                            go_wp2_with (go_at_call 43; refine HNode.mono ?_; rintro e w4 ⟨rfl, b4⟩; refine Hid.out ?_)
                            refine Lib.hid ?_
                            go_wp2_with fail
                            exact bodyPost_ret (v := .tuple #[.slice none 0 0, .int .i64 j, .int .i64 en]) (by simp [results, Tryz.results23, go_sem]) rfl ⟨below_two hb3 b4, by rw [HL2.out]⟩
                    · have HL2 := Lib.hid (HS0.out (.inr ⟨hk1e, hk6, hf1⟩))
                      have hf1I : ((ns.length : Int) != 1) = true := by rw [bne_iff_ne]; omega
                      have HBn := Lib.hid (below_two (below_two hbw bC) hbF)
                      clear HS0 HOk0 HD HL0 hk1e hk6
                      go_wp2_with fail
                      exact bodyPost_ret (v := .tuple #[.slice none 0 0, .int .i64 j, .int .i64 2]) (by simp [results, Tryz.results23, go_sem]) rfl ⟨HBn.out, by rw [HL2.out]; rfl⟩
            | false =>
              rw [hT] at cT
              have HtxD : Hid (txD (kindP w0) ws = []) := by show _ = _; unfold txD; rw [hT]; rfl
              have HusD : Hid (usD (kindP w0) ws = ws) := by show _ = _; unfold usD; rw [hT]; rfl
              have HTn : Hid (¬ (hasTP (kindP w0) = true ∧ ws = [])) := fun h => by rw [hT] at h; exact absurd h.1 (by decide)
              obtain ⟨txv, htxv⟩ : ∃ txv : ByteArray, txv = ⟨#[]⟩ := ⟨_, rfl⟩
              have htz : txv.size ≤ 100000000 := by rw [htxv]; exact Nat.zero_le _
              have HN2 : Hid (Nb wt nb (kindP w0) (.slice none 0 0) txv 0) := by show Nb _ _ _ _ _ _; rw [htxv]; exact hN
              have n2' : wt.cell? ⟨nb, 2, none⟩ = some (.string txv) := by rw [htxv]; exact n2
              have HB2 := Lib.hid hbt
              have HTv : Hid (bb (txD (kindP w0) ws) = txv) := by show _ = _; rw [HtxD.out, htxv]; rfl
              have HZu := Lib.hid (fun x hx => HWz.out x (List.mem_cons_of_mem _ hx) : ∀ x ∈ ws, x.length ≤ 100000000)
              clear HtxD htxv HWz n2
              have HnoN : Hid (numsR ws = none → R = .bad j 2) := fun h => HNo.out (e := []) (dr_nonum HSp.out hk0 HTn.out (by rw [HusD.out]; exact h))
              have HnoC : Hid (∀ ns, numsR ws = some ns → hasNP (kindP w0) = true → ns = [] → R = .bad j 2) := fun ns h h2 h3 => HNo.out (e := []) (dr_nocount HSp.out hk0 HTn.out (by rw [HusD.out]; exact h) h2 h3)
              have HnoS : Hid (∀ ns, numsR ws = some ns → ¬ (hasNP (kindP w0) = true ∧ ns = []) → ((kindP w0 = 1 ∧ 0 < (fsD (kindP w0) ns).length) ∨ (kindP w0 ≠ 1 ∧ kindP w0 ≠ 6 ∧ (fsD (kindP w0) ns).length ≠ 1)) → R = .bad j 2) := fun ns h h2 h3 => HNo.out (e := []) (dr_shape HSp.out hk0 HTn.out (by rw [HusD.out]; exact h) h2 h3)
              have HokD : Hid (∀ ns, numsR ws = some ns → ¬ (hasNP (kindP w0) = true ∧ ns = []) → ¬ ((kindP w0 = 1 ∧ 0 < (fsD (kindP w0) ns).length) ∨ (kindP w0 ≠ 1 ∧ kindP w0 ≠ 6 ∧ (fsD (kindP w0) ns).length ≠ 1)) → docRead line = some ⟨kindP w0, fsD (kindP w0) ns, txv, nD (kindP w0) ns⟩) := fun ns h h2 h3 => by
                rw [dr_ok HSp.out hk0 HTn.out (by rw [HusD.out]; exact h) h2 h3, ← HTv.out]; rfl
              have hkr : 1 ≤ kindP w0 ∧ kindP w0 ≤ 10 := (kind_name hk0).2
              cases hC : hasNP (kindP w0) with
              | false =>
                have HCf : Hid (hasNP (kindP w0) = false) := hC
                have HK1 : Hid (¬ kindP w0 = 1) := fun e => by rw [e] at hC; exact absurd hC (by decide)
                by_cases hcp1 : cpw = 1
                · as_aux_lemma =>
                    have hw0 : ws = [] := List.eq_nil_of_length_eq_zero (by omega)
                    subst hw0
                    subst hcp1
                    have cC := counted_any (kindP w0)
                    rw [hC] at cC
                    have hnc : ¬ (hasNP (kindP w0) = true ∧ ([] : List Int) = []) := fun h => by rw [hC] at h; exact absurd h.1 (by decide)
                    have HS0 := Lib.hid (HnoS.out [] rfl hnc)
                    have HOk0 := Lib.hid (HokD.out [] rfl hnc)
                    rw [show fsD (kindP w0) [] = [] from by unfold fsD; rw [hC]; rfl] at HS0 HOk0
                    rw [show nD (kindP w0) [] = 0 from by unfold nD; rw [hC]; rfl] at HOk0
                    have hfz : ([] : List Int).length ≤ 100000000 := Nat.zero_le _
                    clear HSp HTn HusD HTv HNo hN hT hC HW HnoN HnoC HnoS HokD HZu hkr hnc HCf
                    generalize kindP w0 = kd at *
                    simp only [List.length_nil, Nat.zero_add] at hcw
                    go_wp2_with (go_at_call 49; refine (cT _).mono ?_; rintro e w' ⟨rfl, rfl⟩; refine Hid.out ?_)
                    refine Lib.hid ?_
                    clear cT
                    go_wp2_with fail
                    refine wp_loop_rounds 1 ?_
                    rw [rounds_succ]
                    go_wp2_with (go_at_call 48; refine (cC _).mono ?_; rintro e w' ⟨rfl, rfl⟩; refine Hid.out ?_)
                    refine Lib.hid ?_
                    clear cC
                    obtain ⟨nv, hnv⟩ : ∃ nv : Int, nv = 0 := ⟨_, rfl⟩
                    rw [← hnv] at HOk0 HN2 n3
                    have hF : wt.ownsRow wC.heap.size 3 1 (.slice none ([] : List Int).length 0) ([] : List Int).length (iv []) := World.ownsRow_nil _ _ _ _
                    have HNF := HN2
                    have hbF := HB2.out
                    clear HN2 HB2 hnv n0 n1 n2' n3 f0 f1 f2 f3 hnl
                    obtain ⟨⟨m0, m1, m2, m3⟩, e0, e1, e2, e3⟩ := HNF.out.cells
                    have hnln := HNF.out.lt
                    have hk1e : ¬ kd = 1 := HK1.out
                    have y1 : (kd == 1) = false := by simpa using hk1e
                    have y2 : (kd != 1) = true := by simpa using hk1e
                    by_cases hk6 : kd = 6
                    · have y3 : (kd != 6) = false := by rw [hk6]; rfl
                      have HOk := Lib.hid (HOk0.out (fun h => h.elim (fun p => hk1e p.1) (fun p => p.2.1 hk6)))
                      clear HS0 HOk0 hk6 hk1e
                      as_aux_lemma =>
                        have HBF2 := Lib.hid (hbF.setCell (p := ⟨nb, 1, none⟩) hnbl (.slice (none : Option Addr) ([] : List Int).length (0 : Nat)))
                        have HOF2 := Lib.hid (show (wt.setCell ⟨nb, 1, none⟩ (.slice (none : Option Addr) ([] : List Int).length (0 : Nat))).ownsRow wC.heap.size 3 1 (.slice (none : Option Addr) ([] : List Int).length (0 : Nat)) ([] : List Int).length (iv ([] : List Int)) from ownsRow_of_block hF (fun g hg => by
                          have hne : g ≠ nb := fun e => by
                            subst e
                            obtain ⟨cur, hc⟩ := row_block hF hg
                            have h2 : wt.heap[g]? = _ := HNF.out
                            rw [hc] at h2
                            injection h2 with h2; injection h2 with _ h2
                            revert h2; decide
                          exact Below.heap_setCell _ _ _ _ hne))
                        obtain ⟨⟨m0, m1, m2, m3⟩, e0, e1, e2, e3⟩ := HNF.out.cells
                        have hnlF := HNF.out.lt
                        have HBW := Lib.hid (below_two (below_two hbw bC) HBF2.out)
                        by_cases h12 : j = 12
                        · have HL2 : Hid (R = .bad j 4) := by show _ = _; rw [← HL0.out, dl_full hrest HOk.out (by rw [List.length_map, hXj]; exact h12), List.length_map, hXj]
                          have h12I : ((j : Int) == 12) = true := by rw [h12]; rfl
                          clear HOF2 HOk HL0 HD HBF2 HNF hF hbF h12
                          go_wp2_with fail
                          exact bodyPost_ret (v := .tuple #[.slice none 0 0, .int .i64 j, .int .i64 4]) (by simp [results, Tryz.results23, go_sem]) rfl ⟨HBW.out, by rw [HL2.out]; rfl⟩
                        · have h12I : ((j : Int) == 12) = false := by rw [beq_eq_false_iff_ne]; omega
                          have hDW := HD.out.call (below_two bC HBF2.out)
                          have HDW := Lib.hid hDW
                          have hrw := hDW.row
                          rw [hXj] at hrw
                          have HRow := Lib.hid hrw
                          have HB2W := Lib.hid (below_two hbC2 HBF2.out)
                          have hsW : w2.heap.size ≤ wt.heap.size := by have := HB2W.out.size; simp at this; exact this
                          have hj12 : j < 12 := by omega
                          clear hDW hrw HBF2 HNF hF hbF
                          go_wp2_with (at_builtin; refine wpList_append_own _ rfl _ _ 38 rfl w2.heap.size 52 i1 (.agg #[.int .i64 0, .slice none 0 0, .string ⟨#[]⟩, .int .i64 0]) 4 56 Tryz.underlying38 hi1 hy0 hy1 hy2 rfl (by decide) _ _ _ rfl (HRow.out.alloc _) ⟨wt.heap.size, 0, none⟩ 1 1 (ndC ((⟨kd, ([] : List Int), txv, nv⟩ : Nd), (none : Option Addr), (0 : Nat))) rfl rfl (cell_four_newS _ _ _ _ _ _ _ _) (by intro u hu; simp [ndC] at hu; rcases hu with rfl | rfl | rfl | rfl <;> rfl) (by unfold maxLen; omega) (by omega) (by simp; omega) ?_)
                          intro v' w3 hown' hgrow _
                          obtain ⟨A', cap', rfl⟩ := own_form hown'
                          have hX1 : X.length + 1 = j + 1 := by omega
                          have hDW2 : DpAt w2.heap.size X (.slice lA j lcap) (wt.setCell ⟨nb, 1, none⟩ (.slice (none : Option Addr) ([] : List Int).length (0 : Nat))) := by have := HDW.out; rw [hXj] at this; exact this
                          have hown2 : w3.ownsRow w2.heap.size 52 4 (.slice A' (j + 1) cap') (X.length + 1) (X.flatMap ndC ++ ndC ((⟨kd, ([] : List Int), txv, nv⟩ : Nd), (none : Option Addr), (0 : Nat))) := by rw [hX1]; exact hown'
                          have hDN : DpAt w2.heap.size (X ++ [((⟨kd, ([] : List Int), txv, nv⟩ : Nd), (none : Option Addr), (0 : Nat))]) (.slice A' (j + 1) cap') w3 := hDW2.snoc (x := ((⟨kd, ([] : List Int), txv, nv⟩ : Nd), (none : Option Addr), (0 : Nat))) (own_base HOF2.out hbC2.size) ⟨htz, hfz⟩ hgrow hown2
                          clear hDW2 hown2
                          have hb32 : Below w2.heap.size w2 w3 := (HB2W.out.alloc (by simp; omega) _).grown hgrow (by simp; omega) (fun k hk => (HRow.out.lt k hk).1)
                          have hb3 : Below w.heap.size w w3 := below_two B2 hb32
                          have HNode : Calls Tryz.prog 43 #[.slice A' (j + 1) cap', .int .i64 (j : Int)] w3 fun e w' => e = .returned (.int .i64 (nodeP (X.map (·.1)) ⟨kd, ([] : List Int), txv, nv⟩ : Nat)) ∧ Below w3.heap.size w3 w' := by
                            have e1 : ((X ++ [((⟨kd, ([] : List Int), txv, nv⟩ : Nd), (none : Option Addr), (0 : Nat))]).map (·.1)).length = j + 1 := by simp [hXj]
                            have hl1 : (X ++ [((⟨kd, ([] : List Int), txv, nv⟩ : Nd), (none : Option Addr), (0 : Nat))]).length = j + 1 := by simp [hXj]
                            have hDN2 := hDN
                            rw [← hl1] at hDN2
                            have h := dnode_any (c := cap') hDN2.nodes.1 j (by rw [e1]; omega) (by rw [e1]; omega)
                            have e2 : nodeP (((X ++ [((⟨kd, ([] : List Int), txv, nv⟩ : Nd), (none : Option Addr), (0 : Nat))]).map (·.1)).take j) (((X ++ [((⟨kd, ([] : List Int), txv, nv⟩ : Nd), (none : Option Addr), (0 : Nat))]).map (·.1))[j]'(by rw [e1]; omega)) = nodeP (X.map (·.1)) ⟨kd, ([] : List Int), txv, nv⟩ := by
                              subst hXj
                              congr 1
                              · simp
                              · simp
                            rw [e2, e1] at h
                            exact h
                          have HDN := Lib.hid hDN
                          have HXm : Hid ((X.map (·.1)).length = j) := by show _ = _; rw [List.length_map]; exact hXj
                          clear hDN hown' hgrow HRow HDW HOF2 HBW
                          by_cases he : nodeP (X.map (·.1)) ⟨kd, ([] : List Int), txv, nv⟩ = 0
                          · have HR2 := Lib.hid (dl_right hrest HOk.out (by rw [HXm.out]; exact h12) he)
                            rw [he] at HNode
                            clear he
                            go_wp2_with (go_at_call 43; refine HNode.mono ?_; rintro e w4 ⟨rfl, b4⟩; refine Hid.out ?_)
                            refine Lib.hid ?_
                            go_wp2_with fail
                            refine ⟨⟨X ++ [((⟨kd, ([] : List Int), txv, nv⟩ : Nd), (none : Option Addr), (0 : Nat))], j + 1, by omega, by go_num, by simp; omega, Lib.hid (HDN.out.call b4), Lib.hid ⟨fun _ => ⟨by simp [hXj], ?_⟩, fun h => by omega⟩, below_two hb32 b4⟩, by simp [intOf]; omega⟩
                            rw [List.map_append, ← HL0.out, HR2.out]; rfl
                          · have HL2 := Lib.hid ((HL0.out).symm.trans (dl_wrong hrest HOk.out (by rw [HXm.out]; exact h12) he))
                            rw [HXm.out] at HL2
                            have hne : (((nodeP (X.map (·.1)) ⟨kd, ([] : List Int), txv, nv⟩ : Nat) : Int) != 0) = true := by simpa using he
                            clear he HL0 HD HDN
                            generalize nodeP (X.map (·.1)) ⟨kd, ([] : List Int), txv, nv⟩ = en at *
                            go_wp2_with (go_at_call 43; refine HNode.mono ?_; rintro e w4 ⟨rfl, b4⟩; refine Hid.out ?_)
                            refine Lib.hid ?_
                            go_wp2_with fail
                            exact bodyPost_ret (v := .tuple #[.slice none 0 0, .int .i64 j, .int .i64 en]) (by simp [results, Tryz.results23, go_sem]) rfl ⟨below_two hb3 b4, by rw [HL2.out]⟩
                    have y3 : (kd != 6) = true := by simpa using hk6
                    by_cases hf1 : ([] : List Int).length = 1
                    · exact absurd hf1 (by decide)
                    · have HL2 := Lib.hid (HS0.out (.inr ⟨hk1e, hk6, hf1⟩))
                      have hf1I : ((([] : List Int).length : Int) != 1) = true := by rw [bne_iff_ne]; omega
                      have HBn := Lib.hid (below_two (below_two hbw bC) hbF)
                      clear HS0 HOk0 HD HL0 hk1e hk6
                      go_wp2_with fail
                      exact bodyPost_ret (v := .tuple #[.slice none 0 0, .int .i64 j, .int .i64 2]) (by simp [results, Tryz.results23, go_sem]) rfl ⟨HBn.out, by rw [HL2.out]; rfl⟩
                · as_aux_lemma =>
                  have HUs : Hid (∀ (u : World), Below wC.heap.size wC u → ∀ (t : Nat) (h : t < ws.length), u.cell? ⟨gw, 1 + t, none⟩ = some (.string (bb ws[t]))) := fun u hu t h => by
                    have h1 := HW.out u hu (1 + t) (by simp; omega)
                    have h2 : (w0 :: ws)[1 + t]'(by simp; omega) = ws[t] := by simp [Nat.add_comm 1 t]
                    rw [h2, Nat.zero_add] at h1; exact h1
                  clear HSp HTn HusD HTv HNo hN hT hC HW
                  generalize kindP w0 = kd at *
                  go_wp2_with (go_at_call 49; refine (cT _).mono ?_; rintro e w' ⟨rfl, rfl⟩; refine Hid.out ?_)
                  refine Lib.hid ?_
                  clear cT
                  go_wp2_with fail
                  clear n0 n1 n2' n3 f0 f1 f2 f3 hnl hbt hbwt
                  obtain ⟨us, rfl⟩ : ∃ us, us = ws := ⟨_, rfl⟩
                  obtain ⟨hkr1, hkr2⟩ := hkr
                  go_loopw [14, 15] (fun v k wr => ∃ (t : Nat) (ns : List Int), t ≤ us.length ∧ k = .int .i64 t ∧ Hid (ns.length = t) ∧ Hid (numsR (us.take t) = some ns) ∧ wr.ownsRow wC.heap.size 3 1 v ns.length (iv ns) ∧ Hid (Nb wr nb kd (.slice none 0 0) txv 0) ∧ Below wC.heap.size wC wr) (fun _ k _ => us.length - (intOf k).toNat)
                  case atStart => exact ⟨0, [], by omega, rfl, Lib.hid rfl, Lib.hid rfl, World.ownsRow_nil _ _ _ _, HN2, HB2.out⟩
                  case round =>
                    obtain ⟨t, ns, ht, rfl, HNl, HNs, hown, HNn, hbn⟩ := hrel
                    have hnlb : ns.length ≤ 100000000 := by have := HNl.out; omega
                    rename World => wn
                    clear HN2 HB2
                    by_cases htl : t < us.length
                    · have htI : (t : Int) < us.length := by omega
                      have hct := HUs.out wn hbn t htl
                      have hsz := HZu.out us[t] (List.getElem_mem htl)
                      have HSm := small2_any (bb us[t]) wn (by rw [bb_size]; exact hsz)
                      rw [show (bb us[t]).data.toList = us[t] from rfl] at HSm
                      cases hnr : numR us[t] with
                      | none =>
                       as_aux_lemma =>
                        have hsv : smV us[t] = -1 := by unfold smV; rw [small_num, hnr]
                        rw [hsv] at HSm
                        have HL2 := Lib.hid (HnoN.out (nums_none htl hnr))
                        have HBn := Lib.hid (below_two (below_two hbw bC) hbn)
                        clear hsv hnr HNs HnoN HnoC HnoS HokD HD HL0
                        generalize bb us[t] = ub at *
                        go_wp2_with (go_at_call 53; refine HSm.mono ?_; rintro e w' ⟨rfl, rfl⟩; refine Hid.out ?_)
                        refine Lib.hid ?_
                        go_wp2_with fail
                        exact bodyPost_ret (v := .tuple #[.slice none 0 0, .int .i64 j, .int .i64 2]) (by simp [results, Tryz.results23, go_sem]) rfl ⟨HBn.out, by rw [HL2.out]; rfl⟩
                      | some n =>
                       as_aux_lemma =>
                        obtain ⟨-, hn0, hn9⟩ := numR_some hnr
                        have hsv : smV us[t] = n := by unfold smV; rw [small_num, hnr]
                        rw [hsv] at HSm
                        have HNs2 := Lib.hid (nums_take htl HNs.out hnr)
                        have hneg : ¬ n < 0 := by omega
                        have hsC := hbn.size
                        clear hsv hnr HNs
                        generalize bb us[t] = ub at *
                        go_wp2_with (go_at_call 53; refine HSm.mono ?_; rintro e w' ⟨rfl, rfl⟩; refine Hid.out ?_)
                        refine Lib.hid ?_
                        go_wp2_with (at_builtin; refine wpList_append_own _ rfl _ _ 41 rfl wC.heap.size 3 i0 (.int .i64 0) 1 8 Tryz.underlying41 hi hz0 hz1 hz2 rfl (by decide) _ _ _ rfl (hown.alloc _) ⟨wn.heap.size, 0, none⟩ 1 1 [.int .i64 n] rfl rfl (cell_one_new _ _ _) (by intro u hu; simp at hu; subst hu; rfl) (by unfold maxLen; omega) (by omega) (by simp; omega) ?_)
                        intro v' w3 hown' hgrow _
                        have hb3 : Below wC.heap.size wC w3 := (hbn.alloc (by omega) _).grown hgrow (by simp; omega) (fun k hk => (hown.lt k hk).1)
                        have ho3 : w3.ownsRow wC.heap.size 3 1 v' (ns ++ [n]).length (iv (ns ++ [n])) := by
                          rw [iv_snoc]; simpa using hown'
                        have HNn3 : Hid (Nb w3 nb kd (.slice none 0 0) txv 0) := by
                          show w3.heap[nb]? = _
                          have hl := HNn.out.lt
                          rw [hgrow.block nb (by simp; omega) (fun e => by
                            obtain ⟨cur, hc⟩ := row_block hown e.symm
                            have h2 : wn.heap[nb]? = _ := HNn.out
                            rw [hc] at h2
                            injection h2 with h2; injection h2 with _ h2
                            revert h2; decide)]
                          exact HNn.out.alloc _
                        clear hown' hgrow hown HNn hbn hsC
                        go_wp2_with fail
                        have HLn2 : Hid ((ns ++ [n]).length = t + 1) := by show _ = _; rw [List.length_append, HNl.out]; rfl
                        first
                          | exact ⟨⟨t + 1, ns ++ [n], by omega, by go_num, HLn2, HNs2, ho3, HNn3, hb3⟩, by simp [intOf]; omega⟩
                          | (refine ⟨?_, by simp [intOf]; omega⟩
                             repeat apply Exists.intro
                             refine ⟨?_, rfl⟩
                             exact ⟨t + 1, ns ++ [n], by omega, by go_num, HLn2, HNs2, ho3, HNn3, hb3⟩)
                    · as_aux_lemma =>
                      obtain rfl : t = us.length := by omega
                      have htI : ¬ ((us.length : Int) < us.length) := by omega
                      have hns := HNs.out
                      rw [List.take_length] at hns
                      have HNa := Lib.hid hns
                      clear hns HNs
                      obtain ⟨vA, vcap, hvv⟩ := own_form hown
                      subst hvv
                      obtain ⟨⟨m0, m1, m2, m3⟩, e0, e1, e2, e3⟩ := HNn.out.cells
                      have hnln := HNn.out.lt
                      have cC := counted_any kd
                      rw [HCf.out] at cC
                      have hnc : ¬ (hasNP kd = true ∧ ns = []) := fun h => by rw [HCf.out] at h; exact absurd h.1 (by decide)
                      have hfd : fsD kd ns = ns := by unfold fsD; rw [HCf.out]; rfl
                      have hnd : nD kd ns = 0 := by unfold nD; rw [HCf.out]; rfl
                      have HS0 := Lib.hid (HnoS.out ns HNa.out hnc)
                      have HOk0 := Lib.hid (HokD.out ns HNa.out hnc)
                      rw [hfd] at HS0 HOk0
                      rw [hnd] at HOk0
                      clear HnoN HnoC HnoS HokD hnc hfd hnd HNa HUs HZu
                      have hfz : ns.length ≤ 100000000 := hnlb
                      clear HNl hnlb
                      generalize us.length = ul at *
                      go_wp2_with (go_at_call 48; refine (cC _).mono ?_; rintro e w' ⟨rfl, rfl⟩; refine Hid.out ?_)
                      refine Lib.hid ?_
                      clear cC
                      obtain ⟨nv, hnv⟩ : ∃ nv : Int, nv = 0 := ⟨_, rfl⟩
                      rw [← hnv] at HOk0 HNn m3
                      have hF := hown
                      have HNF := HNn
                      have hbF := hbn
                      clear hown HNn hbn hnln hnv
                      have hk1e : ¬ kd = 1 := HK1.out
                      have y1 : (kd == 1) = false := by simpa using hk1e
                      have y2 : (kd != 1) = true := by simpa using hk1e
                      by_cases hk6 : kd = 6
                      · have y3 : (kd != 6) = false := by rw [hk6]; rfl
                        have HOk := Lib.hid (HOk0.out (fun h => h.elim (fun p => hk1e p.1) (fun p => p.2.1 hk6)))
                        clear HS0 HOk0 hk6 hk1e
                        as_aux_lemma =>
                          have HBF2 := Lib.hid (hbF.setCell (p := ⟨nb, 1, none⟩) hnbl (.slice vA ns.length vcap))
                          have HOF2 := Lib.hid (show (wn.setCell ⟨nb, 1, none⟩ (.slice vA ns.length vcap)).ownsRow wC.heap.size 3 1 (.slice vA ns.length vcap) ns.length (iv ns) from ownsRow_of_block hF (fun g hg => by
                            have hne : g ≠ nb := fun e => by
                              subst e
                              obtain ⟨cur, hc⟩ := row_block hF hg
                              have h2 : wn.heap[g]? = _ := HNF.out
                              rw [hc] at h2
                              injection h2 with h2; injection h2 with _ h2
                              revert h2; decide
                            exact Below.heap_setCell _ _ _ _ hne))
                          obtain ⟨⟨m0, m1, m2, m3⟩, e0, e1, e2, e3⟩ := HNF.out.cells
                          have hnlF := HNF.out.lt
                          have HBW := Lib.hid (below_two (below_two hbw bC) HBF2.out)
                          by_cases h12 : j = 12
                          · have HL2 : Hid (R = .bad j 4) := by show _ = _; rw [← HL0.out, dl_full hrest HOk.out (by rw [List.length_map, hXj]; exact h12), List.length_map, hXj]
                            have h12I : ((j : Int) == 12) = true := by rw [h12]; rfl
                            clear HOF2 HOk HL0 HD HBF2 HNF hF hbF h12
                            go_wp2_with fail
                            exact bodyPost_ret (v := .tuple #[.slice none 0 0, .int .i64 j, .int .i64 4]) (by simp [results, Tryz.results23, go_sem]) rfl ⟨HBW.out, by rw [HL2.out]; rfl⟩
                          · have h12I : ((j : Int) == 12) = false := by rw [beq_eq_false_iff_ne]; omega
                            have hDW := HD.out.call (below_two bC HBF2.out)
                            have HDW := Lib.hid hDW
                            have hrw := hDW.row
                            rw [hXj] at hrw
                            have HRow := Lib.hid hrw
                            have HB2W := Lib.hid (below_two hbC2 HBF2.out)
                            have hsW : w2.heap.size ≤ wn.heap.size := by have := HB2W.out.size; simp at this; exact this
                            have hj12 : j < 12 := by omega
                            clear hDW hrw HBF2 HNF hF hbF
                            go_wp2_with (at_builtin; refine wpList_append_own _ rfl _ _ 38 rfl w2.heap.size 52 i1 (.agg #[.int .i64 0, .slice none 0 0, .string ⟨#[]⟩, .int .i64 0]) 4 56 Tryz.underlying38 hi1 hy0 hy1 hy2 rfl (by decide) _ _ _ rfl (HRow.out.alloc _) ⟨wn.heap.size, 0, none⟩ 1 1 (ndC ((⟨kd, ns, txv, nv⟩ : Nd), vA, vcap)) rfl rfl (cell_four_newS _ _ _ _ _ _ _ _) (by intro u hu; simp [ndC] at hu; rcases hu with rfl | rfl | rfl | rfl <;> rfl) (by unfold maxLen; omega) (by omega) (by simp; omega) ?_)
                            intro v' w3 hown' hgrow _
                            obtain ⟨A', cap', rfl⟩ := own_form hown'
                            have hX1 : X.length + 1 = j + 1 := by omega
                            have hDW2 : DpAt w2.heap.size X (.slice lA j lcap) (wn.setCell ⟨nb, 1, none⟩ (.slice vA ns.length vcap)) := by have := HDW.out; rw [hXj] at this; exact this
                            have hown2 : w3.ownsRow w2.heap.size 52 4 (.slice A' (j + 1) cap') (X.length + 1) (X.flatMap ndC ++ ndC ((⟨kd, ns, txv, nv⟩ : Nd), vA, vcap)) := by rw [hX1]; exact hown'
                            have hDN : DpAt w2.heap.size (X ++ [((⟨kd, ns, txv, nv⟩ : Nd), vA, vcap)]) (.slice A' (j + 1) cap') w3 := hDW2.snoc (x := ((⟨kd, ns, txv, nv⟩ : Nd), vA, vcap)) (own_base HOF2.out hbC2.size) ⟨htz, hfz⟩ hgrow hown2
                            clear hDW2 hown2
                            have hb32 : Below w2.heap.size w2 w3 := (HB2W.out.alloc (by simp; omega) _).grown hgrow (by simp; omega) (fun k hk => (HRow.out.lt k hk).1)
                            have hb3 : Below w.heap.size w w3 := below_two B2 hb32
                            have HNode : Calls Tryz.prog 43 #[.slice A' (j + 1) cap', .int .i64 (j : Int)] w3 fun e w' => e = .returned (.int .i64 (nodeP (X.map (·.1)) ⟨kd, ns, txv, nv⟩ : Nat)) ∧ Below w3.heap.size w3 w' := by
                              have e1 : ((X ++ [((⟨kd, ns, txv, nv⟩ : Nd), vA, vcap)]).map (·.1)).length = j + 1 := by simp [hXj]
                              have hl1 : (X ++ [((⟨kd, ns, txv, nv⟩ : Nd), vA, vcap)]).length = j + 1 := by simp [hXj]
                              have hDN2 := hDN
                              rw [← hl1] at hDN2
                              have h := dnode_any (c := cap') hDN2.nodes.1 j (by rw [e1]; omega) (by rw [e1]; omega)
                              have e2 : nodeP (((X ++ [((⟨kd, ns, txv, nv⟩ : Nd), vA, vcap)]).map (·.1)).take j) (((X ++ [((⟨kd, ns, txv, nv⟩ : Nd), vA, vcap)]).map (·.1))[j]'(by rw [e1]; omega)) = nodeP (X.map (·.1)) ⟨kd, ns, txv, nv⟩ := by
                                subst hXj
                                congr 1
                                · simp
                                · simp
                              rw [e2, e1] at h
                              exact h
                            have HDN := Lib.hid hDN
                            have HXm : Hid ((X.map (·.1)).length = j) := by show _ = _; rw [List.length_map]; exact hXj
                            clear hDN hown' hgrow HRow HDW HOF2 HBW
                            by_cases he : nodeP (X.map (·.1)) ⟨kd, ns, txv, nv⟩ = 0
                            · have HR2 := Lib.hid (dl_right hrest HOk.out (by rw [HXm.out]; exact h12) he)
                              rw [he] at HNode
                              clear he
                              go_wp2_with (go_at_call 43; refine HNode.mono ?_; rintro e w4 ⟨rfl, b4⟩; refine Hid.out ?_)
                              refine Lib.hid ?_
                              go_wp2_with fail
                              refine ⟨⟨X ++ [((⟨kd, ns, txv, nv⟩ : Nd), vA, vcap)], j + 1, by omega, by go_num, by simp; omega, Lib.hid (HDN.out.call b4), Lib.hid ⟨fun _ => ⟨by simp [hXj], ?_⟩, fun h => by omega⟩, below_two hb32 b4⟩, by simp [intOf]; omega⟩
                              rw [List.map_append, ← HL0.out, HR2.out]; rfl
                            · have HL2 := Lib.hid ((HL0.out).symm.trans (dl_wrong hrest HOk.out (by rw [HXm.out]; exact h12) he))
                              rw [HXm.out] at HL2
                              have hne : (((nodeP (X.map (·.1)) ⟨kd, ns, txv, nv⟩ : Nat) : Int) != 0) = true := by simpa using he
                              clear he HL0 HD HDN
                              generalize nodeP (X.map (·.1)) ⟨kd, ns, txv, nv⟩ = en at *
                              go_wp2_with (go_at_call 43; refine HNode.mono ?_; rintro e w4 ⟨rfl, b4⟩; refine Hid.out ?_)
                              refine Lib.hid ?_
                              go_wp2_with fail
                              exact bodyPost_ret (v := .tuple #[.slice none 0 0, .int .i64 j, .int .i64 en]) (by simp [results, Tryz.results23, go_sem]) rfl ⟨below_two hb3 b4, by rw [HL2.out]⟩
                      have y3 : (kd != 6) = true := by simpa using hk6
                      by_cases hf1 : ns.length = 1
                      · have hf1I : ((ns.length : Int) != 1) = false := by rw [hf1]; rfl
                        have HOk := Lib.hid (HOk0.out (fun h => h.elim (fun p => hk1e p.1) (fun p => p.2.2 hf1)))
                        clear HS0 HOk0 hk6 hk1e hf1
                        as_aux_lemma =>
                          have HBF2 := Lib.hid (hbF.setCell (p := ⟨nb, 1, none⟩) hnbl (.slice vA ns.length vcap))
                          have HOF2 := Lib.hid (show (wn.setCell ⟨nb, 1, none⟩ (.slice vA ns.length vcap)).ownsRow wC.heap.size 3 1 (.slice vA ns.length vcap) ns.length (iv ns) from ownsRow_of_block hF (fun g hg => by
                            have hne : g ≠ nb := fun e => by
                              subst e
                              obtain ⟨cur, hc⟩ := row_block hF hg
                              have h2 : wn.heap[g]? = _ := HNF.out
                              rw [hc] at h2
                              injection h2 with h2; injection h2 with _ h2
                              revert h2; decide
                            exact Below.heap_setCell _ _ _ _ hne))
                          obtain ⟨⟨m0, m1, m2, m3⟩, e0, e1, e2, e3⟩ := HNF.out.cells
                          have hnlF := HNF.out.lt
                          have HBW := Lib.hid (below_two (below_two hbw bC) HBF2.out)
                          by_cases h12 : j = 12
                          · have HL2 : Hid (R = .bad j 4) := by show _ = _; rw [← HL0.out, dl_full hrest HOk.out (by rw [List.length_map, hXj]; exact h12), List.length_map, hXj]
                            have h12I : ((j : Int) == 12) = true := by rw [h12]; rfl
                            clear HOF2 HOk HL0 HD HBF2 HNF hF hbF h12
                            go_wp2_with fail
                            exact bodyPost_ret (v := .tuple #[.slice none 0 0, .int .i64 j, .int .i64 4]) (by simp [results, Tryz.results23, go_sem]) rfl ⟨HBW.out, by rw [HL2.out]; rfl⟩
                          · have h12I : ((j : Int) == 12) = false := by rw [beq_eq_false_iff_ne]; omega
                            have hDW := HD.out.call (below_two bC HBF2.out)
                            have HDW := Lib.hid hDW
                            have hrw := hDW.row
                            rw [hXj] at hrw
                            have HRow := Lib.hid hrw
                            have HB2W := Lib.hid (below_two hbC2 HBF2.out)
                            have hsW : w2.heap.size ≤ wn.heap.size := by have := HB2W.out.size; simp at this; exact this
                            have hj12 : j < 12 := by omega
                            clear hDW hrw HBF2 HNF hF hbF
                            go_wp2_with (at_builtin; refine wpList_append_own _ rfl _ _ 38 rfl w2.heap.size 52 i1 (.agg #[.int .i64 0, .slice none 0 0, .string ⟨#[]⟩, .int .i64 0]) 4 56 Tryz.underlying38 hi1 hy0 hy1 hy2 rfl (by decide) _ _ _ rfl (HRow.out.alloc _) ⟨wn.heap.size, 0, none⟩ 1 1 (ndC ((⟨kd, ns, txv, nv⟩ : Nd), vA, vcap)) rfl rfl (cell_four_newS _ _ _ _ _ _ _ _) (by intro u hu; simp [ndC] at hu; rcases hu with rfl | rfl | rfl | rfl <;> rfl) (by unfold maxLen; omega) (by omega) (by simp; omega) ?_)
                            intro v' w3 hown' hgrow _
                            obtain ⟨A', cap', rfl⟩ := own_form hown'
                            have hX1 : X.length + 1 = j + 1 := by omega
                            have hDW2 : DpAt w2.heap.size X (.slice lA j lcap) (wn.setCell ⟨nb, 1, none⟩ (.slice vA ns.length vcap)) := by have := HDW.out; rw [hXj] at this; exact this
                            have hown2 : w3.ownsRow w2.heap.size 52 4 (.slice A' (j + 1) cap') (X.length + 1) (X.flatMap ndC ++ ndC ((⟨kd, ns, txv, nv⟩ : Nd), vA, vcap)) := by rw [hX1]; exact hown'
                            have hDN : DpAt w2.heap.size (X ++ [((⟨kd, ns, txv, nv⟩ : Nd), vA, vcap)]) (.slice A' (j + 1) cap') w3 := hDW2.snoc (x := ((⟨kd, ns, txv, nv⟩ : Nd), vA, vcap)) (own_base HOF2.out hbC2.size) ⟨htz, hfz⟩ hgrow hown2
                            clear hDW2 hown2
                            have hb32 : Below w2.heap.size w2 w3 := (HB2W.out.alloc (by simp; omega) _).grown hgrow (by simp; omega) (fun k hk => (HRow.out.lt k hk).1)
                            have hb3 : Below w.heap.size w w3 := below_two B2 hb32
                            have HNode : Calls Tryz.prog 43 #[.slice A' (j + 1) cap', .int .i64 (j : Int)] w3 fun e w' => e = .returned (.int .i64 (nodeP (X.map (·.1)) ⟨kd, ns, txv, nv⟩ : Nat)) ∧ Below w3.heap.size w3 w' := by
                              have e1 : ((X ++ [((⟨kd, ns, txv, nv⟩ : Nd), vA, vcap)]).map (·.1)).length = j + 1 := by simp [hXj]
                              have hl1 : (X ++ [((⟨kd, ns, txv, nv⟩ : Nd), vA, vcap)]).length = j + 1 := by simp [hXj]
                              have hDN2 := hDN
                              rw [← hl1] at hDN2
                              have h := dnode_any (c := cap') hDN2.nodes.1 j (by rw [e1]; omega) (by rw [e1]; omega)
                              have e2 : nodeP (((X ++ [((⟨kd, ns, txv, nv⟩ : Nd), vA, vcap)]).map (·.1)).take j) (((X ++ [((⟨kd, ns, txv, nv⟩ : Nd), vA, vcap)]).map (·.1))[j]'(by rw [e1]; omega)) = nodeP (X.map (·.1)) ⟨kd, ns, txv, nv⟩ := by
                                subst hXj
                                congr 1
                                · simp
                                · simp
                              rw [e2, e1] at h
                              exact h
                            have HDN := Lib.hid hDN
                            have HXm : Hid ((X.map (·.1)).length = j) := by show _ = _; rw [List.length_map]; exact hXj
                            clear hDN hown' hgrow HRow HDW HOF2 HBW
                            by_cases he : nodeP (X.map (·.1)) ⟨kd, ns, txv, nv⟩ = 0
                            · have HR2 := Lib.hid (dl_right hrest HOk.out (by rw [HXm.out]; exact h12) he)
                              rw [he] at HNode
                              clear he
                              go_wp2_with (go_at_call 43; refine HNode.mono ?_; rintro e w4 ⟨rfl, b4⟩; refine Hid.out ?_)
                              refine Lib.hid ?_
                              go_wp2_with fail
                              refine ⟨⟨X ++ [((⟨kd, ns, txv, nv⟩ : Nd), vA, vcap)], j + 1, by omega, by go_num, by simp; omega, Lib.hid (HDN.out.call b4), Lib.hid ⟨fun _ => ⟨by simp [hXj], ?_⟩, fun h => by omega⟩, below_two hb32 b4⟩, by simp [intOf]; omega⟩
                              rw [List.map_append, ← HL0.out, HR2.out]; rfl
                            · have HL2 := Lib.hid ((HL0.out).symm.trans (dl_wrong hrest HOk.out (by rw [HXm.out]; exact h12) he))
                              rw [HXm.out] at HL2
                              have hne : (((nodeP (X.map (·.1)) ⟨kd, ns, txv, nv⟩ : Nat) : Int) != 0) = true := by simpa using he
                              clear he HL0 HD HDN
                              generalize nodeP (X.map (·.1)) ⟨kd, ns, txv, nv⟩ = en at *
                              go_wp2_with (go_at_call 43; refine HNode.mono ?_; rintro e w4 ⟨rfl, b4⟩; refine Hid.out ?_)
                              refine Lib.hid ?_
                              go_wp2_with fail
                              exact bodyPost_ret (v := .tuple #[.slice none 0 0, .int .i64 j, .int .i64 en]) (by simp [results, Tryz.results23, go_sem]) rfl ⟨below_two hb3 b4, by rw [HL2.out]⟩
                      · have HL2 := Lib.hid (HS0.out (.inr ⟨hk1e, hk6, hf1⟩))
                        have hf1I : ((ns.length : Int) != 1) = true := by rw [bne_iff_ne]; omega
                        have HBn := Lib.hid (below_two (below_two hbw bC) hbF)
                        clear HS0 HOk0 HD HL0 hk1e hk6
                        go_wp2_with fail
                        exact bodyPost_ret (v := .tuple #[.slice none 0 0, .int .i64 j, .int .i64 2]) (by simp [results, Tryz.results23, go_sem]) rfl ⟨HBn.out, by rw [HL2.out]; rfl⟩
              | true =>
                have HCt : Hid (hasNP (kindP w0) = true) := hC
                have HK6 : Hid (¬ kindP w0 = 6) := fun e => by rw [e] at hC; exact absurd hC (by decide)
                by_cases hcp1 : cpw = 1
                · as_aux_lemma =>
                    have hw0 : ws = [] := List.eq_nil_of_length_eq_zero (by omega)
                    subst hw0
                    subst hcp1
                    have cC := counted_any (kindP w0)
                    rw [hC] at cC
                    have HL2 := Lib.hid (HnoC.out [] rfl hC rfl)
                    clear HSp HTn HusD HTv HNo hN hT hC HW HnoN HnoC HnoS HokD HD HL0 HZu HN2 HB2 hkr HK6 HCt
                    generalize kindP w0 = kd at *
                    simp only [List.length_nil, Nat.zero_add] at *
                    go_wp2_with (go_at_call 49; refine (cT _).mono ?_; rintro e w' ⟨rfl, rfl⟩; refine Hid.out ?_)
                    refine Lib.hid ?_
                    clear cT
                    go_wp2_with fail
                    refine wp_loop_rounds 1 ?_
                    rw [rounds_succ]
                    go_wp2_with (go_at_call 48; refine (cC _).mono ?_; rintro e w' ⟨rfl, rfl⟩; refine Hid.out ?_)
                    refine Lib.hid ?_
                    clear cC
                    go_wp2_with fail
                    exact bodyPost_ret (v := .tuple #[.slice none 0 0, .int .i64 j, .int .i64 2]) (by simp [results, Tryz.results23, go_sem]) rfl ⟨hbwt, by rw [HL2.out]; rfl⟩
                · as_aux_lemma =>
                  have HUs : Hid (∀ (u : World), Below wC.heap.size wC u → ∀ (t : Nat) (h : t < ws.length), u.cell? ⟨gw, 1 + t, none⟩ = some (.string (bb ws[t]))) := fun u hu t h => by
                    have h1 := HW.out u hu (1 + t) (by simp; omega)
                    have h2 : (w0 :: ws)[1 + t]'(by simp; omega) = ws[t] := by simp [Nat.add_comm 1 t]
                    rw [h2, Nat.zero_add] at h1; exact h1
                  clear HSp HTn HusD HTv HNo hN hT hC HW
                  generalize kindP w0 = kd at *
                  go_wp2_with (go_at_call 49; refine (cT _).mono ?_; rintro e w' ⟨rfl, rfl⟩; refine Hid.out ?_)
                  refine Lib.hid ?_
                  clear cT
                  go_wp2_with fail
                  clear n0 n1 n2' n3 f0 f1 f2 f3 hnl hbt hbwt
                  obtain ⟨us, rfl⟩ : ∃ us, us = ws := ⟨_, rfl⟩
                  obtain ⟨hkr1, hkr2⟩ := hkr
                  go_loopw [14, 15] (fun v k wr => ∃ (t : Nat) (ns : List Int), t ≤ us.length ∧ k = .int .i64 t ∧ Hid (ns.length = t) ∧ Hid (numsR (us.take t) = some ns) ∧ wr.ownsRow wC.heap.size 3 1 v ns.length (iv ns) ∧ Hid (Nb wr nb kd (.slice none 0 0) txv 0) ∧ Below wC.heap.size wC wr) (fun _ k _ => us.length - (intOf k).toNat)
                  case atStart => exact ⟨0, [], by omega, rfl, Lib.hid rfl, Lib.hid rfl, World.ownsRow_nil _ _ _ _, HN2, HB2.out⟩
                  case round =>
                    obtain ⟨t, ns, ht, rfl, HNl, HNs, hown, HNn, hbn⟩ := hrel
                    have hnlb : ns.length ≤ 100000000 := by have := HNl.out; omega
                    rename World => wn
                    clear HN2 HB2
                    by_cases htl : t < us.length
                    · have htI : (t : Int) < us.length := by omega
                      have hct := HUs.out wn hbn t htl
                      have hsz := HZu.out us[t] (List.getElem_mem htl)
                      have HSm := small2_any (bb us[t]) wn (by rw [bb_size]; exact hsz)
                      rw [show (bb us[t]).data.toList = us[t] from rfl] at HSm
                      cases hnr : numR us[t] with
                      | none =>
                       as_aux_lemma =>
                        have hsv : smV us[t] = -1 := by unfold smV; rw [small_num, hnr]
                        rw [hsv] at HSm
                        have HL2 := Lib.hid (HnoN.out (nums_none htl hnr))
                        have HBn := Lib.hid (below_two (below_two hbw bC) hbn)
                        clear hsv hnr HNs HnoN HnoC HnoS HokD HD HL0
                        generalize bb us[t] = ub at *
                        go_wp2_with (go_at_call 53; refine HSm.mono ?_; rintro e w' ⟨rfl, rfl⟩; refine Hid.out ?_)
                        refine Lib.hid ?_
                        go_wp2_with fail
                        exact bodyPost_ret (v := .tuple #[.slice none 0 0, .int .i64 j, .int .i64 2]) (by simp [results, Tryz.results23, go_sem]) rfl ⟨HBn.out, by rw [HL2.out]; rfl⟩
                      | some n =>
                       as_aux_lemma =>
                        obtain ⟨-, hn0, hn9⟩ := numR_some hnr
                        have hsv : smV us[t] = n := by unfold smV; rw [small_num, hnr]
                        rw [hsv] at HSm
                        have HNs2 := Lib.hid (nums_take htl HNs.out hnr)
                        have hneg : ¬ n < 0 := by omega
                        have hsC := hbn.size
                        clear hsv hnr HNs
                        generalize bb us[t] = ub at *
                        go_wp2_with (go_at_call 53; refine HSm.mono ?_; rintro e w' ⟨rfl, rfl⟩; refine Hid.out ?_)
                        refine Lib.hid ?_
                        go_wp2_with (at_builtin; refine wpList_append_own _ rfl _ _ 41 rfl wC.heap.size 3 i0 (.int .i64 0) 1 8 Tryz.underlying41 hi hz0 hz1 hz2 rfl (by decide) _ _ _ rfl (hown.alloc _) ⟨wn.heap.size, 0, none⟩ 1 1 [.int .i64 n] rfl rfl (cell_one_new _ _ _) (by intro u hu; simp at hu; subst hu; rfl) (by unfold maxLen; omega) (by omega) (by simp; omega) ?_)
                        intro v' w3 hown' hgrow _
                        have hb3 : Below wC.heap.size wC w3 := (hbn.alloc (by omega) _).grown hgrow (by simp; omega) (fun k hk => (hown.lt k hk).1)
                        have ho3 : w3.ownsRow wC.heap.size 3 1 v' (ns ++ [n]).length (iv (ns ++ [n])) := by
                          rw [iv_snoc]; simpa using hown'
                        have HNn3 : Hid (Nb w3 nb kd (.slice none 0 0) txv 0) := by
                          show w3.heap[nb]? = _
                          have hl := HNn.out.lt
                          rw [hgrow.block nb (by simp; omega) (fun e => by
                            obtain ⟨cur, hc⟩ := row_block hown e.symm
                            have h2 : wn.heap[nb]? = _ := HNn.out
                            rw [hc] at h2
                            injection h2 with h2; injection h2 with _ h2
                            revert h2; decide)]
                          exact HNn.out.alloc _
                        clear hown' hgrow hown HNn hbn hsC
                        go_wp2_with fail
                        have HLn2 : Hid ((ns ++ [n]).length = t + 1) := by show _ = _; rw [List.length_append, HNl.out]; rfl
                        first
                          | exact ⟨⟨t + 1, ns ++ [n], by omega, by go_num, HLn2, HNs2, ho3, HNn3, hb3⟩, by simp [intOf]; omega⟩
                          | (refine ⟨?_, by simp [intOf]; omega⟩
                             repeat apply Exists.intro
                             refine ⟨?_, rfl⟩
                             exact ⟨t + 1, ns ++ [n], by omega, by go_num, HLn2, HNs2, ho3, HNn3, hb3⟩)
                    · as_aux_lemma =>
                      obtain rfl : t = us.length := by omega
                      have htI : ¬ ((us.length : Int) < us.length) := by omega
                      have hns := HNs.out
                      rw [List.take_length] at hns
                      have HNa := Lib.hid hns
                      clear hns HNs
                      obtain ⟨vA, vcap, hvv⟩ := own_form hown
                      subst hvv
                      obtain ⟨⟨m0, m1, m2, m3⟩, e0, e1, e2, e3⟩ := HNn.out.cells
                      have hnln := HNn.out.lt
                      have cC := counted_any kd
                      rw [HCt.out] at cC
                      by_cases hne0 : ns = []
                      · have HL2 := Lib.hid (HnoC.out ns HNa.out HCt.out hne0)
                        have hz : ((ns.length : Int) == 0) = true := by rw [hne0]; rfl
                        have HBn := Lib.hid (below_two (below_two hbw bC) hbn)
                        clear HnoN HnoC HnoS HokD HNa HUs HZu HD HL0 hne0 HNl hnlb hown HNn hbn
                        go_wp2_with (go_at_call 48; refine (cC _).mono ?_; rintro e w' ⟨rfl, rfl⟩; refine Hid.out ?_)
                        refine Lib.hid ?_
                        go_wp2_with fail
                        exact bodyPost_ret (v := .tuple #[.slice none 0 0, .int .i64 j, .int .i64 2]) (by simp [results, Tryz.results23, go_sem]) rfl ⟨HBn.out, by rw [HL2.out]; rfl⟩
                      · obtain ⟨ms, q, hms⟩ : ∃ ms q, ns = ms ++ [q] := ⟨ns.dropLast, ns.getLast hne0, (List.dropLast_concat_getLast hne0).symm⟩
                        have hnc : ¬ (hasNP kd = true ∧ ns = []) := fun h => hne0 h.2
                        have HS0 := Lib.hid (HnoS.out ns HNa.out hnc)
                        have HOk0 := Lib.hid (HokD.out ns HNa.out hnc)
                        rw [show fsD kd ns = ms from by unfold fsD; rw [HCt.out, hms]; simp] at HS0 HOk0
                        rw [show nD kd ns = q from by unfold nD; rw [HCt.out, hms]; simp] at HOk0
                        have hlen : ns.length = ms.length + 1 := by rw [hms]; simp
                        have hfz : ms.length ≤ 100000000 := by omega
                        obtain ⟨g, hg⟩ := own_some hown (by omega)
                        subst hg
                        have hcq : wn.cell? ⟨g, ms.length, none⟩ = some (.int .i64 q) := by
                          rw [hown.cellAt ms.length (by omega), hms]; simp [iv]
                        have hpre : wn.ownsRow wC.heap.size 3 1 (.slice (some ⟨g, 0, none⟩) ms.length vcap) ms.length (iv ms) := by
                          have h := hown
                          rw [hms] at h
                          exact own_pre h rfl (by simp)
                        have hz : (((ms.length + 1 : Nat) : Int) == 0) = false := by rw [beq_eq_false_iff_ne]; omega
                        have hgb : g < wn.heap.size := (hown.lt g rfl).2
                        have hcp9 : ms.length + 1 ≤ vcap := by
                          rcases hown.2 with ⟨h0, -⟩ | ⟨g', cap', cur, h0, -, -, h3, -⟩
                          · simp at h0
                          · simp at h0; omega
                        have hgn : g ≠ nb := fun e => by
                          subst e
                          obtain ⟨cur, hc⟩ := row_block hown rfl
                          have h2 : wn.heap[g]? = _ := HNn.out
                          rw [hc] at h2
                          injection h2 with h2; injection h2 with _ h2
                          revert h2; decide
                        rw [hlen]
                        clear HnoN HnoC HnoS HokD hnc HNa HUs HZu hms hne0 HNl hnlb hown hlen
                        generalize us.length = ul at *
                        go_wp2_with (go_at_call 48; refine (cC _).mono ?_; rintro e w' ⟨rfl, rfl⟩; refine Hid.out ?_)
                        refine Lib.hid ?_
                        clear cC
                        have HNF0 := Lib.hid (HNn.out.put3 q)
                        have HbF0 := Lib.hid (hbn.setCell (p := ⟨nb, 3, none⟩) hnbl (.int .i64 q))
                        have HF0 := Lib.hid (show (wn.setCell ⟨nb, 3, none⟩ (.int .i64 q)).ownsRow wC.heap.size 3 1 (.slice (some ⟨g, 0, none⟩) ms.length vcap) ms.length (iv ms) from ownsRow_of_block hpre (fun k hk => Below.heap_setCell _ _ _ _ (fun e => by
                          simp [Value.ownBlock] at hk; subst hk; exact hgn e)))
                        go_upto_region 39 with fail
                        generalize wn.setCell ⟨nb, 3, none⟩ (.int .i64 q) = wF at *
                        have hF := HF0.out
                        have HNF := HNF0
                        have hbF := HbF0.out
                        clear HNn hbn hnln HNF0 HbF0 HF0 hpre hcq m0 m1 m2 m3 e0 e1 e2 e3 hgn hz
                        obtain ⟨⟨m0, m1, m2, m3⟩, e0, e1, e2, e3⟩ := HNF.out.cells
                        have hnln := HNF.out.lt
                        by_cases hk1e : kd = 1
                        · have y1 : (kd == 1) = true := by rw [hk1e]; rfl
                          have y2 : (kd != 1) = false := by rw [hk1e]; rfl
                          by_cases hf0 : 0 < ms.length
                          · have HL2 := Lib.hid (HS0.out (.inl ⟨hk1e, hf0⟩))
                            have hf0I : (0 : Int) < (ms.length : Int) := by omega
                            have HBn := Lib.hid (below_two (below_two hbw bC) hbF)
                            clear HS0 HOk0 HD HL0 hk1e
                            go_wp2_with fail
                            exact bodyPost_ret (v := .tuple #[.slice none 0 0, .int .i64 j, .int .i64 2]) (by simp [results, Tryz.results23, go_sem]) rfl ⟨HBn.out, by rw [HL2.out]; rfl⟩
                          · have HOk := Lib.hid (HOk0.out (fun h => h.elim (fun p => hf0 p.2) (fun p => p.1 hk1e)))
                            have hf0I : ¬ (0 : Int) < (ms.length : Int) := by omega
                            clear HS0 HOk0 hk1e
                            as_aux_lemma =>
                              have HBF2 := Lib.hid (hbF.setCell (p := ⟨nb, 1, none⟩) hnbl (.slice (some (⟨g, 0, none⟩ : Addr)) ms.length vcap))
                              have HOF2 := Lib.hid (show (wF.setCell ⟨nb, 1, none⟩ (.slice (some (⟨g, 0, none⟩ : Addr)) ms.length vcap)).ownsRow wC.heap.size 3 1 (.slice (some (⟨g, 0, none⟩ : Addr)) ms.length vcap) ms.length (iv ms) from ownsRow_of_block hF (fun g hg => by
                                have hne : g ≠ nb := fun e => by
                                  subst e
                                  obtain ⟨cur, hc⟩ := row_block hF hg
                                  have h2 : wF.heap[g]? = _ := HNF.out
                                  rw [hc] at h2
                                  injection h2 with h2; injection h2 with _ h2
                                  revert h2; decide
                                exact Below.heap_setCell _ _ _ _ hne))
                              obtain ⟨⟨m0, m1, m2, m3⟩, e0, e1, e2, e3⟩ := HNF.out.cells
                              have hnlF := HNF.out.lt
                              have HBW := Lib.hid (below_two (below_two hbw bC) HBF2.out)
                              by_cases h12 : j = 12
                              · have HL2 : Hid (R = .bad j 4) := by show _ = _; rw [← HL0.out, dl_full hrest HOk.out (by rw [List.length_map, hXj]; exact h12), List.length_map, hXj]
                                have h12I : ((j : Int) == 12) = true := by rw [h12]; rfl
                                clear HOF2 HOk HL0 HD HBF2 HNF hF hbF h12
                                go_wp2_with fail
                                exact bodyPost_ret (v := .tuple #[.slice none 0 0, .int .i64 j, .int .i64 4]) (by simp [results, Tryz.results23, go_sem]) rfl ⟨HBW.out, by rw [HL2.out]; rfl⟩
                              · have h12I : ((j : Int) == 12) = false := by rw [beq_eq_false_iff_ne]; omega
                                have hDW := HD.out.call (below_two bC HBF2.out)
                                have HDW := Lib.hid hDW
                                have hrw := hDW.row
                                rw [hXj] at hrw
                                have HRow := Lib.hid hrw
                                have HB2W := Lib.hid (below_two hbC2 HBF2.out)
                                have hsW : w2.heap.size ≤ wF.heap.size := by have := HB2W.out.size; simp at this; exact this
                                have hj12 : j < 12 := by omega
                                clear hDW hrw HBF2 HNF hF hbF
                                go_wp2_with (at_builtin; refine wpList_append_own _ rfl _ _ 38 rfl w2.heap.size 52 i1 (.agg #[.int .i64 0, .slice none 0 0, .string ⟨#[]⟩, .int .i64 0]) 4 56 Tryz.underlying38 hi1 hy0 hy1 hy2 rfl (by decide) _ _ _ rfl (HRow.out.alloc _) ⟨wF.heap.size, 0, none⟩ 1 1 (ndC ((⟨kd, ms, txv, q⟩ : Nd), (some (⟨g, 0, none⟩ : Addr)), vcap)) rfl rfl (cell_four_newS _ _ _ _ _ _ _ _) (by intro u hu; simp [ndC] at hu; rcases hu with rfl | rfl | rfl | rfl <;> rfl) (by unfold maxLen; omega) (by omega) (by simp; omega) ?_)
                                intro v' w3 hown' hgrow _
                                obtain ⟨A', cap', rfl⟩ := own_form hown'
                                have hX1 : X.length + 1 = j + 1 := by omega
                                have hDW2 : DpAt w2.heap.size X (.slice lA j lcap) (wF.setCell ⟨nb, 1, none⟩ (.slice (some (⟨g, 0, none⟩ : Addr)) ms.length vcap)) := by have := HDW.out; rw [hXj] at this; exact this
                                have hown2 : w3.ownsRow w2.heap.size 52 4 (.slice A' (j + 1) cap') (X.length + 1) (X.flatMap ndC ++ ndC ((⟨kd, ms, txv, q⟩ : Nd), (some (⟨g, 0, none⟩ : Addr)), vcap)) := by rw [hX1]; exact hown'
                                have hDN : DpAt w2.heap.size (X ++ [((⟨kd, ms, txv, q⟩ : Nd), (some (⟨g, 0, none⟩ : Addr)), vcap)]) (.slice A' (j + 1) cap') w3 := hDW2.snoc (x := ((⟨kd, ms, txv, q⟩ : Nd), (some (⟨g, 0, none⟩ : Addr)), vcap)) (own_base HOF2.out hbC2.size) ⟨htz, hfz⟩ hgrow hown2
                                clear hDW2 hown2
                                have hb32 : Below w2.heap.size w2 w3 := (HB2W.out.alloc (by simp; omega) _).grown hgrow (by simp; omega) (fun k hk => (HRow.out.lt k hk).1)
                                have hb3 : Below w.heap.size w w3 := below_two B2 hb32
                                have HNode : Calls Tryz.prog 43 #[.slice A' (j + 1) cap', .int .i64 (j : Int)] w3 fun e w' => e = .returned (.int .i64 (nodeP (X.map (·.1)) ⟨kd, ms, txv, q⟩ : Nat)) ∧ Below w3.heap.size w3 w' := by
                                  have e1 : ((X ++ [((⟨kd, ms, txv, q⟩ : Nd), (some (⟨g, 0, none⟩ : Addr)), vcap)]).map (·.1)).length = j + 1 := by simp [hXj]
                                  have hl1 : (X ++ [((⟨kd, ms, txv, q⟩ : Nd), (some (⟨g, 0, none⟩ : Addr)), vcap)]).length = j + 1 := by simp [hXj]
                                  have hDN2 := hDN
                                  rw [← hl1] at hDN2
                                  have h := dnode_any (c := cap') hDN2.nodes.1 j (by rw [e1]; omega) (by rw [e1]; omega)
                                  have e2 : nodeP (((X ++ [((⟨kd, ms, txv, q⟩ : Nd), (some (⟨g, 0, none⟩ : Addr)), vcap)]).map (·.1)).take j) (((X ++ [((⟨kd, ms, txv, q⟩ : Nd), (some (⟨g, 0, none⟩ : Addr)), vcap)]).map (·.1))[j]'(by rw [e1]; omega)) = nodeP (X.map (·.1)) ⟨kd, ms, txv, q⟩ := by
                                    subst hXj
                                    congr 1
                                    · simp
                                    · simp
                                  rw [e2, e1] at h
                                  exact h
                                have HDN := Lib.hid hDN
                                have HXm : Hid ((X.map (·.1)).length = j) := by show _ = _; rw [List.length_map]; exact hXj
                                clear hDN hown' hgrow HRow HDW HOF2 HBW
                                by_cases he : nodeP (X.map (·.1)) ⟨kd, ms, txv, q⟩ = 0
                                · have HR2 := Lib.hid (dl_right hrest HOk.out (by rw [HXm.out]; exact h12) he)
                                  rw [he] at HNode
                                  clear he
                                  go_wp2_with (go_at_call 43; refine HNode.mono ?_; rintro e w4 ⟨rfl, b4⟩; refine Hid.out ?_)
                                  refine Lib.hid ?_
                                  go_wp2_with fail
                                  refine ⟨⟨X ++ [((⟨kd, ms, txv, q⟩ : Nd), (some (⟨g, 0, none⟩ : Addr)), vcap)], j + 1, by omega, by go_num, by simp; omega, Lib.hid (HDN.out.call b4), Lib.hid ⟨fun _ => ⟨by simp [hXj], ?_⟩, fun h => by omega⟩, below_two hb32 b4⟩, by simp [intOf]; omega⟩
                                  rw [List.map_append, ← HL0.out, HR2.out]; rfl
                                · have HL2 := Lib.hid ((HL0.out).symm.trans (dl_wrong hrest HOk.out (by rw [HXm.out]; exact h12) he))
                                  rw [HXm.out] at HL2
                                  have hne : (((nodeP (X.map (·.1)) ⟨kd, ms, txv, q⟩ : Nat) : Int) != 0) = true := by simpa using he
                                  clear he HL0 HD HDN
                                  generalize nodeP (X.map (·.1)) ⟨kd, ms, txv, q⟩ = en at *
                                  go_wp2_with (go_at_call 43; refine HNode.mono ?_; rintro e w4 ⟨rfl, b4⟩; refine Hid.out ?_)
                                  refine Lib.hid ?_
                                  go_wp2_with fail
                                  exact bodyPost_ret (v := .tuple #[.slice none 0 0, .int .i64 j, .int .i64 en]) (by simp [results, Tryz.results23, go_sem]) rfl ⟨below_two hb3 b4, by rw [HL2.out]⟩
                        have y1 : (kd == 1) = false := by simpa using hk1e
                        have y2 : (kd != 1) = true := by simpa using hk1e
                        have hk6 : ¬ kd = 6 := HK6.out
                        have y3 : (kd != 6) = true := by simpa using hk6
                        by_cases hf1 : ms.length = 1
                        · have hf1I : ((ms.length : Int) != 1) = false := by rw [hf1]; rfl
                          have HOk := Lib.hid (HOk0.out (fun h => h.elim (fun p => hk1e p.1) (fun p => p.2.2 hf1)))
                          clear HS0 HOk0 hk6 hk1e hf1
                          as_aux_lemma =>
                            have HBF2 := Lib.hid (hbF.setCell (p := ⟨nb, 1, none⟩) hnbl (.slice (some (⟨g, 0, none⟩ : Addr)) ms.length vcap))
                            have HOF2 := Lib.hid (show (wF.setCell ⟨nb, 1, none⟩ (.slice (some (⟨g, 0, none⟩ : Addr)) ms.length vcap)).ownsRow wC.heap.size 3 1 (.slice (some (⟨g, 0, none⟩ : Addr)) ms.length vcap) ms.length (iv ms) from ownsRow_of_block hF (fun g hg => by
                              have hne : g ≠ nb := fun e => by
                                subst e
                                obtain ⟨cur, hc⟩ := row_block hF hg
                                have h2 : wF.heap[g]? = _ := HNF.out
                                rw [hc] at h2
                                injection h2 with h2; injection h2 with _ h2
                                revert h2; decide
                              exact Below.heap_setCell _ _ _ _ hne))
                            obtain ⟨⟨m0, m1, m2, m3⟩, e0, e1, e2, e3⟩ := HNF.out.cells
                            have hnlF := HNF.out.lt
                            have HBW := Lib.hid (below_two (below_two hbw bC) HBF2.out)
                            by_cases h12 : j = 12
                            · have HL2 : Hid (R = .bad j 4) := by show _ = _; rw [← HL0.out, dl_full hrest HOk.out (by rw [List.length_map, hXj]; exact h12), List.length_map, hXj]
                              have h12I : ((j : Int) == 12) = true := by rw [h12]; rfl
                              clear HOF2 HOk HL0 HD HBF2 HNF hF hbF h12
                              go_wp2_with fail
                              exact bodyPost_ret (v := .tuple #[.slice none 0 0, .int .i64 j, .int .i64 4]) (by simp [results, Tryz.results23, go_sem]) rfl ⟨HBW.out, by rw [HL2.out]; rfl⟩
                            · have h12I : ((j : Int) == 12) = false := by rw [beq_eq_false_iff_ne]; omega
                              have hDW := HD.out.call (below_two bC HBF2.out)
                              have HDW := Lib.hid hDW
                              have hrw := hDW.row
                              rw [hXj] at hrw
                              have HRow := Lib.hid hrw
                              have HB2W := Lib.hid (below_two hbC2 HBF2.out)
                              have hsW : w2.heap.size ≤ wF.heap.size := by have := HB2W.out.size; simp at this; exact this
                              have hj12 : j < 12 := by omega
                              clear hDW hrw HBF2 HNF hF hbF
                              go_wp2_with (at_builtin; refine wpList_append_own _ rfl _ _ 38 rfl w2.heap.size 52 i1 (.agg #[.int .i64 0, .slice none 0 0, .string ⟨#[]⟩, .int .i64 0]) 4 56 Tryz.underlying38 hi1 hy0 hy1 hy2 rfl (by decide) _ _ _ rfl (HRow.out.alloc _) ⟨wF.heap.size, 0, none⟩ 1 1 (ndC ((⟨kd, ms, txv, q⟩ : Nd), (some (⟨g, 0, none⟩ : Addr)), vcap)) rfl rfl (cell_four_newS _ _ _ _ _ _ _ _) (by intro u hu; simp [ndC] at hu; rcases hu with rfl | rfl | rfl | rfl <;> rfl) (by unfold maxLen; omega) (by omega) (by simp; omega) ?_)
                              intro v' w3 hown' hgrow _
                              obtain ⟨A', cap', rfl⟩ := own_form hown'
                              have hX1 : X.length + 1 = j + 1 := by omega
                              have hDW2 : DpAt w2.heap.size X (.slice lA j lcap) (wF.setCell ⟨nb, 1, none⟩ (.slice (some (⟨g, 0, none⟩ : Addr)) ms.length vcap)) := by have := HDW.out; rw [hXj] at this; exact this
                              have hown2 : w3.ownsRow w2.heap.size 52 4 (.slice A' (j + 1) cap') (X.length + 1) (X.flatMap ndC ++ ndC ((⟨kd, ms, txv, q⟩ : Nd), (some (⟨g, 0, none⟩ : Addr)), vcap)) := by rw [hX1]; exact hown'
                              have hDN : DpAt w2.heap.size (X ++ [((⟨kd, ms, txv, q⟩ : Nd), (some (⟨g, 0, none⟩ : Addr)), vcap)]) (.slice A' (j + 1) cap') w3 := hDW2.snoc (x := ((⟨kd, ms, txv, q⟩ : Nd), (some (⟨g, 0, none⟩ : Addr)), vcap)) (own_base HOF2.out hbC2.size) ⟨htz, hfz⟩ hgrow hown2
                              clear hDW2 hown2
                              have hb32 : Below w2.heap.size w2 w3 := (HB2W.out.alloc (by simp; omega) _).grown hgrow (by simp; omega) (fun k hk => (HRow.out.lt k hk).1)
                              have hb3 : Below w.heap.size w w3 := below_two B2 hb32
                              have HNode : Calls Tryz.prog 43 #[.slice A' (j + 1) cap', .int .i64 (j : Int)] w3 fun e w' => e = .returned (.int .i64 (nodeP (X.map (·.1)) ⟨kd, ms, txv, q⟩ : Nat)) ∧ Below w3.heap.size w3 w' := by
                                have e1 : ((X ++ [((⟨kd, ms, txv, q⟩ : Nd), (some (⟨g, 0, none⟩ : Addr)), vcap)]).map (·.1)).length = j + 1 := by simp [hXj]
                                have hl1 : (X ++ [((⟨kd, ms, txv, q⟩ : Nd), (some (⟨g, 0, none⟩ : Addr)), vcap)]).length = j + 1 := by simp [hXj]
                                have hDN2 := hDN
                                rw [← hl1] at hDN2
                                have h := dnode_any (c := cap') hDN2.nodes.1 j (by rw [e1]; omega) (by rw [e1]; omega)
                                have e2 : nodeP (((X ++ [((⟨kd, ms, txv, q⟩ : Nd), (some (⟨g, 0, none⟩ : Addr)), vcap)]).map (·.1)).take j) (((X ++ [((⟨kd, ms, txv, q⟩ : Nd), (some (⟨g, 0, none⟩ : Addr)), vcap)]).map (·.1))[j]'(by rw [e1]; omega)) = nodeP (X.map (·.1)) ⟨kd, ms, txv, q⟩ := by
                                  subst hXj
                                  congr 1
                                  · simp
                                  · simp
                                rw [e2, e1] at h
                                exact h
                              have HDN := Lib.hid hDN
                              have HXm : Hid ((X.map (·.1)).length = j) := by show _ = _; rw [List.length_map]; exact hXj
                              clear hDN hown' hgrow HRow HDW HOF2 HBW
                              by_cases he : nodeP (X.map (·.1)) ⟨kd, ms, txv, q⟩ = 0
                              · have HR2 := Lib.hid (dl_right hrest HOk.out (by rw [HXm.out]; exact h12) he)
                                rw [he] at HNode
                                clear he
                                go_wp2_with (go_at_call 43; refine HNode.mono ?_; rintro e w4 ⟨rfl, b4⟩; refine Hid.out ?_)
                                refine Lib.hid ?_
                                go_wp2_with fail
                                refine ⟨⟨X ++ [((⟨kd, ms, txv, q⟩ : Nd), (some (⟨g, 0, none⟩ : Addr)), vcap)], j + 1, by omega, by go_num, by simp; omega, Lib.hid (HDN.out.call b4), Lib.hid ⟨fun _ => ⟨by simp [hXj], ?_⟩, fun h => by omega⟩, below_two hb32 b4⟩, by simp [intOf]; omega⟩
                                rw [List.map_append, ← HL0.out, HR2.out]; rfl
                              · have HL2 := Lib.hid ((HL0.out).symm.trans (dl_wrong hrest HOk.out (by rw [HXm.out]; exact h12) he))
                                rw [HXm.out] at HL2
                                have hne : (((nodeP (X.map (·.1)) ⟨kd, ms, txv, q⟩ : Nat) : Int) != 0) = true := by simpa using he
                                clear he HL0 HD HDN
                                generalize nodeP (X.map (·.1)) ⟨kd, ms, txv, q⟩ = en at *
                                go_wp2_with (go_at_call 43; refine HNode.mono ?_; rintro e w4 ⟨rfl, b4⟩; refine Hid.out ?_)
                                refine Lib.hid ?_
                                go_wp2_with fail
                                exact bodyPost_ret (v := .tuple #[.slice none 0 0, .int .i64 j, .int .i64 en]) (by simp [results, Tryz.results23, go_sem]) rfl ⟨below_two hb3 b4, by rw [HL2.out]⟩
                        · have HL2 := Lib.hid (HS0.out (.inr ⟨hk1e, hk6, hf1⟩))
                          have hf1I : ((ms.length : Int) != 1) = true := by rw [bne_iff_ne]; omega
                          have HBn := Lib.hid (below_two (below_two hbw bC) hbF)
                          clear HS0 HOk0 HD HL0 hk1e hk6
                          go_wp2_with fail
                          exact bodyPost_ret (v := .tuple #[.slice none 0 0, .int .i64 j, .int .i64 2]) (by simp [results, Tryz.results23, go_sem]) rfl ⟨HBn.out, by rw [HL2.out]; rfl⟩
    · as_aux_lemma =>
      obtain rfl : j = P.length := by omega
      have hjI : ¬ ((P.length : Int) < P.length) := by omega
      have hend := HS.out.2 rfl
      obtain ⟨hnds, hcap⟩ := HD.out.nodes
      have hEn := dends_any (c := lcap) hnds (by rw [List.length_map]; exact hX12)
      rw [List.length_map] at hEn
      unfold endD at hend
      rw [List.length_map] at hend
      have HNd := Lib.hid hnds
      by_cases he : endsP (X.map (·.1)) = 0
      · rw [if_pos he] at hend
        rw [he] at hEn
        have HR2 := Lib.hid hend.symm
        clear hend HS HD hnds he
        go_wp2_with (go_at_call 44; refine hEn.mono ?_; rintro e w' ⟨rfl, rfl⟩; refine Hid.out ?_)
        refine Lib.hid ?_
        go_wp2_with fail
        exact bodyPost_ret (v := .tuple #[.slice lA X.length lcap, .int .i64 0, .int .i64 0]) (by simp [results, Tryz.results23, go_sem]) rfl ⟨hbw, by rw [HR2.out]; exact ⟨lA, lcap, by rw [List.length_map], HNd.out, by rw [List.length_map]; exact hcap⟩⟩
      · rw [if_neg he] at hend
        have hne : (((endsP (X.map (·.1)) : Nat) : Int) != 0) = true := by simpa using he
        have HR2 := Lib.hid hend.symm
        clear hend HS HD hnds he
        generalize endsP (X.map (·.1)) = en at *
        go_wp2_with (go_at_call 44; refine hEn.mono ?_; rintro e w' ⟨rfl, rfl⟩; refine Hid.out ?_)
        refine Lib.hid ?_
        go_wp2_with fail
        exact bodyPost_ret (v := .tuple #[.slice none 0 0, .int .i64 X.length, .int .i64 en]) (by simp [results, Tryz.results23, go_sem]) rfl ⟨hbw, by rw [HR2.out]⟩
end Go.Proofs.YtnapbfilkahobaaGreatDoor
