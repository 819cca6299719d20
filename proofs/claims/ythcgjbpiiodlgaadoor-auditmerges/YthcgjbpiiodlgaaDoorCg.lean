/- AuditMerges. -/
import Derived.Test.YthcgjbpiiodlgaaDoorCf
import Derived.Test.YthcgjbpiiodlgaaDoorCe
import Derived.Test.YthcgjbpiiodlgaaDoorPd
namespace Go.Proofs.YthcgjbpiiodlgaaDoor
open Go.RowKit Mp
set_option linter.unusedVariables false

theorem dm_same {a b : List Ln} (h : bothE a b = 0) : mgE a b = dmE a b ∧ mgV a b = dmV a b := by
  obtain ⟨okA, okB⟩ := both_ok h
  have hf := lines_four (ris_mergeP a b okA.ris okB.ris) (merge_ne a b (fun l hl => (okA.one l hl).1) (fun l hl => (okB.one l hl).1))
  have e1 : mgE a b = linesE (mergeP a b) := by unfold mgE; rw [if_pos h]
  have e2 : mgE a b = dmE a b := by
    rw [e1]; unfold dmE
    rcases hf with h0 | h0
    · rw [if_pos h0, h0]
    · rw [if_neg (by rw [h0]; omega), h0]
  refine ⟨e2, ?_⟩
  unfold mgV dmV
  rw [e1]
theorem mg_no {a b : List Ln} (h : bothE a b ≠ 0) : mgE a b = bothE a b ∧ mgV a b = [] := by
  have e : mgE a b = bothE a b := by unfold mgE; rw [if_neg h]
  exact ⟨e, by unfold mgV; rw [if_neg (by rw [e]; exact h)]⟩
set_option maxRecDepth 100000 in
set_option maxHeartbeats 4000000 in
theorem merges_walk (w : World) (la lb : Option Addr) (c d : Nat) (a b : List Ln) (ha : LnsAt w la a) (hb : LnsAt w lb b) (hl : a.length < 9223372036854775808) (hl2 : b.length < 9223372036854775808) (hg : w.cell? ⟨0, 0, none⟩ = some ET) :
    Calls Tryd.prog 4 #[.slice la a.length c, .slice lb b.length d] w fun e w' => e = .returned (.bool true) ∧ Below w.heap.size w w' := by
  obtain ⟨n, hn⟩ : ∃ n, n = a.length := ⟨_, rfl⟩
  obtain ⟨m, hm⟩ : ∃ m, m = b.length := ⟨_, rfl⟩
  rw [← hn] at hl ⊢
  rw [← hm] at hl2 ⊢
  have HET : Hid (∀ u, Below w.heap.size w u → u.cell? ⟨0, 0, none⟩ = some ET) := fun u hu => et_below hg hu
  have HD1 : Hid (∀ u, Below w.heap.size w u → Calls Tryd.prog 5 #[.slice la n c] u fun e w' => e = .returned (.int .i64 (linesE a : Nat)) ∧ Below u.heap.size u w') := fun u hu => (dcheck_any u la c n a (lns_b ha hu) hn).mono (fun e w' ⟨h1, q, h2⟩ => ⟨h1, by rw [h2]; exact below_dr u q⟩)
  have HD2 : Hid (∀ u, Below w.heap.size w u → Calls Tryd.prog 5 #[.slice lb m d] u fun e w' => e = .returned (.int .i64 (linesE b : Nat)) ∧ Below u.heap.size u w') := fun u hu => (dcheck_any u lb d m b (lns_b hb hu) hm).mono (fun e w' ⟨h1, q, h2⟩ => ⟨h1, by rw [h2]; exact below_dr u q⟩)
  have HM : Hid (∀ u, Below w.heap.size w u → Calls Tryd.prog 11 #[.slice la n c, .slice lb m d] u fun e w' => ∃ A cc, e = .returned (.tuple #[.slice A (mgV a b).length cc, errV (mgE a b)]) ∧ LnsAt w' A (mgV a b) ∧ (mgV a b).length ≤ cc ∧ Below u.heap.size u w') := fun u hu => merge_any u la lb c d n m a b (lns_b ha hu) (lns_b hb hu) hn hm hl hl2
  have HDM : Hid (bothE a b = 0 → ∀ u, Below w.heap.size w u → Calls Tryd.prog 10 #[.slice la n c, .slice lb m d] u fun e w' => ∃ A cc, e = .returned (.tuple #[.slice A (mgV a b).length cc, .int .i64 (mgE a b : Nat)]) ∧ LnsAt w' A (mgV a b) ∧ Below u.heap.size u w') := fun h0 u hu => by
    obtain ⟨okA, okB⟩ := both_ok h0
    obtain ⟨e1, e2⟩ := dm_same h0
    rw [e1, e2]
    exact dmerge_any u la lb c d n m a b (lns_b ha hu) (lns_b hb hu) hn hm okA okB
  have HLS : Hid (∀ u, Below w.heap.size w u → Calls Tryd.prog 14 #[.slice la n c, .slice lb m d] u fun e w' => e = .returned (.tuple #[.int .i64 (lsN a b), errV (lsE a b)]) ∧ Below u.heap.size u w') := fun u hu => less_any u la lb c d n m a b (lns_b ha hu) (lns_b hb hu) hn hm hl hl2
  have HPX : Hid (∀ u, Below w.heap.size w u → Calls Tryd.prog 13 #[.slice lb m d, .slice la n c] u fun e w' => e = .returned (.bool (prefP b a)) ∧ Below u.heap.size u w') := fun u hu => by
    have := rprefix_any (w := u) d c (lns_b hb hu) (by omega) (by omega) (lns_b ha hu)
    rw [← hm, ← hn] at this
    exact this.mono (fun e w' ⟨h1, q, h2⟩ => ⟨h1, by rw [h2]; exact below_dr u q⟩)
  have HSM : Hid (∀ u A A2 c1 c2, LnsAt u A (mgV a b) → LnsAt u A2 (mgV a b) → (mgV a b).length ≤ 9223372036854775807 → Calls Tryd.prog 12 #[.slice A (mgV a b).length c1, .slice A2 (mgV a b).length c2] u fun e w' => e = .returned (.bool true) ∧ Below u.heap.size u w') := fun u A A2 c1 c2 h1 h2 h3 => (lines_same h1 h2 c1 c2 h3).mono (fun e w' ⟨h1, q, h2⟩ => ⟨h1, by rw [h2]; exact below_dr u q⟩)
  have HNO : Hid (bothE a b ≠ 0 → mgE a b = bothE a b ∧ mgV a b = [] ∧ lsE a b = bothE a b ∧ lsN a b = 0) := fun h => by
    have h1 : lsE a b = bothE a b := by unfold lsE; rw [if_neg h]
    exact ⟨(mg_no h).1, (mg_no h).2, h1, by unfold lsN; rw [if_neg (by rw [h1]; exact h)]⟩
  have HYES : Hid (bothE a b = 0 → LOk a ∧ LOk b ∧ (mgV a b).length ≤ 800 ∧ (prefP b a = true → lsE a b = 0 ∧ lsN a b = (manyP a : Int) - (manyP b : Int)) ∧ (prefP b a = false → lsE a b = 7 ∧ lsN a b = 0)) := fun h => by
    obtain ⟨okA, okB⟩ := both_ok h
    refine ⟨okA, okB, ?_, fun h2 => ls_of okA okB h2, fun h2 => ?_⟩
    · have h3 := merge_len a b
      have h4 := okA.len
      have h5 := okB.len
      unfold mgV
      split
      · omega
      · simp
    · have h3 : lsE a b = 7 := by unfold lsE; rw [if_pos h, if_neg (by rw [h2]; simp)]
      exact ⟨h3, by unfold lsN; rw [if_neg (by rw [h3]; omega)]⟩
  have HB0 : Hid (linesE a = 0 → bothE a b = linesE b) := fun h => by unfold bothE; rw [if_pos h]
  have HB1 : Hid (linesE a ≠ 0 → bothE a b = linesE a) := fun h => by unfold bothE; rw [if_neg h]
  have HA := Lib.hid ha
  have HB := Lib.hid hb
  have HN := Lib.hid hn
  have HMm := Lib.hid hm
  clear ha hb hg hn hm
  generalize mgV a b = V at *
  generalize mgE a b = ME at *
  generalize lsE a b = LE at *
  generalize lsN a b = LN at *
  generalize prefP b a = pp at *
  generalize bothE a b = B at *
  generalize linesE a = E at *
  generalize linesE b = F at *
  clear hl hl2
  go_enter Tryd.func4, Tryd.ntmps4
  go_wp2_with fail
  refine (HD1.out w (Below.refl _ _)).mono ?_
  rintro e w1 ⟨rfl, b1⟩
  have B1 := Lib.hid b1
  clear b1 HD1
  by_cases hE : E = 0
  · subst hE
    have hB := HB0.out rfl
    subst hB
    have H3 := Lib.hid (HD2.out w1 B1.out)
    clear HB0 HB1 HD2
    go_wp2_with fail
    refine H3.out.mono ?_
    rintro e w2 ⟨rfl, b2⟩
    have B2 := Lib.hid (below_after b2 B1.out)
    clear b2 B1 H3
    by_cases hF : B = 0
    · subst hF
      obtain ⟨okA, okB, hV, hp1, hp2⟩ := HYES.out rfl
      have OA := Lib.hid okA
      have OB := Lib.hid okB
      have HP1 := Lib.hid hp1
      have HP2 := Lib.hid hp2
      have hn4 : n ≤ 400 := by rw [HN.out]; exact okA.len
      have hm4 : m ≤ 400 := by rw [HMm.out]; exact okB.len
      have H4 := Lib.hid (HDM.out rfl w2 B2.out)
      clear HDM HNO HYES okA okB hp1 hp2
      obtain ⟨v, hv⟩ : ∃ v, v = V.length := ⟨_, rfl⟩
      rw [← hv] at H4 HM HSM hV
      have HV := Lib.hid hv
      clear hv
      go_wp2_with fail
      refine H4.out.mono ?_
      rintro e w3 ⟨A1, c1, rfl, hL1, b3⟩
      have B3 := Lib.hid (below_after b3 B2.out)
      have HL1 := Lib.hid hL1
      have H5 := Lib.hid (HM.out w3 B3.out)
      clear b3 B2 H4 HM hL1
      go_wp2_with fail
      refine H5.out.mono ?_
      rintro e w4 ⟨A2, c2, rfl, hL2, -, b4⟩
      have B4 := Lib.hid (below_after b4 B3.out)
      have HL2 := Lib.hid (And.intro (lns_b HL1.out b4) hL2)
      have H6 := Lib.hid (err_any ME w4 (HET.out w4 B4.out))
      clear b4 B3 H5 HL1 hL2
      go_wp2_with fail
      refine H6.out.mono ?_
      rintro e w5 ⟨rfl, b5⟩
      have B5 := Lib.hid (below_after b5 B4.out)
      have H7 := Lib.hid (HSM.out w5 A2 A1 c2 c1 (lns_b HL2.out.2 b5) (lns_b HL2.out.1 b5) (by omega))
      clear b5 B4 H6 HL2 HSM
      go_wp2_with fail
      refine H7.out.mono ?_
      rintro e w6 ⟨rfl, b6⟩
      have B6 := Lib.hid (below_after b6 B5.out)
      have H8 := Lib.hid (HPX.out w6 B6.out)
      clear b6 B5 H7 HPX
      go_wp2_with fail
      refine H8.out.mono ?_
      rintro e w7 ⟨rfl, b7⟩
      have B7 := Lib.hid (below_after b7 B6.out)
      clear b7 B6 H8
      cases pp with
      | false =>
        obtain ⟨rfl, rfl⟩ := HP2.out rfl
        have H9 := Lib.hid (HLS.out w7 B7.out)
        clear HLS HP1 HP2
        go_wp2_with fail
        refine H9.out.mono ?_
        rintro e w8 ⟨rfl, b8⟩
        have B8 := Lib.hid (below_after b8 B7.out)
        have H10 := Lib.hid (err_any 7 w8 (HET.out w8 B8.out))
        clear b8 B7 H9
        go_wp2_with fail
        refine H10.out.mono ?_
        rintro e w9 ⟨rfl, b9⟩
        have B9 := Lib.hid (below_after b9 B8.out)
        clear b9 B8 H10
        go_wp2_with fail
        go_ret
        exact ⟨rfl, B9.out⟩
      | true =>
        obtain ⟨hle, hln⟩ := HP1.out rfl
        subst hle
        have HLN := Lib.hid hln
        clear hln HP1 HP2
        have S0 : Hid (manyP (a.take 0) = 0) := by show _ = _; simp [manyP]
        have T0 : Hid (manyP (b.take 0) = 0) := by show _ = _; simp [manyP]
        obtain ⟨x, hx⟩ : ∃ x, manyP a = x := ⟨_, rfl⟩
        have hx4 : x ≤ 160000 := by rw [← hx]; exact many_bd OA.out
        have HX := Lib.hid hx
        clear hx
        go_upto_block 0 with fail
        go_cut [12] (fun v wc => v = .int .i64 (x : Int) ∧ Hid (Below w.heap.size w wc))
        case first =>
          clear HLS HLN
          go_wp2_with fail
          go_loopw [12, 14] (fun vn vi wr => ∃ i y : Nat, vi = .int .i64 (i : Int) ∧ i ≤ n ∧ vn = .int .i64 (y : Int) ∧ Hid (manyP (a.take i) = y) ∧ Hid (Below w.heap.size w wr)) (fun _ vi _ => n - (intOf vi).toNat)
          case atStart => exact ⟨0, 0, rfl, by omega, rfl, S0, B7⟩
          case round =>
            obtain ⟨i, y, rfl, hi, rfl, hY, hB⟩ := hrel
            by_cases hlt : i < n
            · have hii : (i : Int) < (n : Int) := by omega
              have i1 : i < a.length := by have := HN.out; omega
              obtain ⟨b1, o1, fa, fc, rfl, c0, c1', hIa, j5, j6, j7⟩ := ln_at (lns_b HA.out hB.out) i i1
              have hs := many_snoc a i i1
              have hle := many_le a i (by omega) (fun l hl => (OA.out.one l hl).2)
              have hp4 := (OA.out.one _ (List.getElem_mem i1)).2
              rw [hY.out] at hs hle
              have HS := Lib.hid hs
              clear hs hIa hY
              generalize a[i].2.length = p at *
              go_wp2_with fail
              exact ⟨⟨i + 1, y + p, by go_num, by omega, by go_num, HS, hB⟩, by simp [intOf]; omega⟩
            · have hii : ¬ (i : Int) < (n : Int) := by omega
              have HE : Hid (y = x) := by
                show y = x
                rw [← hY.out, ← HX.out, List.take_of_length_le (by have := HN.out; omega)]
              clear hY
              go_wp2_with fail
              go_meet
              exact ⟨by rw [HE.out], hB⟩
        case rest =>
        obtain ⟨rfl, hB8⟩ := hcut
        rename World => w8
        obtain ⟨z, hz⟩ : ∃ z, manyP b = z := ⟨_, rfl⟩
        have hz4 : z ≤ 160000 := by rw [← hz]; exact many_bd OB.out
        have HZ := Lib.hid hz
        have hln := HLN.out
        rw [HX.out, hz] at hln
        have HLN2 := Lib.hid hln
        clear hz hln HLN B7
        go_upto_block 2 with fail
        go_cut [12] (fun v wc => v = .int .i64 ((x : Int) - (z : Int)) ∧ Hid (Below w.heap.size w wc))
        case first =>
          clear HLS HLN2
          go_wp2_with fail
          go_loopw [12, 15] (fun vn vi wr => ∃ i y : Nat, vi = .int .i64 (i : Int) ∧ i ≤ m ∧ vn = .int .i64 ((x : Int) - (y : Int)) ∧ Hid (manyP (b.take i) = y) ∧ Hid (Below w.heap.size w wr)) (fun _ vi _ => m - (intOf vi).toNat)
          case atStart => exact ⟨0, 0, rfl, by omega, by simp, T0, hB8⟩
          case round =>
            obtain ⟨i, y, rfl, hi, rfl, hY, hB⟩ := hrel
            by_cases hlt : i < m
            · have hii : (i : Int) < (m : Int) := by omega
              have i1 : i < b.length := by have := HMm.out; omega
              obtain ⟨b1, o1, fa, fc, rfl, c0, c1', hIa, j5, j6, j7⟩ := ln_at (lns_b HB.out hB.out) i i1
              have hs := many_snoc b i i1
              have hle := many_le b i (by omega) (fun l hl => (OB.out.one l hl).2)
              have hp4 := (OB.out.one _ (List.getElem_mem i1)).2
              rw [hY.out] at hs hle
              have HS := Lib.hid hs
              clear hs hIa hY
              generalize b[i].2.length = p at *
              have hsub : IntKind.i64.wrap ((x : Int) - (y : Int) - (p : Int)) = (x : Int) - ((y + p : Nat) : Int) := by simp [IntKind.wrap, IntKind.bits, IntKind.signed]; omega
              go_wp2_with fail
              exact ⟨⟨i + 1, y + p, by go_num, by omega, rfl, HS, hB⟩, by simp [intOf]; omega⟩
            · have hii : ¬ (i : Int) < (m : Int) := by omega
              have HE : Hid (y = z) := by
                show y = z
                rw [← hY.out, ← HZ.out, List.take_of_length_le (by have := HMm.out; omega)]
              clear hY
              go_wp2_with fail
              go_meet
              exact ⟨by rw [HE.out], hB⟩
        case rest =>
        obtain ⟨rfl, hB9⟩ := hcut
        rename World => w9
        have H9 := HLS.out w9 hB9.out
        rw [HLN2.out] at H9
        have H9' := Lib.hid H9
        clear HLS HLN2 H9 hB8 HX HZ
        go_wp2_with fail
        refine H9'.out.mono ?_
        rintro e w10 ⟨rfl, b8⟩
        have B8 := Lib.hid (below_after b8 hB9.out)
        have H10 := Lib.hid (err_any 0 w10 (HET.out w10 B8.out))
        clear b8 hB9 H9'
        go_wp2_with fail
        refine H10.out.mono ?_
        rintro e w11 ⟨rfl, b9⟩
        have B9 := Lib.hid (below_after b9 B8.out)
        clear b9 B8 H10
        have t1 : (((x : Int) - (z : Int)) == ((x : Int) - (z : Int))) = true := by simp
        go_wp2_with fail
        go_ret
        exact ⟨rfl, B9.out⟩
    · obtain ⟨rfl, rfl, rfl, rfl⟩ := HNO.out hF
      have hF2 : ((LE : Int) == 0) = false := by simp; omega
      have H5 := Lib.hid (HM.out w2 B2.out)
      clear HDM HNO HYES HM HPX
      go_wp2_with fail
      refine H5.out.mono ?_
      rintro e w4 ⟨A2, c2, rfl, hL2, -, b4⟩
      have B4 := Lib.hid (below_after b4 B2.out)
      have H6 := Lib.hid (err_any LE w4 (HET.out w4 B4.out))
      clear b4 B2 H5 hL2
      go_wp2_with fail
      refine H6.out.mono ?_
      rintro e w5 ⟨rfl, b5⟩
      have B5 := Lib.hid (below_after b5 B4.out)
      have H7 := Lib.hid (HSM.out w5 A2 none c2 0 (.inl rfl) (.inl rfl) (by simp))
      clear b5 B4 H6 HSM
      go_wp2_with fail
      refine H7.out.mono ?_
      rintro e w6 ⟨rfl, b6⟩
      have B6 := Lib.hid (below_after b6 B5.out)
      have H9 := Lib.hid (HLS.out w6 B6.out)
      clear b6 B5 H7 HLS
      go_wp2_with fail
      refine H9.out.mono ?_
      rintro e w8 ⟨rfl, b8⟩
      have B8 := Lib.hid (below_after b8 B6.out)
      have H10 := Lib.hid (err_any LE w8 (HET.out w8 B8.out))
      clear b8 B6 H9
      go_wp2_with fail
      refine H10.out.mono ?_
      rintro e w9 ⟨rfl, b9⟩
      have B9 := Lib.hid (below_after b9 B8.out)
      clear b9 B8 H10
      go_wp2_with fail
      go_ret
      exact ⟨rfl, B9.out⟩
  · have hB := HB1.out hE
    subst hB
    obtain ⟨rfl, rfl, rfl, rfl⟩ := HNO.out hE
    have hF2 : ((LE : Int) == 0) = false := by simp; omega
    have H5 := Lib.hid (HM.out w1 B1.out)
    clear HDM HNO HYES HM HPX HB0 HB1 HD2
    go_wp2_with fail
    refine H5.out.mono ?_
    rintro e w4 ⟨A2, c2, rfl, hL2, -, b4⟩
    have B4 := Lib.hid (below_after b4 B1.out)
    have H6 := Lib.hid (err_any LE w4 (HET.out w4 B4.out))
    clear b4 B1 H5 hL2
    go_wp2_with fail
    refine H6.out.mono ?_
    rintro e w5 ⟨rfl, b5⟩
    have B5 := Lib.hid (below_after b5 B4.out)
    have H7 := Lib.hid (HSM.out w5 A2 none c2 0 (.inl rfl) (.inl rfl) (by simp))
    clear b5 B4 H6 HSM
    go_wp2_with fail
    refine H7.out.mono ?_
    rintro e w6 ⟨rfl, b6⟩
    have B6 := Lib.hid (below_after b6 B5.out)
    have H9 := Lib.hid (HLS.out w6 B6.out)
    clear b6 B5 H7 HLS
    go_wp2_with fail
    refine H9.out.mono ?_
    rintro e w8 ⟨rfl, b8⟩
    have B8 := Lib.hid (below_after b8 B6.out)
    have H10 := Lib.hid (err_any LE w8 (HET.out w8 B8.out))
    clear b8 B6 H9
    go_wp2_with fail
    refine H10.out.mono ?_
    rintro e w9 ⟨rfl, b9⟩
    have B9 := Lib.hid (below_after b9 B8.out)
    clear b9 B8 H10
    go_wp2_with fail
    go_ret
    exact ⟨rfl, B9.out⟩
end Go.Proofs.YthcgjbpiiodlgaaDoor
