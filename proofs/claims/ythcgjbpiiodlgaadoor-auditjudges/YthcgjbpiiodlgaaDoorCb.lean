/- The document's Lines. -/
import Derived.Test.YthcgjbpiiodlgaaDoorCa
namespace Go.Proofs.YthcgjbpiiodlgaaDoor
open Go.RowKit Mp
set_option linter.unusedVariables false

theorem run_geq (a b : ByteArray) (bb : Bool) (h : (!Op.bytesLess a.toList b.toList) = bb) (u : World) : (Go.binOp BinOp.geq 9 (.string a) (.string b)).run Tryd.prog u = .ok (.bool bb) u := by
  simp [Go.binOp, go_sem, Op.stringOp, ← h]
set_option maxRecDepth 100000 in
set_option maxHeartbeats 2000000 in
theorem dcheck_any (w : World) (la : Option Addr) (c n : Nat) (L : List Ln) (h : LnsAt w la L) (hn : n = L.length) :
    Calls Tryd.prog 5 #[.slice la n c] w fun e w' => e = .returned (.int .i64 (linesE L : Nat)) ∧ ∃ q, w' = w.drewN q := by
  have H := Lib.hid h
  have HN := Lib.hid hn
  clear h hn
  by_cases h4 : 400 < n
  · have HE : Hid (linesE L = 4) := by show _ = _; unfold linesE; rw [if_pos (by have := HN.out; omega)]
    have i1 : (n : Int) > 400 := by omega
    go_enter Tryd.func5, Tryd.ntmps5
    go_wp2_with fail
    go_ret
    exact ⟨by rw [HE.out]; rfl, 0, rfl⟩
  · have i1 : ¬ (n : Int) > 400 := by omega
    generalize hr : linesE L = r
    have HR : Hid (lineE none L = r) := by
      show _ = _
      rw [← hr]; unfold linesE; rw [if_neg (by have := HN.out; omega)]
    clear hr
    go_enter Tryd.func5, Tryd.ntmps5
    go_wp2_with fail
    go_loopw [3] (fun vi wr => ∃ k : Nat, vi = .int .i64 (k : Int) ∧ k ≤ n ∧ Hid (∃ q, wr = w.drewN q) ∧ Hid (lineE (prv L k) (L.drop k) = r)) (fun vi _ => n - (intOf vi).toNat)
    case atStart => exact ⟨0, rfl, by omega, ⟨0, rfl⟩, by show _ = _; rw [List.drop_zero]; exact HR.out⟩
    case round =>
      obtain ⟨k, rfl, hk, hB, hI⟩ := hrel
      obtain ⟨q0, rfl⟩ := hB.out
      by_cases hlt : k < n
      · have hi : (k : Int) < (n : Int) := by omega
        have k1 : k < L.length := by have := HN.out; omega
        obtain ⟨b, o, fa, fc, rfl, c0, c1, hI2, h5, h6, h7⟩ := ln_at (lns_b H.out (below_dr w q0)) k k1
        have hd := List.drop_eq_getElem_cons k1
        have hI3 := hI.out
        rw [hd, lineE_cons] at hI3
        have HI3 := Lib.hid hI3
        have hpv := prv_succ L k k1
        have HPV := Lib.hid hpv
        clear hI3 hd hI hpv hI2
        have HQ : Hid (∀ m, ∃ q, (w.drewN q0).drewN m = w.drewN q) := fun m => ⟨q0 + m, by simp⟩
        have HLn : Hid (LnsAt (w.drewN q0) (some ⟨b, o, none⟩) L) := lns_b H.out (below_dr w q0)
        have hsz : L[k].2.length = 0 → L[k].2 = [] := List.eq_nil_of_length_eq_zero
        have HZ1 := Lib.hid hsz
        clear hsz
        by_cases h1 : 400 < L[k].2.length
        · have HE : Hid (r = 4) := by
            show _ = _
            rw [← HI3.out, if_pos h1]
          obtain ⟨q9, hq9⟩ := HQ.out 0
          have HQ9 := Lib.hid hq9
          generalize L[k].2.length = m at *
          generalize L[k].1 = key at *
          have i2 : (m : Int) > 400 := by omega
          clear HI3 HPV HLn hq9
          generalize hw : w.drewN q0 = wr at *
          go_wp2_with fail
          go_ret
          exact ⟨by rw [HE.out]; rfl, q0, hw.symm⟩
        · have HI4 := Lib.hid (HI3.out.symm.trans (if_neg h1))
          clear HI3
          obtain ⟨bb, HBB⟩ : ∃ bb : Bool, Hid (bb = true ↔ ∃ q, prv L k = some q ∧ ¬ kb q < kb L[k].1) := ⟨@decide (∃ q, prv L k = some q ∧ ¬ kb q < kb L[k].1) (Classical.propDecidable _), by show _ ↔ _; exact @decide_eq_true_iff _ (Classical.propDecidable _)⟩
          have hpj : ∀ j (hj : j < L.length), k = j + 1 → prv L k = some L[j].1 := fun j hj e => by subst e; exact prv_succ L j hj
          have hp0 : k = 0 → prv L k = none := fun e => by subst e; rfl
          have HPJ := Lib.hid hpj
          have HP0 := Lib.hid hp0
          clear hpj hp0
          have hm1 : ¬ ((L[k].2.length : Int) > 400) := by omega
          have HI5 : Hid (r = if bb = true then 5 else if L[k].2 = [] then 3 else lineE (some L[k].1) (L.drop (k + 1))) := by
            show _ = _
            rw [HI4.out]
            by_cases e : ∃ q, prv L k = some q ∧ ¬ kb q < kb L[k].1
            · rw [if_pos e, if_pos (HBB.out.2 e)]
            · rw [if_neg e, if_neg (fun h => e (HBB.out.1 h))]
          clear HI4
          generalize hX : L[k].2 = X at *
          generalize hK : L[k].1 = key at *
          have HK := Lib.hid hK
          clear hX hK
          generalize hwr : w.drewN q0 = wr at *
          clear hwr
          go_upto_region 8 with fail
          go_cut [35] (fun v wc => v = .bool bb ∧ ∃ q, wc = wr.drewN q)
          case first =>
            by_cases h0 : 0 < k
            · obtain ⟨j, rfl⟩ : ∃ j, k = j + 1 := ⟨k - 1, by omega⟩
              have hj : j < L.length := by omega
              obtain ⟨b', o', fa', fc', e, c0', -, -, -, -, h7'⟩ := ln_at HLn.out j hj
              injection e with e
              injection e with e1 e2 _
              subst e1; subst e2
              have hpj := HPJ.out j hj rfl
              have hbb : bb = true ↔ ¬ kb L[j].1 < kb key := by
                rw [HBB.out, hpj]
                constructor
                · rintro ⟨q, e1, e2⟩
                  injection e1 with e1
                  rw [e1]; exact e2
                · intro e; exact ⟨_, rfl, e⟩
              have HB3 := Lib.hid hbb
              have t0 : decide (0 < ((j + 1 : Nat) : Int)) = true := by simp
              have i9 : IntKind.i64.wrap (j : Int) = (j : Int) := by simp [IntKind.wrap, IntKind.bits, IntKind.signed]; omega
              have i8 : (j : Int) < (n : Int) := by omega
              clear hpj hbb HPJ HP0 HBB HI5 HPV HZ1
              generalize (L[j]).1 = keyj at *
              clear HLn H c1
              have hgq := run_geq keyj key bb (by
                cases bb with
                | true => rw [less_no (HB3.out.1 rfl)]; rfl
                | false => rw [less_yes (Decidable.byContradiction fun h => by have := HB3.out.2 h; cases this)]; rfl)
              clear HB3
              go_quiet (fail)
              go_wp2_with fail
              go_meet
              exact ⟨rfl, _, rfl⟩
            · obtain rfl : bb = false := by
                cases bb with
                | false => rfl
                | true =>
                  obtain ⟨q, e1, _⟩ := HBB.out.1 rfl
                  rw [HP0.out (by omega)] at e1; cases e1
              have t0 : decide (0 < (k : Int)) = false := by simp; omega
              have t0' : decide (0 < k) = false := by simp; omega
              clear HPJ HP0 HBB HI5 HPV HZ1 c0 c1 H h0
              go_quiet (fail)
              go_wp2_with fail
              go_meet
              exact ⟨rfl, _, rfl⟩
          case rest =>
            obtain ⟨rfl, q, rfl⟩ := hcut
            have HI6 : Hid (X ≠ [] → bb = false → lineE (prv L (k + 1)) (L.drop (k + 1)) = r) := fun e1 e2 => by
              rw [HPV.out, HI5.out, if_neg (by rw [e2]; simp), if_neg e1]
            have HI7 : Hid (X = [] → bb = false → r = 3) := fun e1 e2 => by
              rw [HI5.out, if_neg (by rw [e2]; simp), if_pos e1]
            have HI8 : Hid (bb = true → r = 5) := fun e2 => by rw [HI5.out, if_pos e2]
            have c2 : (wr.drewN q).cell? ⟨b, o + k * 2 + 1, none⟩ = some (.slice fa X.length fc) := c1
            obtain ⟨q9, hq9⟩ := HQ.out q
            have HQ9 : Hid (∃ q1, wr.drewN q = w.drewN q1) := ⟨q9, hq9⟩
            have HQ8 := Lib.hid hq9
            clear HI5 HPJ HP0 HBB c0 c1 HPV HLn hq9 HQ
            cases bb with
            | true =>
              have HE := Lib.hid (HI8.out rfl)
              clear HI6 HI7 HI8
              go_wp2_with fail
              go_ret
              exact ⟨by rw [HE.out]; rfl, q9, HQ8.out⟩
            | false =>
              by_cases hx : X = []
              · have HE := Lib.hid (HI7.out hx rfl)
                subst hx
                clear HI6 HI7 HI8
                have t3 : (((([] : List Int).length : Nat) : Int) == 0) = true := by simp
                go_wp2_with fail
                go_ret
                exact ⟨by rw [HE.out]; rfl, q9, HQ8.out⟩
              · have HE := Lib.hid (HI6.out hx rfl)
                have hx0 : X.length ≠ 0 := fun e => hx (List.eq_nil_of_length_eq_zero e)
                clear hx HI6 HI7 HI8 HZ1
                generalize X.length = m at *
                have t3 : ((m : Int) == 0) = false := by simp; omega
                clear hx0
                have HQ7 : Hid (∃ q1, wr.drewN q = w.drewN q1) := ⟨q9, HQ8.out⟩
                go_wp2_with fail
                exact ⟨⟨k + 1, by go_num, by omega, HQ7, HE⟩, by simp [intOf]; omega⟩
      · have hi : ¬ (k : Int) < (n : Int) := by omega
        have HE : Hid (r = 0) := by
          show _ = _
          rw [← hI.out, List.drop_of_length_le (by have := HN.out; omega)]; rfl
        go_wp2_with fail
        go_ret
        exact ⟨by rw [HE.out]; rfl, q0, rfl⟩
end Go.Proofs.YthcgjbpiiodlgaaDoor
