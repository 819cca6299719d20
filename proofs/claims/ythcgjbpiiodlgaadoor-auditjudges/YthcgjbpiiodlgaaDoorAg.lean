/- Check. -/
import Derived.Test.YthcgjbpiiodlgaaDoorAf
namespace Go.Proofs.YthcgjbpiiodlgaaDoor
open Go.RowKit Mp
set_option linter.unusedVariables false

theorem less_yes {a b : ByteArray} (h : kb a < kb b) : Op.bytesLess a.toList b.toList = true := by rw [bytesLess_eq, Lib.toList_data, Lib.toList_data]; exact decide_eq_true h
theorem less_no {a b : ByteArray} (h : ¬ kb a < kb b) : Op.bytesLess a.toList b.toList = false := by rw [bytesLess_eq, Lib.toList_data, Lib.toList_data]; exact decide_eq_false h
theorem eq_no {a b : ByteArray} (h : a ≠ b) : (a.toList == b.toList) = false := by
  rw [Lib.toList_data, Lib.toList_data]
  cases e : a.data.toList == b.data.toList with
  | false => rfl
  | true => exact absurd (kb_inj (eq_of_beq e)) h
theorem run_leq (key keyj : ByteArray) (bb : Bool) (h : (Op.bytesLess key.toList keyj.toList || key.toList == keyj.toList) = bb) (u : World) : (Go.binOp BinOp.leq 9 (.string key) (.string keyj)).run Tryd.prog u = .ok (.bool bb) u := by
  simp [Go.binOp, go_sem, Op.stringOp, ← h]
def prv (L : List Ln) (k : Nat) : Option ByteArray := if k = 0 then none else (L[k - 1]?).map (·.1)
theorem prv_succ (L : List Ln) (k : Nat) (h : k < L.length) : prv L (k + 1) = some L[k].1 := by simp [prv, h]
theorem lineE_cons (p : Option ByteArray) (l : Ln) (L : List Ln) : lineE p (l :: L) = if 400 < l.2.length then 4 else if (∃ k, p = some k ∧ ¬ kb k < kb l.1) then 5 else if l.2 = [] then 3 else lineE (some l.1) L := rfl
set_option maxRecDepth 100000 in
set_option maxHeartbeats 2000000 in
theorem check_any (w : World) (la : Option Addr) (c n : Nat) (L : List Ln) (h : LnsAt w la L) (hn : n = L.length) (hl : n < 9223372036854775808) :
    Calls Tryd.prog 7 #[.slice la n c] w fun e w' => e = .returned (errV (linesE L)) ∧ Below w.heap.size w w' := by
  have H := Lib.hid h
  have HN := Lib.hid hn
  clear h hn
  by_cases h4 : 400 < n
  · have HE : Hid (linesE L = 4) := by show _ = _; unfold linesE; rw [if_pos (by have := HN.out; omega)]
    have i1 : (n : Int) > 400 := by omega
    go_enter Tryd.func7, Tryd.ntmps7
    go_wp2_with fail
    go_ret
    exact ⟨by rw [HE.out]; rfl, Below.refl _ _⟩
  · have i1 : ¬ (n : Int) > 400 := by omega
    generalize hr : linesE L = r
    have HR : Hid (lineE none L = r) := by
      show _ = _
      rw [← hr]; unfold linesE; rw [if_neg (by have := HN.out; omega)]
    clear hr
    go_enter Tryd.func7, Tryd.ntmps7
    go_wp2_with fail
    go_loopw [3, 4, 11] (fun _ _ vi wr => ∃ k : Nat, vi = .int .i64 (k : Int) ∧ k ≤ n ∧ Hid (Below w.heap.size w wr) ∧ Hid (lineE (prv L k) (L.drop k) = r)) (fun _ _ vi _ => n - (intOf vi).toNat)
    case atStart => exact ⟨0, rfl, by omega, Below.refl _ _, by show _ = _; rw [List.drop_zero]; exact HR.out⟩
    case round =>
      obtain ⟨k, rfl, hk, hB, hI⟩ := hrel
      by_cases hlt : k < n
      · have hi : (k : Int) < (n : Int) := by omega
        have k1 : k < L.length := by have := HN.out; omega
        obtain ⟨b, o, fa, fc, rfl, c0, c1, hI2, h5, h6, h7⟩ := ln_at (lns_b H.out hB.out) k k1
        have hd := List.drop_eq_getElem_cons k1
        have hI3 := hI.out
        rw [hd, lineE_cons] at hI3
        have HI3 := Lib.hid hI3
        have hpv := prv_succ L k k1
        have HPV := Lib.hid hpv
        clear hI3 hd hI hpv
        have HB2 : Hid (Below w.heap.size w (wr.alloc (.cells #[.string L[k].1, .slice fa L[k].2.length fc] 39))) := hB.out.alloc hB.out.size _
        have hsz : L[k].2.length = 0 → L[k].2 = [] := List.eq_nil_of_length_eq_zero
        have hsz2 : L[k].2.length ≠ 0 → L[k].2 ≠ [] := fun e1 e2 => e1 (by rw [e2]; rfl)
        have HZ1 := Lib.hid hsz
        have HZ2 := Lib.hid hsz2
        clear hsz hsz2
        by_cases h1 : 400 < L[k].2.length
        · have HE : Hid (r = 4) := by
            show _ = _
            rw [← HI3.out, if_pos h1]
          generalize L[k].2.length = m at *
          generalize L[k].1 = key at *
          have i2 : (m : Int) > 400 := by omega
          clear hI2 HI3 HPV
          go_wp2_with fail
          go_ret
          exact ⟨by rw [HE.out]; rfl, HB2.out⟩
        · have HI4 := Lib.hid (HI3.out.symm.trans (if_neg h1))
          clear HI3
          have hW : ∀ p v, wr.cell? p = some v → (wr.alloc (.cells #[.string L[k].1, .slice fa L[k].2.length fc] 39)).cell? p = some v := fun p v hp => Keeps.alloc _ _ _ _ hp
          obtain ⟨bb, HBB⟩ : ∃ bb : Bool, Hid (bb = true ↔ ∃ q, prv L k = some q ∧ ¬ kb q < kb L[k].1) := ⟨@decide (∃ q, prv L k = some q ∧ ¬ kb q < kb L[k].1) (Classical.propDecidable _), by show _ ↔ _; exact @decide_eq_true_iff _ (Classical.propDecidable _)⟩
          have hpj : ∀ j (hj : j < L.length), k = j + 1 → prv L k = some L[j].1 := fun j hj e => by subst e; exact prv_succ L j hj
          have hp0 : k = 0 → prv L k = none := fun e => by subst e; rfl
          have HPJ := Lib.hid hpj
          have HP0 := Lib.hid hp0
          clear hpj hp0
          have hm1 : ¬ ((L[k].2.length : Int) > 400) := by omega
          have HI5 : Hid (r = if bb = true then 5 else if L[k].2 = [] then 3 else lineE (some L[k].1) (L.drop (k + 1))) := by
            show _ = _
            rw [HI4.out]
            by_cases e : ∃ q, prv L k = some q ∧ ¬ kb q < kb L[k].1
            · rw [if_pos e, if_pos (HBB.out.2 e)]
            · rw [if_neg e, if_neg (fun h => e (HBB.out.1 h))]
          clear HI4
          generalize hX : L[k].2 = X at *
          generalize hK : L[k].1 = key at *
          have HK := Lib.hid hK
          clear hI2 hX hK
          go_upto_region 8 with fail
          go_cut [22] (fun v wc => v = .bool bb ∧ ∃ q, wc = (wr.alloc (.cells #[.string key, .slice fa X.length fc] 39)).drewN q)
          case first =>
            by_cases h0 : 0 < k
            · obtain ⟨j, rfl⟩ : ∃ j, k = j + 1 := ⟨k - 1, by omega⟩
              have hj : j < L.length := by omega
              obtain ⟨b', o', fa', fc', e, c0', -, -, -, -, h7'⟩ := ln_at (lns_b H.out hB.out) j hj
              injection e with e
              injection e with e1 e2 _
              subst e1; subst e2
              have hw := hW _ _ c0'
              have hpj := HPJ.out j hj rfl
              have hbb : bb = true ↔ ¬ kb L[j].1 < kb key := by
                rw [HBB.out, hpj]
                constructor
                · rintro ⟨q, e1, e2⟩
                  injection e1 with e1
                  rw [e1]; exact e2
                · intro e; exact ⟨_, rfl, e⟩
              have HB3 := Lib.hid hbb
              have t0 : decide (0 < ((j + 1 : Nat) : Int)) = true := by simp
              have i9 : IntKind.i64.wrap (j : Int) = (j : Int) := by simp [IntKind.wrap, IntKind.bits, IntKind.signed]; omega
              have i8 : (j : Int) < (n : Int) := by omega
              clear hpj hbb c0' hW HPJ HP0 HBB HI5 HPV HZ1 HZ2
              generalize (L[j]).1 = keyj at *
              generalize hW2 : wr.alloc (.cells #[.string key, .slice fa X.length fc] 39) = W2 at *
              have d0 : W2.cell? ⟨wr.heap.size, 0, none⟩ = some (.string key) := by rw [← hW2]; simp [go_sem]
              clear hW2 c0 c1 HB2 hB H
              rcases kb_tri keyj key with h' | h' | h'
              · obtain rfl : bb = false := by
                  cases bb with
                  | false => rfl
                  | true => exact absurd h' (HB3.out.1 rfl)
                have f1 := less_no (a := key) (b := keyj) (fun h => kb_irr _ (kb_trans h h'))
                have f2 := eq_no (a := key) (b := keyj) (fun e => kb_irr key (by rw [← e] at h'; exact h'))
                have hq := run_leq key keyj false (by rw [f1, f2]; rfl)
                clear h' HB3 f1 f2
                go_quiet (fail)
                go_wp2_with fail
                go_meet
                exact ⟨rfl, _, rfl⟩
              · obtain rfl : bb = true := HB3.out.2 (by rw [h']; exact kb_irr _)
                subst h'
                have f2 : (keyj.toList == keyj.toList) = true := by simp
                have hq := run_leq keyj keyj true (by rw [f2]; simp)
                clear HB3 f2
                go_quiet (fail)
                go_wp2_with fail
                go_meet
                exact ⟨rfl, _, rfl⟩
              · obtain rfl : bb = true := HB3.out.2 (fun h => kb_irr _ (kb_trans h h'))
                have hq := run_leq key keyj true (by rw [less_yes h']; rfl)
                clear h' HB3
                go_quiet (fail)
                go_wp2_with fail
                go_meet
                exact ⟨rfl, _, rfl⟩
            · obtain rfl : bb = false := by
                cases bb with
                | false => rfl
                | true =>
                  obtain ⟨q, e1, _⟩ := HBB.out.1 rfl
                  rw [HP0.out (by omega)] at e1; cases e1
              have t0 : decide (0 < (k : Int)) = false := by simp; omega
              have t0' : decide (0 < k) = false := by simp; omega
              generalize wr.alloc (.cells #[.string key, .slice fa X.length fc] 39) = W2 at *
              clear hW HPJ HP0 HBB HI5 HPV HZ1 HZ2 c0 c1 HB2 hB H h0
              go_quiet (fail)
              go_wp2_with fail
              go_meet
              exact ⟨rfl, _, rfl⟩
          case rest =>
            obtain ⟨rfl, q, rfl⟩ := hcut
            have hlast : (List.drop (k + 1) L) = L.drop (k + 1) := rfl
            have HI6 : Hid (X ≠ [] → bb = false → lineE (prv L (k + 1)) (L.drop (k + 1)) = r) := fun e1 e2 => by
              rw [HPV.out, HI5.out, if_neg (by rw [e2]; simp), if_neg e1]
            have HI7 : Hid (X = [] → bb = false → r = 3) := fun e1 e2 => by
              rw [HI5.out, if_neg (by rw [e2]; simp), if_pos e1]
            have HI8 : Hid (bb = true → r = 5) := fun e2 => by rw [HI5.out, if_pos e2]
            have HB3 : Hid (Below w.heap.size w ((wr.alloc (.cells #[.string key, .slice fa X.length fc] 39)).drewN q)) := below_drewN HB2.out q
            generalize hW2 : (wr.alloc (.cells #[.string key, .slice fa X.length fc] 39)).drewN q = W2 at *
            have d1 : W2.cell? ⟨wr.heap.size, 1, none⟩ = some (.slice fa X.length fc) := by rw [← hW2]; show (wr.alloc _).cell? _ = _; simp [go_sem]
            clear hW2 hW HI5 HPJ HP0 HBB c0 c1 HB2 hlast HPV
            cases bb with
            | true =>
              have HE := Lib.hid (HI8.out rfl)
              go_wp2_with fail
              go_ret
              exact ⟨by rw [HE.out]; rfl, HB3.out⟩
            | false =>
              by_cases hx : X = []
              · have HE := Lib.hid (HI7.out hx rfl)
                subst hx
                go_wp2_with fail
                go_ret
                exact ⟨by rw [HE.out]; rfl, HB3.out⟩
              · have HE := Lib.hid (HI6.out hx rfl)
                have hx0 : X.length ≠ 0 := fun e => hx (List.eq_nil_of_length_eq_zero e)
                clear hx HI6 HI7 HI8 HZ1 HZ2
                generalize X.length = m at *
                have t3 : ((m : Int) == 0) = false := by simp; omega
                clear hx0
                go_wp2_with fail
                exact ⟨⟨k + 1, by go_num, by omega, HB3, HE⟩, by simp [intOf]; omega⟩
      · have hi : ¬ (k : Int) < (n : Int) := by omega
        have HE : Hid (r = 0) := by
          show _ = _
          rw [← hI.out, List.drop_of_length_le (by have := HN.out; omega)]; rfl
        go_wp2_with fail
        go_ret
        exact ⟨by rw [HE.out]; rfl, hB.out⟩
end Go.Proofs.YthcgjbpiiodlgaaDoor
