/- The document's Node: the other kinds. -/
import Derived.Test.YthadeccnibnioaaGreatDoorTa
namespace Go.Proofs.YthadeccnibnioaaGreatDoor
open Go.RowKit
set_option linter.unusedVariables false
set_option linter.unusedSimpArgs false
set_option maxHeartbeats 8000000 in
set_option maxRecDepth 100000 in
theorem nd_d {w : World} {b o cc own len : Nat} {k n : Int} {fa : Option Addr} {fs : List Int} {fc : Nat} {tx : ByteArray} {Ah : List Nd} (hk : k = 6)
    (hown : own < len) (hlen : len ≤ 12) (hAl : Ah.length = own) (c0 : w.cell? ⟨b, o + own * 4, none⟩ = some (.int .i64 k)) (c1 : w.cell? ⟨b, o + own * 4 + 1, none⟩ = some (.slice fa fs.length fc)) (c2 : w.cell? ⟨b, o + own * 4 + 2, none⟩ = some (.string tx)) (c3 : w.cell? ⟨b, o + own * 4 + 3, none⟩ = some (.int .i64 n)) (hI : IntsAt w fa fs)
    (hA : ∀ i (h : i < Ah.length), w.cell? ⟨b, o + i * 4, none⟩ = some (.int .i64 Ah[i].k)) (hz2 : fs.length ≤ 9223372036854775807) :
    Calls Tryz.prog 44 #[.slice (some ⟨b, o, none⟩) len cc, .int .i64 own] w fun e w' => e = .returned (.int .i64 (nodeP Ah ⟨k, fs, tx, n⟩ : Nat)) ∧ Below w.heap.size w w' := by
  have bel : Below w.heap.size w (W1 w k fa fs.length fc tx n) := (Below.refl _ _).alloc (Nat.le_refl _) _
  have hcb := cell_lt c0
  simp only at hcb
  have HI := Lib.hid (hI.keep (Keeps.of bel))
  have HA := Lib.hid (fun i (h : i < Ah.length) => Keeps.of bel _ _ (hA i h))
  have HE := Lib.hid (tx_isE tx)
  have HP := Lib.hid (parse_err tx)
  have hT : hasTP k = false := by subst hk; rfl
  have hC : hasNP k = false := by subst hk; rfl
  have cT := texted_any k
  have cC := dcounted_any k
  rw [hT] at cT
  rw [hC] at cC
  have HT := Lib.hid cT
  have HC := Lib.hid cC
  have hk0 : ¬ (k < 1 ∨ 10 < k) := by omega
  have hlo : inLo k = 1 := by subst hk; rfl
  have hhi : inHi k = 4 := by subst hk; rfl
  have hbl : bdLo k = 0 := by subst hk; rfl
  have hbh : bdHi k = 0 := by subst hk; rfl
  have HB := Lib.hid (And.intro hbl hbh)
  have HTC := Lib.hid (And.intro hT hC)
  have HNB := Lib.hid (fun h2 => dn_bad (A := Ah) (nd := ⟨k, fs, tx, n⟩) hk0 h2)
  have HNF := Lib.hid (fun h2 h3 => dn_from (A := Ah) (nd := ⟨k, fs, tx, n⟩) hk0 h2 h3)
  have HNO := Lib.hid (fun h2 h3 => dn_own (A := Ah) (nd := ⟨k, fs, tx, n⟩) hk0 h2 h3)
  have HLH := Lib.hid (And.intro hlo hhi)
  clear hT hC cT cC hlo hhi hbl hbh hI hA hk0
  unfold W1 at *
  obtain ⟨R, hR⟩ : ∃ R, R = nodeP Ah ⟨k, fs, tx, n⟩ := ⟨_, rfl⟩
  rw [← hR]
  have HR := Lib.hid hR
  clear hR
  have x1 : ¬ k < 1 := by omega
  have x2 : ¬ 10 < k := by omega
  subst hk
  by_cases hsh : 1 ≤ fs.length ∧ fs.length ≤ 4
  rotate_left 1
  · by_cases hs2 : fs.length < 1
    · have s1 : (fs.length : Int) < 1 := by omega
      go_enter Tryz.func44, Tryz.ntmps44
      go_wp2_with fail
      go_ret
      exact ⟨retI (by rw [HR.out, HNB.out (by rw [HLH.out.1, HLH.out.2]; omega)]; rfl), bel⟩
    · have s1 : ¬ (fs.length : Int) < 1 := by omega
      have s2 : (4 : Int) < (fs.length : Int) := by omega
      go_enter Tryz.func44, Tryz.ntmps44
      go_wp2_with fail
      go_ret
      exact ⟨retI (by rw [HR.out, HNB.out (by rw [HLH.out.1, HLH.out.2]; omega)]; rfl), bel⟩
  · have hsh2 : ¬ ((fs.length : Int) < inLo 6 ∨ inHi 6 < (fs.length : Int)) := by rw [HLH.out.1, HLH.out.2]; omega
    have HF := Lib.hid (HNF.out hsh2)
    have HO := Lib.hid (HNO.out hsh2)
    clear HNF HNO HNB hsh2
    have s1 : ¬ (fs.length : Int) < 1 := by omega
    have s2 : ¬ (4 : Int) < (fs.length : Int) := by omega
    clear hsh
    go_enter Tryz.func44, Tryz.ntmps44
    go_wp2_with fail
    go_loopw [7] (fun i wr => ∃ j : Nat, j ≤ fs.length ∧ i = .int .i64 j ∧ Hid (fromP Ah (fs.drop j) = fromP Ah fs) ∧ wr = (w.alloc (.cells #[.int .i64 6, .slice fa fs.length fc, .string tx, .int .i64 n] 52))) (fun i _ => fs.length - (intOf i).toNat)
    case atStart => exact ⟨0, by omega, rfl, by simp [Hid], rfl⟩
    case round =>
      obtain ⟨j, hj, rfl, HJ, rfl⟩ := hrel
      by_cases hlt : j < fs.length
      · have hfj := HJ.out
        rw [fromP_step hlt] at hfj
        have cj : ∃ b2 o2, fa = some ⟨b2, o2, none⟩ ∧ (w.alloc (.cells #[.int .i64 6, .slice fa fs.length fc, .string tx, .int .i64 n] 52)).cell? ⟨b2, o2 + j, none⟩ = some (.int .i64 fs[j]) := by
          rcases HI.out with hI1 | ⟨b2, o2, e, hI1⟩
          · rw [hI1] at hlt; simp at hlt
          · exact ⟨b2, o2, e, hI1 j hlt⟩
        obtain ⟨b2, o2, rfl, cj⟩ := cj
        have HFO : Hid (fromOne Ah fs[j] ≠ 0 → nodeP Ah ⟨6, fs, tx, n⟩ = fromOne Ah fs[j]) := fun h => by
          rw [if_neg h] at hfj
          rw [HF.out (by rw [← hfj]; exact h), ← hfj]
        have HFN : Hid (fromOne Ah fs[j] = 0 → fromP Ah (fs.drop (j + 1)) = fromP Ah fs) := fun h => by rw [if_pos h] at hfj; exact hfj
        have hjI : (j : Int) < (fs.length : Int) := by omega
        clear hfj HJ HI HF HO
        generalize fs[j] = f at *
        by_cases f0 : f < 0
        · have e : fromOne Ah f = 1 := by rw [fromOne, if_pos (.inl f0)]
          have HV := Lib.hid (HFO.out (by rw [e]; decide))
          rw [e] at HV
          clear e HFO HFN
          go_wp2_with fail
          go_ret
          exact ⟨retI (by rw [HR.out, HV.out]; rfl), bel⟩
        by_cases f1 : (own : Int) ≤ f
        · have e : fromOne Ah f = 1 := by rw [fromOne, if_pos (.inr (by rw [hAl]; exact f1))]
          have HV := Lib.hid (HFO.out (by rw [e]; decide))
          rw [e] at HV
          clear e HFO HFN
          go_wp2_with fail
          go_ret
          exact ⟨retI (by rw [HR.out, HV.out]; rfl), bel⟩
        obtain ⟨i, rfl⟩ : ∃ i : Nat, f = i := ⟨f.toNat, by omega⟩
        have hi : i < Ah.length := by omega
        have ci := HA.out i hi
        have hkk : kindAt Ah (i : Int) = Ah[i].k := by simp [kindAt, hi]
        have hiL : (i : Int) < (len : Int) := by omega
        have hi12 : i ≤ 12 := by omega
        by_cases h10 : Ah[i].k = 10
        · have e : fromOne Ah (i : Int) = 7 := by rw [fromOne, if_neg (by omega), hkk, if_pos h10]
          have HV := Lib.hid (HFO.out (by rw [e]; decide))
          rw [e] at HV
          rw [h10] at ci
          clear e HFO HFN hkk h10 HA
          go_wp2_with fail
          go_ret
          exact ⟨retI (by rw [HR.out, HV.out]; rfl), bel⟩
        · have e : fromOne Ah (i : Int) = 0 := by rw [fromOne, if_neg (by omega), hkk, if_neg h10]
          have HV := Lib.hid (HFN.out e)
          have e10 : (Ah[i].k == 10) = false := by simpa using h10
          generalize Ah[i].k = ki at *
          clear e HFO HFN hkk h10 HA
          go_wp2_with fail
          exact ⟨⟨j + 1, by omega, by go_num, HV, by trivial⟩, by simp [intOf]; omega⟩
      · have hj' : j = fs.length := by omega
        subst hj'
        have hf0 : fromP Ah fs = 0 := by have := HJ.out; rw [List.drop_length] at this; rw [← this, fromP]
        have HV : Hid (R = ownP ⟨6, fs, tx, n⟩) := by show _ = _; rw [HR.out, HO.out hf0]
        clear HJ HI HF HO HA HR hf0
        have hjI : ¬ ((fs.length : Nat) : Int) < (fs.length : Int) := by omega
        have ct0 := HT.out
        have cc0 := HC.out
        clear HT HC
        by_cases htx : tx = ByteArray.empty
        · have hE1 : tx.toList.isEmpty = true := by rw [HE.out]; simpa using htx
          by_cases hn : n = 0
          · have hn1 : (n != 0) = false := by simp [hn]
            have HW : Hid (ownP ⟨6, fs, tx, n⟩ = 0) := by
              show _ = _
              rw [ownP, if_neg (by simp [HTC.out.1, HTC.out.2, htx, hn]), if_neg (by simp only [HB.out.1, HB.out.2]; omega), if_pos HTC.out.1]
            clear htx hn
            go_wp2_with (go_at_call 50; refine (ct0 _).mono ?_; rintro e w' ⟨rfl, rfl⟩; refine Hid.out ?_)
            refine Lib.hid ?_
            go_wp2_with (go_at_call 49; refine (cc0 _).mono ?_; rintro e w' ⟨rfl, rfl⟩; refine Hid.out ?_)
            refine Lib.hid ?_
            go_wp2_with fail
            go_ret
            exact ⟨retI (by rw [HV.out]; rw [HW.out]; rfl), bel⟩
          · have hn1 : (n != 0) = true := by simp [hn]
            have HW : Hid (ownP ⟨6, fs, tx, n⟩ = 3) := by simp [Hid, ownP, HTC.out.1, HTC.out.2, htx, hn]
            clear htx hn
            go_wp2_with (go_at_call 50; refine (ct0 _).mono ?_; rintro e w' ⟨rfl, rfl⟩; refine Hid.out ?_)
            refine Lib.hid ?_
            go_wp2_with (go_at_call 49; refine (cc0 _).mono ?_; rintro e w' ⟨rfl, rfl⟩; refine Hid.out ?_)
            refine Lib.hid ?_
            go_wp2_with fail
            go_ret
            exact ⟨retI (by rw [HV.out]; rw [HW.out]; rfl), bel⟩
        · have hE1 : tx.toList.isEmpty = false := by rw [HE.out]; simpa using htx
          by_cases hn : n = 0
          · have hn1 : (n != 0) = false := by simp [hn]
            have HW : Hid (ownP ⟨6, fs, tx, n⟩ = 3) := by simp [Hid, ownP, HTC.out.1, HTC.out.2, htx, hn]
            clear htx hn
            go_wp2_with (go_at_call 50; refine (ct0 _).mono ?_; rintro e w' ⟨rfl, rfl⟩; refine Hid.out ?_)
            refine Lib.hid ?_
            go_wp2_with (go_at_call 49; refine (cc0 _).mono ?_; rintro e w' ⟨rfl, rfl⟩; refine Hid.out ?_)
            refine Lib.hid ?_
            go_wp2_with fail
            go_ret
            exact ⟨retI (by rw [HV.out]; rw [HW.out]; rfl), bel⟩
          · have hn1 : (n != 0) = true := by simp [hn]
            have HW : Hid (ownP ⟨6, fs, tx, n⟩ = 3) := by simp [Hid, ownP, HTC.out.1, HTC.out.2, htx, hn]
            clear htx hn
            go_wp2_with (go_at_call 50; refine (ct0 _).mono ?_; rintro e w' ⟨rfl, rfl⟩; refine Hid.out ?_)
            refine Lib.hid ?_
            go_wp2_with (go_at_call 49; refine (cc0 _).mono ?_; rintro e w' ⟨rfl, rfl⟩; refine Hid.out ?_)
            refine Lib.hid ?_
            go_wp2_with fail
            go_ret
            exact ⟨retI (by rw [HV.out]; rw [HW.out]; rfl), bel⟩
set_option maxHeartbeats 8000000 in
set_option maxRecDepth 100000 in
theorem nd_e {w : World} {b o cc own len : Nat} {k n : Int} {fa : Option Addr} {fs : List Int} {fc : Nat} {tx : ByteArray} {Ah : List Nd} (hk : k = 2 ∨ k = 3 ∨ k = 4 ∨ k = 7)
    (hown : own < len) (hlen : len ≤ 12) (hAl : Ah.length = own) (c0 : w.cell? ⟨b, o + own * 4, none⟩ = some (.int .i64 k)) (c1 : w.cell? ⟨b, o + own * 4 + 1, none⟩ = some (.slice fa fs.length fc)) (c2 : w.cell? ⟨b, o + own * 4 + 2, none⟩ = some (.string tx)) (c3 : w.cell? ⟨b, o + own * 4 + 3, none⟩ = some (.int .i64 n)) (hI : IntsAt w fa fs)
    (hA : ∀ i (h : i < Ah.length), w.cell? ⟨b, o + i * 4, none⟩ = some (.int .i64 Ah[i].k)) (hz2 : fs.length ≤ 9223372036854775807) :
    Calls Tryz.prog 44 #[.slice (some ⟨b, o, none⟩) len cc, .int .i64 own] w fun e w' => e = .returned (.int .i64 (nodeP Ah ⟨k, fs, tx, n⟩ : Nat)) ∧ Below w.heap.size w w' := by
  have bel : Below w.heap.size w (W1 w k fa fs.length fc tx n) := (Below.refl _ _).alloc (Nat.le_refl _) _
  have hcb := cell_lt c0
  simp only at hcb
  have HI := Lib.hid (hI.keep (Keeps.of bel))
  have HA := Lib.hid (fun i (h : i < Ah.length) => Keeps.of bel _ _ (hA i h))
  have HE := Lib.hid (tx_isE tx)
  have HP := Lib.hid (parse_err tx)
  have hT : hasTP k = true := by rcases hk with rfl | rfl | rfl | rfl <;> rfl
  have hC : hasNP k = false := by rcases hk with rfl | rfl | rfl | rfl <;> rfl
  have cT := texted_any k
  have cC := dcounted_any k
  rw [hT] at cT
  rw [hC] at cC
  have HT := Lib.hid cT
  have HC := Lib.hid cC
  have hk0 : ¬ (k < 1 ∨ 10 < k) := by omega
  have hlo : inLo k = 1 := by rcases hk with rfl | rfl | rfl | rfl <;> rfl
  have hhi : inHi k = 1 := by rcases hk with rfl | rfl | rfl | rfl <;> rfl
  have hbl : bdLo k = 0 := by rcases hk with rfl | rfl | rfl | rfl <;> rfl
  have hbh : bdHi k = 0 := by rcases hk with rfl | rfl | rfl | rfl <;> rfl
  have HB := Lib.hid (And.intro hbl hbh)
  have HTC := Lib.hid (And.intro hT hC)
  have HNB := Lib.hid (fun h2 => dn_bad (A := Ah) (nd := ⟨k, fs, tx, n⟩) hk0 h2)
  have HNF := Lib.hid (fun h2 h3 => dn_from (A := Ah) (nd := ⟨k, fs, tx, n⟩) hk0 h2 h3)
  have HNO := Lib.hid (fun h2 h3 => dn_own (A := Ah) (nd := ⟨k, fs, tx, n⟩) hk0 h2 h3)
  have HLH := Lib.hid (And.intro hlo hhi)
  clear hT hC cT cC hlo hhi hbl hbh hI hA hk0
  unfold W1 at *
  obtain ⟨R, hR⟩ : ∃ R, R = nodeP Ah ⟨k, fs, tx, n⟩ := ⟨_, rfl⟩
  rw [← hR]
  have HR := Lib.hid hR
  clear hR
  have x1 : ¬ k < 1 := by omega
  have x2 : ¬ 10 < k := by omega
  have y1 : (k == 1) = false := by simp; omega
  have y5 : (k == 5) = false := by simp; omega
  have y6 : (k == 6) = false := by simp; omega
  have y8 : (k == 8) = false := by simp; omega
  have z1 : (k != 1) = true := by simp; omega
  have z6 : (k != 6) = true := by simp; omega
  clear hk
  by_cases hsh : fs.length = 1
  rotate_left 1
  · have s1 : ((fs.length : Int) != 1) = true := by simp; omega
    go_enter Tryz.func44, Tryz.ntmps44
    go_wp2_with fail
    go_ret
    exact ⟨retI (by rw [HR.out, HNB.out (by rw [HLH.out.1, HLH.out.2]; omega)]; rfl), bel⟩
  · have hsh2 : ¬ ((fs.length : Int) < inLo k ∨ inHi k < (fs.length : Int)) := by rw [HLH.out.1, HLH.out.2]; omega
    have HF := Lib.hid (HNF.out hsh2)
    have HO := Lib.hid (HNO.out hsh2)
    clear HNF HNO HNB hsh2
    have s1 : ((fs.length : Int) != 1) = false := by simp; omega
    clear hsh
    go_enter Tryz.func44, Tryz.ntmps44
    go_wp2_with fail
    go_loopw [7] (fun i wr => ∃ j : Nat, j ≤ fs.length ∧ i = .int .i64 j ∧ Hid (fromP Ah (fs.drop j) = fromP Ah fs) ∧ wr = (w.alloc (.cells #[.int .i64 k, .slice fa fs.length fc, .string tx, .int .i64 n] 52))) (fun i _ => fs.length - (intOf i).toNat)
    case atStart => exact ⟨0, by omega, rfl, by simp [Hid], rfl⟩
    case round =>
      obtain ⟨j, hj, rfl, HJ, rfl⟩ := hrel
      by_cases hlt : j < fs.length
      · have hfj := HJ.out
        rw [fromP_step hlt] at hfj
        have cj : ∃ b2 o2, fa = some ⟨b2, o2, none⟩ ∧ (w.alloc (.cells #[.int .i64 k, .slice fa fs.length fc, .string tx, .int .i64 n] 52)).cell? ⟨b2, o2 + j, none⟩ = some (.int .i64 fs[j]) := by
          rcases HI.out with hI1 | ⟨b2, o2, e, hI1⟩
          · rw [hI1] at hlt; simp at hlt
          · exact ⟨b2, o2, e, hI1 j hlt⟩
        obtain ⟨b2, o2, rfl, cj⟩ := cj
        have HFO : Hid (fromOne Ah fs[j] ≠ 0 → nodeP Ah ⟨k, fs, tx, n⟩ = fromOne Ah fs[j]) := fun h => by
          rw [if_neg h] at hfj
          rw [HF.out (by rw [← hfj]; exact h), ← hfj]
        have HFN : Hid (fromOne Ah fs[j] = 0 → fromP Ah (fs.drop (j + 1)) = fromP Ah fs) := fun h => by rw [if_pos h] at hfj; exact hfj
        have hjI : (j : Int) < (fs.length : Int) := by omega
        clear hfj HJ HI HF HO
        generalize fs[j] = f at *
        by_cases f0 : f < 0
        · have e : fromOne Ah f = 1 := by rw [fromOne, if_pos (.inl f0)]
          have HV := Lib.hid (HFO.out (by rw [e]; decide))
          rw [e] at HV
          clear e HFO HFN
          go_wp2_with fail
          go_ret
          exact ⟨retI (by rw [HR.out, HV.out]; rfl), bel⟩
        by_cases f1 : (own : Int) ≤ f
        · have e : fromOne Ah f = 1 := by rw [fromOne, if_pos (.inr (by rw [hAl]; exact f1))]
          have HV := Lib.hid (HFO.out (by rw [e]; decide))
          rw [e] at HV
          clear e HFO HFN
          go_wp2_with fail
          go_ret
          exact ⟨retI (by rw [HR.out, HV.out]; rfl), bel⟩
        obtain ⟨i, rfl⟩ : ∃ i : Nat, f = i := ⟨f.toNat, by omega⟩
        have hi : i < Ah.length := by omega
        have ci := HA.out i hi
        have hkk : kindAt Ah (i : Int) = Ah[i].k := by simp [kindAt, hi]
        have hiL : (i : Int) < (len : Int) := by omega
        have hi12 : i ≤ 12 := by omega
        by_cases h10 : Ah[i].k = 10
        · have e : fromOne Ah (i : Int) = 7 := by rw [fromOne, if_neg (by omega), hkk, if_pos h10]
          have HV := Lib.hid (HFO.out (by rw [e]; decide))
          rw [e] at HV
          rw [h10] at ci
          clear e HFO HFN hkk h10 HA
          go_wp2_with fail
          go_ret
          exact ⟨retI (by rw [HR.out, HV.out]; rfl), bel⟩
        · have e : fromOne Ah (i : Int) = 0 := by rw [fromOne, if_neg (by omega), hkk, if_neg h10]
          have HV := Lib.hid (HFN.out e)
          have e10 : (Ah[i].k == 10) = false := by simpa using h10
          generalize Ah[i].k = ki at *
          clear e HFO HFN hkk h10 HA
          go_wp2_with fail
          exact ⟨⟨j + 1, by omega, by go_num, HV, by trivial⟩, by simp [intOf]; omega⟩
      · have hj' : j = fs.length := by omega
        subst hj'
        have hf0 : fromP Ah fs = 0 := by have := HJ.out; rw [List.drop_length] at this; rw [← this, fromP]
        have HV : Hid (R = ownP ⟨k, fs, tx, n⟩) := by show _ = _; rw [HR.out, HO.out hf0]
        clear HJ HI HF HO HA HR hf0
        have hjI : ¬ ((fs.length : Nat) : Int) < (fs.length : Int) := by omega
        have ct0 := HT.out
        have cc0 := HC.out
        clear HT HC
        by_cases htx : tx = ByteArray.empty
        · have hE1 : tx.toList.isEmpty = true := by rw [HE.out]; simpa using htx
          by_cases hn : n = 0
          · have hn1 : (n != 0) = false := by simp [hn]
            have HW : Hid (ownP ⟨k, fs, tx, n⟩ = txP tx.data.toList) := by
              show _ = _
              rw [ownP, if_neg (by simp [HTC.out.1, HTC.out.2, hn]), if_neg (by simp only [HB.out.1, HB.out.2]; omega), if_neg (by simp [HTC.out.1])]
            clear htx hn
            generalize txP tx.data.toList = tq at *
            go_wp2_with (go_at_call 50; refine (ct0 _).mono ?_; rintro e w' ⟨rfl, rfl⟩; refine Hid.out ?_)
            refine Lib.hid ?_
            go_wp2_with (go_at_call 49; refine (cc0 _).mono ?_; rintro e w' ⟨rfl, rfl⟩; refine Hid.out ?_)
            refine Lib.hid ?_
            go_wp2_with (go_at_call 8; refine (HP.out _).mono ?_; rintro e w' ⟨pa, pb, pA, pn, pc, pat, rfl, bp⟩; refine Hid.out ?_)
            refine Lib.hid ?_
            go_wp2_with fail
            go_ret
            exact ⟨retI (by rw [HV.out, HW.out]), below_two bel (bp.alloc bp.size _)⟩
          · have hn1 : (n != 0) = true := by simp [hn]
            have HW : Hid (ownP ⟨k, fs, tx, n⟩ = 3) := by simp [Hid, ownP, HTC.out.1, HTC.out.2, htx, hn]
            clear htx hn
            go_wp2_with (go_at_call 50; refine (ct0 _).mono ?_; rintro e w' ⟨rfl, rfl⟩; refine Hid.out ?_)
            refine Lib.hid ?_
            go_wp2_with (go_at_call 49; refine (cc0 _).mono ?_; rintro e w' ⟨rfl, rfl⟩; refine Hid.out ?_)
            refine Lib.hid ?_
            go_wp2_with fail
            go_ret
            exact ⟨retI (by rw [HV.out]; rw [HW.out]; rfl), bel⟩
        · have hE1 : tx.toList.isEmpty = false := by rw [HE.out]; simpa using htx
          by_cases hn : n = 0
          · have hn1 : (n != 0) = false := by simp [hn]
            have HW : Hid (ownP ⟨k, fs, tx, n⟩ = txP tx.data.toList) := by
              show _ = _
              rw [ownP, if_neg (by simp [HTC.out.1, HTC.out.2, hn]), if_neg (by simp only [HB.out.1, HB.out.2]; omega), if_neg (by simp [HTC.out.1])]
            clear htx hn
            generalize txP tx.data.toList = tq at *
            go_wp2_with (go_at_call 50; refine (ct0 _).mono ?_; rintro e w' ⟨rfl, rfl⟩; refine Hid.out ?_)
            refine Lib.hid ?_
            go_wp2_with (go_at_call 49; refine (cc0 _).mono ?_; rintro e w' ⟨rfl, rfl⟩; refine Hid.out ?_)
            refine Lib.hid ?_
            go_wp2_with (go_at_call 8; refine (HP.out _).mono ?_; rintro e w' ⟨pa, pb, pA, pn, pc, pat, rfl, bp⟩; refine Hid.out ?_)
            refine Lib.hid ?_
            go_wp2_with fail
            go_ret
            exact ⟨retI (by rw [HV.out, HW.out]), below_two bel (bp.alloc bp.size _)⟩
          · have hn1 : (n != 0) = true := by simp [hn]
            have HW : Hid (ownP ⟨k, fs, tx, n⟩ = 3) := by simp [Hid, ownP, HTC.out.1, HTC.out.2, htx, hn]
            clear htx hn
            go_wp2_with (go_at_call 50; refine (ct0 _).mono ?_; rintro e w' ⟨rfl, rfl⟩; refine Hid.out ?_)
            refine Lib.hid ?_
            go_wp2_with (go_at_call 49; refine (cc0 _).mono ?_; rintro e w' ⟨rfl, rfl⟩; refine Hid.out ?_)
            refine Lib.hid ?_
            go_wp2_with fail
            go_ret
            exact ⟨retI (by rw [HV.out]; rw [HW.out]; rfl), bel⟩
set_option maxHeartbeats 8000000 in
set_option maxRecDepth 100000 in
theorem nd_f {w : World} {b o cc own len : Nat} {k n : Int} {fa : Option Addr} {fs : List Int} {fc : Nat} {tx : ByteArray} {Ah : List Nd} (hk : k = 9 ∨ k = 10)
    (hown : own < len) (hlen : len ≤ 12) (hAl : Ah.length = own) (c0 : w.cell? ⟨b, o + own * 4, none⟩ = some (.int .i64 k)) (c1 : w.cell? ⟨b, o + own * 4 + 1, none⟩ = some (.slice fa fs.length fc)) (c2 : w.cell? ⟨b, o + own * 4 + 2, none⟩ = some (.string tx)) (c3 : w.cell? ⟨b, o + own * 4 + 3, none⟩ = some (.int .i64 n)) (hI : IntsAt w fa fs)
    (hA : ∀ i (h : i < Ah.length), w.cell? ⟨b, o + i * 4, none⟩ = some (.int .i64 Ah[i].k)) (hz2 : fs.length ≤ 9223372036854775807) :
    Calls Tryz.prog 44 #[.slice (some ⟨b, o, none⟩) len cc, .int .i64 own] w fun e w' => e = .returned (.int .i64 (nodeP Ah ⟨k, fs, tx, n⟩ : Nat)) ∧ Below w.heap.size w w' := by
  have bel : Below w.heap.size w (W1 w k fa fs.length fc tx n) := (Below.refl _ _).alloc (Nat.le_refl _) _
  have hcb := cell_lt c0
  simp only at hcb
  have HI := Lib.hid (hI.keep (Keeps.of bel))
  have HA := Lib.hid (fun i (h : i < Ah.length) => Keeps.of bel _ _ (hA i h))
  have HE := Lib.hid (tx_isE tx)
  have HP := Lib.hid (parse_err tx)
  have hT : hasTP k = false := by rcases hk with rfl | rfl <;> rfl
  have hC : hasNP k = false := by rcases hk with rfl | rfl <;> rfl
  have cT := texted_any k
  have cC := dcounted_any k
  rw [hT] at cT
  rw [hC] at cC
  have HT := Lib.hid cT
  have HC := Lib.hid cC
  have hk0 : ¬ (k < 1 ∨ 10 < k) := by omega
  have hlo : inLo k = 1 := by rcases hk with rfl | rfl <;> rfl
  have hhi : inHi k = 1 := by rcases hk with rfl | rfl <;> rfl
  have hbl : bdLo k = 0 := by rcases hk with rfl | rfl <;> rfl
  have hbh : bdHi k = 0 := by rcases hk with rfl | rfl <;> rfl
  have HB := Lib.hid (And.intro hbl hbh)
  have HTC := Lib.hid (And.intro hT hC)
  have HNB := Lib.hid (fun h2 => dn_bad (A := Ah) (nd := ⟨k, fs, tx, n⟩) hk0 h2)
  have HNF := Lib.hid (fun h2 h3 => dn_from (A := Ah) (nd := ⟨k, fs, tx, n⟩) hk0 h2 h3)
  have HNO := Lib.hid (fun h2 h3 => dn_own (A := Ah) (nd := ⟨k, fs, tx, n⟩) hk0 h2 h3)
  have HLH := Lib.hid (And.intro hlo hhi)
  clear hT hC cT cC hlo hhi hbl hbh hI hA hk0
  unfold W1 at *
  obtain ⟨R, hR⟩ : ∃ R, R = nodeP Ah ⟨k, fs, tx, n⟩ := ⟨_, rfl⟩
  rw [← hR]
  have HR := Lib.hid hR
  clear hR
  have x1 : ¬ k < 1 := by omega
  have x2 : ¬ 10 < k := by omega
  have y1 : (k == 1) = false := by simp; omega
  have y5 : (k == 5) = false := by simp; omega
  have y6 : (k == 6) = false := by simp; omega
  have y8 : (k == 8) = false := by simp; omega
  have z1 : (k != 1) = true := by simp; omega
  have z6 : (k != 6) = true := by simp; omega
  clear hk
  by_cases hsh : fs.length = 1
  rotate_left 1
  · have s1 : ((fs.length : Int) != 1) = true := by simp; omega
    go_enter Tryz.func44, Tryz.ntmps44
    go_wp2_with fail
    go_ret
    exact ⟨retI (by rw [HR.out, HNB.out (by rw [HLH.out.1, HLH.out.2]; omega)]; rfl), bel⟩
  · have hsh2 : ¬ ((fs.length : Int) < inLo k ∨ inHi k < (fs.length : Int)) := by rw [HLH.out.1, HLH.out.2]; omega
    have HF := Lib.hid (HNF.out hsh2)
    have HO := Lib.hid (HNO.out hsh2)
    clear HNF HNO HNB hsh2
    have s1 : ((fs.length : Int) != 1) = false := by simp; omega
    clear hsh
    go_enter Tryz.func44, Tryz.ntmps44
    go_wp2_with fail
    go_loopw [7] (fun i wr => ∃ j : Nat, j ≤ fs.length ∧ i = .int .i64 j ∧ Hid (fromP Ah (fs.drop j) = fromP Ah fs) ∧ wr = (w.alloc (.cells #[.int .i64 k, .slice fa fs.length fc, .string tx, .int .i64 n] 52))) (fun i _ => fs.length - (intOf i).toNat)
    case atStart => exact ⟨0, by omega, rfl, by simp [Hid], rfl⟩
    case round =>
      obtain ⟨j, hj, rfl, HJ, rfl⟩ := hrel
      by_cases hlt : j < fs.length
      · have hfj := HJ.out
        rw [fromP_step hlt] at hfj
        have cj : ∃ b2 o2, fa = some ⟨b2, o2, none⟩ ∧ (w.alloc (.cells #[.int .i64 k, .slice fa fs.length fc, .string tx, .int .i64 n] 52)).cell? ⟨b2, o2 + j, none⟩ = some (.int .i64 fs[j]) := by
          rcases HI.out with hI1 | ⟨b2, o2, e, hI1⟩
          · rw [hI1] at hlt; simp at hlt
          · exact ⟨b2, o2, e, hI1 j hlt⟩
        obtain ⟨b2, o2, rfl, cj⟩ := cj
        have HFO : Hid (fromOne Ah fs[j] ≠ 0 → nodeP Ah ⟨k, fs, tx, n⟩ = fromOne Ah fs[j]) := fun h => by
          rw [if_neg h] at hfj
          rw [HF.out (by rw [← hfj]; exact h), ← hfj]
        have HFN : Hid (fromOne Ah fs[j] = 0 → fromP Ah (fs.drop (j + 1)) = fromP Ah fs) := fun h => by rw [if_pos h] at hfj; exact hfj
        have hjI : (j : Int) < (fs.length : Int) := by omega
        clear hfj HJ HI HF HO
        generalize fs[j] = f at *
        by_cases f0 : f < 0
        · have e : fromOne Ah f = 1 := by rw [fromOne, if_pos (.inl f0)]
          have HV := Lib.hid (HFO.out (by rw [e]; decide))
          rw [e] at HV
          clear e HFO HFN
          go_wp2_with fail
          go_ret
          exact ⟨retI (by rw [HR.out, HV.out]; rfl), bel⟩
        by_cases f1 : (own : Int) ≤ f
        · have e : fromOne Ah f = 1 := by rw [fromOne, if_pos (.inr (by rw [hAl]; exact f1))]
          have HV := Lib.hid (HFO.out (by rw [e]; decide))
          rw [e] at HV
          clear e HFO HFN
          go_wp2_with fail
          go_ret
          exact ⟨retI (by rw [HR.out, HV.out]; rfl), bel⟩
        obtain ⟨i, rfl⟩ : ∃ i : Nat, f = i := ⟨f.toNat, by omega⟩
        have hi : i < Ah.length := by omega
        have ci := HA.out i hi
        have hkk : kindAt Ah (i : Int) = Ah[i].k := by simp [kindAt, hi]
        have hiL : (i : Int) < (len : Int) := by omega
        have hi12 : i ≤ 12 := by omega
        by_cases h10 : Ah[i].k = 10
        · have e : fromOne Ah (i : Int) = 7 := by rw [fromOne, if_neg (by omega), hkk, if_pos h10]
          have HV := Lib.hid (HFO.out (by rw [e]; decide))
          rw [e] at HV
          rw [h10] at ci
          clear e HFO HFN hkk h10 HA
          go_wp2_with fail
          go_ret
          exact ⟨retI (by rw [HR.out, HV.out]; rfl), bel⟩
        · have e : fromOne Ah (i : Int) = 0 := by rw [fromOne, if_neg (by omega), hkk, if_neg h10]
          have HV := Lib.hid (HFN.out e)
          have e10 : (Ah[i].k == 10) = false := by simpa using h10
          generalize Ah[i].k = ki at *
          clear e HFO HFN hkk h10 HA
          go_wp2_with fail
          exact ⟨⟨j + 1, by omega, by go_num, HV, by trivial⟩, by simp [intOf]; omega⟩
      · have hj' : j = fs.length := by omega
        subst hj'
        have hf0 : fromP Ah fs = 0 := by have := HJ.out; rw [List.drop_length] at this; rw [← this, fromP]
        have HV : Hid (R = ownP ⟨k, fs, tx, n⟩) := by show _ = _; rw [HR.out, HO.out hf0]
        clear HJ HI HF HO HA HR hf0
        have hjI : ¬ ((fs.length : Nat) : Int) < (fs.length : Int) := by omega
        have ct0 := HT.out
        have cc0 := HC.out
        clear HT HC
        by_cases htx : tx = ByteArray.empty
        · have hE1 : tx.toList.isEmpty = true := by rw [HE.out]; simpa using htx
          by_cases hn : n = 0
          · have hn1 : (n != 0) = false := by simp [hn]
            have HW : Hid (ownP ⟨k, fs, tx, n⟩ = 0) := by
              show _ = _
              rw [ownP, if_neg (by simp [HTC.out.1, HTC.out.2, htx, hn]), if_neg (by simp only [HB.out.1, HB.out.2]; omega), if_pos HTC.out.1]
            clear htx hn
            go_wp2_with (go_at_call 50; refine (ct0 _).mono ?_; rintro e w' ⟨rfl, rfl⟩; refine Hid.out ?_)
            refine Lib.hid ?_
            go_wp2_with (go_at_call 49; refine (cc0 _).mono ?_; rintro e w' ⟨rfl, rfl⟩; refine Hid.out ?_)
            refine Lib.hid ?_
            go_wp2_with fail
            go_ret
            exact ⟨retI (by rw [HV.out]; rw [HW.out]; rfl), bel⟩
          · have hn1 : (n != 0) = true := by simp [hn]
            have HW : Hid (ownP ⟨k, fs, tx, n⟩ = 3) := by simp [Hid, ownP, HTC.out.1, HTC.out.2, htx, hn]
            clear htx hn
            go_wp2_with (go_at_call 50; refine (ct0 _).mono ?_; rintro e w' ⟨rfl, rfl⟩; refine Hid.out ?_)
            refine Lib.hid ?_
            go_wp2_with (go_at_call 49; refine (cc0 _).mono ?_; rintro e w' ⟨rfl, rfl⟩; refine Hid.out ?_)
            refine Lib.hid ?_
            go_wp2_with fail
            go_ret
            exact ⟨retI (by rw [HV.out]; rw [HW.out]; rfl), bel⟩
        · have hE1 : tx.toList.isEmpty = false := by rw [HE.out]; simpa using htx
          by_cases hn : n = 0
          · have hn1 : (n != 0) = false := by simp [hn]
            have HW : Hid (ownP ⟨k, fs, tx, n⟩ = 3) := by simp [Hid, ownP, HTC.out.1, HTC.out.2, htx, hn]
            clear htx hn
            go_wp2_with (go_at_call 50; refine (ct0 _).mono ?_; rintro e w' ⟨rfl, rfl⟩; refine Hid.out ?_)
            refine Lib.hid ?_
            go_wp2_with (go_at_call 49; refine (cc0 _).mono ?_; rintro e w' ⟨rfl, rfl⟩; refine Hid.out ?_)
            refine Lib.hid ?_
            go_wp2_with fail
            go_ret
            exact ⟨retI (by rw [HV.out]; rw [HW.out]; rfl), bel⟩
          · have hn1 : (n != 0) = true := by simp [hn]
            have HW : Hid (ownP ⟨k, fs, tx, n⟩ = 3) := by simp [Hid, ownP, HTC.out.1, HTC.out.2, htx, hn]
            clear htx hn
            go_wp2_with (go_at_call 50; refine (ct0 _).mono ?_; rintro e w' ⟨rfl, rfl⟩; refine Hid.out ?_)
            refine Lib.hid ?_
            go_wp2_with (go_at_call 49; refine (cc0 _).mono ?_; rintro e w' ⟨rfl, rfl⟩; refine Hid.out ?_)
            refine Lib.hid ?_
            go_wp2_with fail
            go_ret
            exact ⟨retI (by rw [HV.out]; rw [HW.out]; rfl), bel⟩
end Go.Proofs.YthadeccnibnioaaGreatDoor
