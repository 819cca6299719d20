/- The document's Texted, Counted, and what is wrong with a node. -/
import Derived.Test.YthadeccnibnioaaGreatDoorJz2
import Derived.Test.YthadeccnibnioaaGreatDoorSz1
namespace Go.Proofs.YthadeccnibnioaaGreatDoor
open Go.RowKit
set_option linter.unusedVariables false
set_option linter.unusedSimpArgs false

theorem texted_any (k : Int) (w : World) : Calls Tryz.prog 50 #[.int .i64 k] w fun e w' => e = .returned (.bool (hasTP k)) ∧ w = w' := by
  by_cases h : k = 2 ∨ k = 3 ∨ k = 4 ∨ k = 7
  · rcases h with rfl | rfl | rfl | rfl <;>
    · go_enter Tryz.func50, Tryz.ntmps50
      go_wp2_with fail
      go_ret
      exact ⟨rfl, rfl⟩
  · have e1 : (k == 2) = false := by simp; omega
    have e2 : (k == 3) = false := by simp; omega
    have e3 : (k == 4) = false := by simp; omega
    have e4 : (k == 7) = false := by simp; omega
    have e : hasTP k = false := by simp [hasTP, e1, e2, e3, e4]
    rw [e]
    clear h
    go_enter Tryz.func50, Tryz.ntmps50
    go_wp2_with fail
    go_ret
    exact ⟨rfl, rfl⟩
theorem dcounted_any (k : Int) (w : World) : Calls Tryz.prog 49 #[.int .i64 k] w fun e w' => e = .returned (.bool (hasNP k)) ∧ w = w' := by
  by_cases h : k = 1 ∨ k = 5 ∨ k = 8
  · rcases h with rfl | rfl | rfl <;>
    · go_enter Tryz.func49, Tryz.ntmps49
      go_wp2_with fail
      go_ret
      exact ⟨rfl, rfl⟩
  · have e1 : (k == 1) = false := by simp; omega
    have e2 : (k == 5) = false := by simp; omega
    have e3 : (k == 8) = false := by simp; omega
    have e : hasNP k = false := by simp [hasNP, e1, e2, e3]
    rw [e]
    clear h
    go_enter Tryz.func49, Tryz.ntmps49
    go_wp2_with fail
    go_ret
    exact ⟨rfl, rfl⟩
/-- Parse, of which the fault alone is looked at. -/
theorem parse_err (s : ByteArray) (w : World) : Calls Tryz.prog 8 #[.string s] w fun e w' => ∃ (a b : Int) (A : Option Addr) (n c : Nat) (at_ : Int), e = .returned (.tuple #[.agg #[.int .i64 a, .int .i64 b, .slice A n c], .int .i64 at_, .int .i64 (txP s.data.toList : Nat)]) ∧ Below w.heap.size w w' := by
  have h := parse_any s w
  unfold txP
  cases hr : readP s.data.toList with
  | ok t u => rw [hr] at h; exact h.mono fun e w' ⟨a, b, A, n, c, h1, _, h2⟩ => ⟨a, b, A, n, c, 0, h1, h2⟩
  | bad pl er => rw [hr] at h; exact h.mono fun e w' ⟨h1, h2⟩ => ⟨0, 0, none, 0, 0, _, h1, h2⟩
theorem tx_isE (tx : ByteArray) : tx.toList.isEmpty = decide (tx = ByteArray.empty) := by
  rw [← empty_iff tx]
  have e : (⟨#[]⟩ : ByteArray).toList = [] := by rw [toList_eq]
  rw [e]
  cases tx.toList <;> rfl
def W1 (w : World) (k : Int) (fa : Option Addr) (len fc : Nat) (tx : ByteArray) (n : Int) : World := w.alloc (.cells #[.int .i64 k, .slice fa len fc, .string tx, .int .i64 n] 52)
theorem dn_bad {A : List Nd} {nd : Nd} (h1 : ¬ (nd.k < 1 ∨ 10 < nd.k)) (h2 : (nd.fs.length : Int) < inLo nd.k ∨ inHi nd.k < (nd.fs.length : Int)) : nodeP A nd = 3 := by
  rw [nodeP, if_neg h1, if_pos h2]
theorem dn_from {A : List Nd} {nd : Nd} (h1 : ¬ (nd.k < 1 ∨ 10 < nd.k)) (h2 : ¬ ((nd.fs.length : Int) < inLo nd.k ∨ inHi nd.k < (nd.fs.length : Int))) (h3 : fromP A nd.fs ≠ 0) : nodeP A nd = fromP A nd.fs := by
  rw [nodeP, if_neg h1, if_neg h2, if_neg h3]
theorem dn_own {A : List Nd} {nd : Nd} (h1 : ¬ (nd.k < 1 ∨ 10 < nd.k)) (h2 : ¬ ((nd.fs.length : Int) < inLo nd.k ∨ inHi nd.k < (nd.fs.length : Int))) (h3 : fromP A nd.fs = 0) : nodeP A nd = ownP nd := by
  rw [nodeP, if_neg h1, if_neg h2, if_pos h3]
theorem retI {a b : Int} (h : a = b) : Ending.returned (.int .i64 a) = .returned (.int .i64 b) := by rw [h]
set_option maxHeartbeats 8000000 in
set_option maxRecDepth 100000 in
theorem nd_a {w : World} {b o cc own len : Nat} {k n : Int} {fa : Option Addr} {fs : List Int} {fc : Nat} {tx : ByteArray} {Ah : List Nd} (hk : k = 1)
    (hown : own < len) (hlen : len ≤ 12) (hAl : Ah.length = own) (c0 : w.cell? ⟨b, o + own * 4, none⟩ = some (.int .i64 k)) (c1 : w.cell? ⟨b, o + own * 4 + 1, none⟩ = some (.slice fa fs.length fc)) (c2 : w.cell? ⟨b, o + own * 4 + 2, none⟩ = some (.string tx)) (c3 : w.cell? ⟨b, o + own * 4 + 3, none⟩ = some (.int .i64 n)) (hI : IntsAt w fa fs)
    (hA : ∀ i (h : i < Ah.length), w.cell? ⟨b, o + i * 4, none⟩ = some (.int .i64 Ah[i].k)) (hz2 : fs.length ≤ 9223372036854775807) :
    Calls Tryz.prog 44 #[.slice (some ⟨b, o, none⟩) len cc, .int .i64 own] w fun e w' => e = .returned (.int .i64 (nodeP Ah ⟨k, fs, tx, n⟩ : Nat)) ∧ Below w.heap.size w w' := by
  have bel : Below w.heap.size w (W1 w k fa fs.length fc tx n) := (Below.refl _ _).alloc (Nat.le_refl _) _
  have hcb := cell_lt c0
  simp only at hcb
  have HI := Lib.hid (hI.keep (Keeps.of bel))
  have HA := Lib.hid (fun i (h : i < Ah.length) => Keeps.of bel _ _ (hA i h))
  have HE := Lib.hid (tx_isE tx)
  have HP := Lib.hid (parse_err tx)
  have hT : hasTP k = false := by subst hk; rfl
  have hC : hasNP k = true := by subst hk; rfl
  have cT := texted_any k
  have cC := dcounted_any k
  rw [hT] at cT
  rw [hC] at cC
  have HT := Lib.hid cT
  have HC := Lib.hid cC
  have hk0 : ¬ (k < 1 ∨ 10 < k) := by omega
  have hlo : inLo k = 0 := by subst hk; rfl
  have hhi : inHi k = 0 := by subst hk; rfl
  have hbl : bdLo k = 1 := by subst hk; rfl
  have hbh : bdHi k = 8 := by subst hk; rfl
  have HB := Lib.hid (And.intro hbl hbh)
  have HTC := Lib.hid (And.intro hT hC)
  have HNB := Lib.hid (fun h2 => dn_bad (A := Ah) (nd := ⟨k, fs, tx, n⟩) hk0 h2)
  have HNF := Lib.hid (fun h2 h3 => dn_from (A := Ah) (nd := ⟨k, fs, tx, n⟩) hk0 h2 h3)
  have HNO := Lib.hid (fun h2 h3 => dn_own (A := Ah) (nd := ⟨k, fs, tx, n⟩) hk0 h2 h3)
  have HLH := Lib.hid (And.intro hlo hhi)
  clear hT hC cT cC hlo hhi hbl hbh hI hA hk0
  unfold W1 at *
  obtain ⟨R, hR⟩ : ∃ R, R = nodeP Ah ⟨k, fs, tx, n⟩ := ⟨_, rfl⟩
  rw [← hR]
  have HR := Lib.hid hR
  clear hR
  have x1 : ¬ k < 1 := by omega
  have x2 : ¬ 10 < k := by omega
  subst hk
  by_cases hsh : fs.length = 0
  rotate_left 1
  · have s1 : ((fs.length : Int) != 0) = true := by rw [bne_iff_ne]; omega
    go_enter Tryz.func44, Tryz.ntmps44
    go_wp2_with fail
    go_ret
    exact ⟨retI (by rw [HR.out, HNB.out (by rw [HLH.out.1, HLH.out.2]; omega)]; rfl), bel⟩
  · have hsh2 : ¬ ((fs.length : Int) < inLo 1 ∨ inHi 1 < (fs.length : Int)) := by rw [HLH.out.1, HLH.out.2]; omega
    have HF := Lib.hid (HNF.out hsh2)
    have HO := Lib.hid (HNO.out hsh2)
    clear HNF HNO HNB hsh2
    have s1 : ((fs.length : Int) != 0) = false := by rw [bne_eq_false_iff_eq]; omega
    clear hsh
    go_enter Tryz.func44, Tryz.ntmps44
    go_wp2_with fail
    go_loopw [7] (fun i wr => ∃ j : Nat, j ≤ fs.length ∧ i = .int .i64 j ∧ Hid (fromP Ah (fs.drop j) = fromP Ah fs) ∧ wr = (w.alloc (.cells #[.int .i64 1, .slice fa fs.length fc, .string tx, .int .i64 n] 52))) (fun i _ => fs.length - (intOf i).toNat)
    case atStart => exact ⟨0, by omega, rfl, by simp [Hid], rfl⟩
    case round =>
      obtain ⟨j, hj, rfl, HJ, rfl⟩ := hrel
      by_cases hlt : j < fs.length
      · have hfj := HJ.out
        rw [fromP_step hlt] at hfj
        have cj : ∃ b2 o2, fa = some ⟨b2, o2, none⟩ ∧ (w.alloc (.cells #[.int .i64 1, .slice fa fs.length fc, .string tx, .int .i64 n] 52)).cell? ⟨b2, o2 + j, none⟩ = some (.int .i64 fs[j]) := by
          rcases HI.out with hI1 | ⟨b2, o2, e, hI1⟩
          · rw [hI1] at hlt; simp at hlt
          · exact ⟨b2, o2, e, hI1 j hlt⟩
        obtain ⟨b2, o2, rfl, cj⟩ := cj
        have HFO : Hid (fromOne Ah fs[j] ≠ 0 → nodeP Ah ⟨1, fs, tx, n⟩ = fromOne Ah fs[j]) := fun h => by
          rw [if_neg h] at hfj
          rw [HF.out (by rw [← hfj]; exact h), ← hfj]
        have HFN : Hid (fromOne Ah fs[j] = 0 → fromP Ah (fs.drop (j + 1)) = fromP Ah fs) := fun h => by rw [if_pos h] at hfj; exact hfj
        have hjI : (j : Int) < (fs.length : Int) := by omega
        clear hfj HJ HI HF HO
        generalize fs[j] = f at *
        by_cases f0 : f < 0
        · have e : fromOne Ah f = 1 := by rw [fromOne, if_pos (.inl f0)]
          have HV := Lib.hid (HFO.out (by rw [e]; decide))
          rw [e] at HV
          clear e HFO HFN
          go_wp2_with fail
          go_ret
          exact ⟨retI (by rw [HR.out, HV.out]; rfl), bel⟩
        by_cases f1 : (own : Int) ≤ f
        · have e : fromOne Ah f = 1 := by rw [fromOne, if_pos (.inr (by rw [hAl]; exact f1))]
          have HV := Lib.hid (HFO.out (by rw [e]; decide))
          rw [e] at HV
          clear e HFO HFN
          go_wp2_with fail
          go_ret
          exact ⟨retI (by rw [HR.out, HV.out]; rfl), bel⟩
        obtain ⟨i, rfl⟩ : ∃ i : Nat, f = i := ⟨f.toNat, by omega⟩
        have hi : i < Ah.length := by omega
        have ci := HA.out i hi
        have hkk : kindAt Ah (i : Int) = Ah[i].k := by simp [kindAt, hi]
        have hiL : (i : Int) < (len : Int) := by omega
        have hi12 : i ≤ 12 := by omega
        by_cases h10 : Ah[i].k = 10
        · have e : fromOne Ah (i : Int) = 7 := by rw [fromOne, if_neg (by omega), hkk, if_pos h10]
          have HV := Lib.hid (HFO.out (by rw [e]; decide))
          rw [e] at HV
          rw [h10] at ci
          clear e HFO HFN hkk h10 HA
          go_wp2_with fail
          go_ret
          exact ⟨retI (by rw [HR.out, HV.out]; rfl), bel⟩
        · have e : fromOne Ah (i : Int) = 0 := by rw [fromOne, if_neg (by omega), hkk, if_neg h10]
          have HV := Lib.hid (HFN.out e)
          have e10 : (Ah[i].k == 10) = false := by simpa using h10
          generalize Ah[i].k = ki at *
          clear e HFO HFN hkk h10 HA
          go_wp2_with fail
          exact ⟨⟨j + 1, by omega, by go_num, HV, by trivial⟩, by simp [intOf]; omega⟩
      · have hj' : j = fs.length := by omega
        subst hj'
        have hf0 : fromP Ah fs = 0 := by have := HJ.out; rw [List.drop_length] at this; rw [← this, fromP]
        have HV : Hid (R = ownP ⟨1, fs, tx, n⟩) := by show _ = _; rw [HR.out, HO.out hf0]
        clear HJ HI HF HO HA HR hf0
        have hjI : ¬ ((fs.length : Nat) : Int) < (fs.length : Int) := by omega
        have ct0 := HT.out
        have cc0 := HC.out
        clear HT HC
        by_cases htx : tx = ByteArray.empty
        · have hE1 : tx.toList.isEmpty = true := by rw [HE.out]; simpa using htx
          by_cases hn : n = 0
          · have hn1 : (n != 0) = false := by simp [hn]
            by_cases n1 : n < 1
            · have HW : Hid (ownP ⟨1, fs, tx, n⟩ = 1) := by
                show _ = _
                rw [ownP, if_neg (by simp [HTC.out.1, HTC.out.2, htx]), if_pos (.inl (by rw [HB.out.1]; exact n1))]
              clear htx hn
              go_wp2_with (go_at_call 50; refine (ct0 _).mono ?_; rintro e w' ⟨rfl, rfl⟩; refine Hid.out ?_)
              refine Lib.hid ?_
              go_wp2_with (go_at_call 49; refine (cc0 _).mono ?_; rintro e w' ⟨rfl, rfl⟩; refine Hid.out ?_)
              refine Lib.hid ?_
              go_wp2_with fail
              go_ret
              exact ⟨retI (by rw [HV.out]; rw [HW.out]; rfl), bel⟩
            by_cases n2 : 8 < n
            · have HW : Hid (ownP ⟨1, fs, tx, n⟩ = 1) := by
                show _ = _
                rw [ownP, if_neg (by simp [HTC.out.1, HTC.out.2, htx]), if_pos (.inr (by rw [HB.out.2]; exact n2))]
              clear htx hn
              go_wp2_with (go_at_call 50; refine (ct0 _).mono ?_; rintro e w' ⟨rfl, rfl⟩; refine Hid.out ?_)
              refine Lib.hid ?_
              go_wp2_with (go_at_call 49; refine (cc0 _).mono ?_; rintro e w' ⟨rfl, rfl⟩; refine Hid.out ?_)
              refine Lib.hid ?_
              go_wp2_with fail
              go_ret
              exact ⟨retI (by rw [HV.out]; rw [HW.out]; rfl), bel⟩
            have HW : Hid (ownP ⟨1, fs, tx, n⟩ = 0) := by
              show _ = _
              rw [ownP, if_neg (by simp [HTC.out.1, HTC.out.2, htx]), if_neg (by simp only [HB.out.1, HB.out.2]; omega), if_pos HTC.out.1]
            clear htx hn
            go_wp2_with (go_at_call 50; refine (ct0 _).mono ?_; rintro e w' ⟨rfl, rfl⟩; refine Hid.out ?_)
            refine Lib.hid ?_
            go_wp2_with (go_at_call 49; refine (cc0 _).mono ?_; rintro e w' ⟨rfl, rfl⟩; refine Hid.out ?_)
            refine Lib.hid ?_
            go_wp2_with fail
            go_ret
            exact ⟨retI (by rw [HV.out]; rw [HW.out]; rfl), bel⟩
          · have hn1 : (n != 0) = true := by simp [hn]
            by_cases n1 : n < 1
            · have HW : Hid (ownP ⟨1, fs, tx, n⟩ = 1) := by
                show _ = _
                rw [ownP, if_neg (by simp [HTC.out.1, HTC.out.2, htx]), if_pos (.inl (by rw [HB.out.1]; exact n1))]
              clear htx hn
              go_wp2_with (go_at_call 50; refine (ct0 _).mono ?_; rintro e w' ⟨rfl, rfl⟩; refine Hid.out ?_)
              refine Lib.hid ?_
              go_wp2_with (go_at_call 49; refine (cc0 _).mono ?_; rintro e w' ⟨rfl, rfl⟩; refine Hid.out ?_)
              refine Lib.hid ?_
              go_wp2_with fail
              go_ret
              exact ⟨retI (by rw [HV.out]; rw [HW.out]; rfl), bel⟩
            by_cases n2 : 8 < n
            · have HW : Hid (ownP ⟨1, fs, tx, n⟩ = 1) := by
                show _ = _
                rw [ownP, if_neg (by simp [HTC.out.1, HTC.out.2, htx]), if_pos (.inr (by rw [HB.out.2]; exact n2))]
              clear htx hn
              go_wp2_with (go_at_call 50; refine (ct0 _).mono ?_; rintro e w' ⟨rfl, rfl⟩; refine Hid.out ?_)
              refine Lib.hid ?_
              go_wp2_with (go_at_call 49; refine (cc0 _).mono ?_; rintro e w' ⟨rfl, rfl⟩; refine Hid.out ?_)
              refine Lib.hid ?_
              go_wp2_with fail
              go_ret
              exact ⟨retI (by rw [HV.out]; rw [HW.out]; rfl), bel⟩
            have HW : Hid (ownP ⟨1, fs, tx, n⟩ = 0) := by
              show _ = _
              rw [ownP, if_neg (by simp [HTC.out.1, HTC.out.2, htx]), if_neg (by simp only [HB.out.1, HB.out.2]; omega), if_pos HTC.out.1]
            clear htx hn
            go_wp2_with (go_at_call 50; refine (ct0 _).mono ?_; rintro e w' ⟨rfl, rfl⟩; refine Hid.out ?_)
            refine Lib.hid ?_
            go_wp2_with (go_at_call 49; refine (cc0 _).mono ?_; rintro e w' ⟨rfl, rfl⟩; refine Hid.out ?_)
            refine Lib.hid ?_
            go_wp2_with fail
            go_ret
            exact ⟨retI (by rw [HV.out]; rw [HW.out]; rfl), bel⟩
        · have hE1 : tx.toList.isEmpty = false := by rw [HE.out]; simpa using htx
          by_cases hn : n = 0
          · have hn1 : (n != 0) = false := by simp [hn]
            have HW : Hid (ownP ⟨1, fs, tx, n⟩ = 3) := by simp [Hid, ownP, HTC.out.1, HTC.out.2, htx, hn]
            clear htx hn
            go_wp2_with (go_at_call 50; refine (ct0 _).mono ?_; rintro e w' ⟨rfl, rfl⟩; refine Hid.out ?_)
            refine Lib.hid ?_
            go_wp2_with (go_at_call 49; refine (cc0 _).mono ?_; rintro e w' ⟨rfl, rfl⟩; refine Hid.out ?_)
            refine Lib.hid ?_
            go_wp2_with fail
            go_ret
            exact ⟨retI (by rw [HV.out]; rw [HW.out]; rfl), bel⟩
          · have hn1 : (n != 0) = true := by simp [hn]
            have HW : Hid (ownP ⟨1, fs, tx, n⟩ = 3) := by simp [Hid, ownP, HTC.out.1, HTC.out.2, htx, hn]
            clear htx hn
            go_wp2_with (go_at_call 50; refine (ct0 _).mono ?_; rintro e w' ⟨rfl, rfl⟩; refine Hid.out ?_)
            refine Lib.hid ?_
            go_wp2_with (go_at_call 49; refine (cc0 _).mono ?_; rintro e w' ⟨rfl, rfl⟩; refine Hid.out ?_)
            refine Lib.hid ?_
            go_wp2_with fail
            go_ret
            exact ⟨retI (by rw [HV.out]; rw [HW.out]; rfl), bel⟩
set_option maxHeartbeats 8000000 in
set_option maxRecDepth 100000 in
theorem nd_b {w : World} {b o cc own len : Nat} {k n : Int} {fa : Option Addr} {fs : List Int} {fc : Nat} {tx : ByteArray} {Ah : List Nd} (hk : k = 5)
    (hown : own < len) (hlen : len ≤ 12) (hAl : Ah.length = own) (c0 : w.cell? ⟨b, o + own * 4, none⟩ = some (.int .i64 k)) (c1 : w.cell? ⟨b, o + own * 4 + 1, none⟩ = some (.slice fa fs.length fc)) (c2 : w.cell? ⟨b, o + own * 4 + 2, none⟩ = some (.string tx)) (c3 : w.cell? ⟨b, o + own * 4 + 3, none⟩ = some (.int .i64 n)) (hI : IntsAt w fa fs)
    (hA : ∀ i (h : i < Ah.length), w.cell? ⟨b, o + i * 4, none⟩ = some (.int .i64 Ah[i].k)) (hz2 : fs.length ≤ 9223372036854775807) :
    Calls Tryz.prog 44 #[.slice (some ⟨b, o, none⟩) len cc, .int .i64 own] w fun e w' => e = .returned (.int .i64 (nodeP Ah ⟨k, fs, tx, n⟩ : Nat)) ∧ Below w.heap.size w w' := by
  have bel : Below w.heap.size w (W1 w k fa fs.length fc tx n) := (Below.refl _ _).alloc (Nat.le_refl _) _
  have hcb := cell_lt c0
  simp only at hcb
  have HI := Lib.hid (hI.keep (Keeps.of bel))
  have HA := Lib.hid (fun i (h : i < Ah.length) => Keeps.of bel _ _ (hA i h))
  have HE := Lib.hid (tx_isE tx)
  have HP := Lib.hid (parse_err tx)
  have hT : hasTP k = false := by subst hk; rfl
  have hC : hasNP k = true := by subst hk; rfl
  have cT := texted_any k
  have cC := dcounted_any k
  rw [hT] at cT
  rw [hC] at cC
  have HT := Lib.hid cT
  have HC := Lib.hid cC
  have hk0 : ¬ (k < 1 ∨ 10 < k) := by omega
  have hlo : inLo k = 1 := by subst hk; rfl
  have hhi : inHi k = 1 := by subst hk; rfl
  have hbl : bdLo k = 0 := by subst hk; rfl
  have hbh : bdHi k = 3 := by subst hk; rfl
  have HB := Lib.hid (And.intro hbl hbh)
  have HTC := Lib.hid (And.intro hT hC)
  have HNB := Lib.hid (fun h2 => dn_bad (A := Ah) (nd := ⟨k, fs, tx, n⟩) hk0 h2)
  have HNF := Lib.hid (fun h2 h3 => dn_from (A := Ah) (nd := ⟨k, fs, tx, n⟩) hk0 h2 h3)
  have HNO := Lib.hid (fun h2 h3 => dn_own (A := Ah) (nd := ⟨k, fs, tx, n⟩) hk0 h2 h3)
  have HLH := Lib.hid (And.intro hlo hhi)
  clear hT hC cT cC hlo hhi hbl hbh hI hA hk0
  unfold W1 at *
  obtain ⟨R, hR⟩ : ∃ R, R = nodeP Ah ⟨k, fs, tx, n⟩ := ⟨_, rfl⟩
  rw [← hR]
  have HR := Lib.hid hR
  clear hR
  have x1 : ¬ k < 1 := by omega
  have x2 : ¬ 10 < k := by omega
  subst hk
  by_cases hsh : fs.length = 1
  rotate_left 1
  · have s1 : ((fs.length : Int) != 1) = true := by simp; omega
    go_enter Tryz.func44, Tryz.ntmps44
    go_wp2_with fail
    go_ret
    exact ⟨retI (by rw [HR.out, HNB.out (by rw [HLH.out.1, HLH.out.2]; omega)]; rfl), bel⟩
  · have hsh2 : ¬ ((fs.length : Int) < inLo 5 ∨ inHi 5 < (fs.length : Int)) := by rw [HLH.out.1, HLH.out.2]; omega
    have HF := Lib.hid (HNF.out hsh2)
    have HO := Lib.hid (HNO.out hsh2)
    clear HNF HNO HNB hsh2
    have s1 : ((fs.length : Int) != 1) = false := by simp; omega
    clear hsh
    go_enter Tryz.func44, Tryz.ntmps44
    go_wp2_with fail
    go_loopw [7] (fun i wr => ∃ j : Nat, j ≤ fs.length ∧ i = .int .i64 j ∧ Hid (fromP Ah (fs.drop j) = fromP Ah fs) ∧ wr = (w.alloc (.cells #[.int .i64 5, .slice fa fs.length fc, .string tx, .int .i64 n] 52))) (fun i _ => fs.length - (intOf i).toNat)
    case atStart => exact ⟨0, by omega, rfl, by simp [Hid], rfl⟩
    case round =>
      obtain ⟨j, hj, rfl, HJ, rfl⟩ := hrel
      by_cases hlt : j < fs.length
      · have hfj := HJ.out
        rw [fromP_step hlt] at hfj
        have cj : ∃ b2 o2, fa = some ⟨b2, o2, none⟩ ∧ (w.alloc (.cells #[.int .i64 5, .slice fa fs.length fc, .string tx, .int .i64 n] 52)).cell? ⟨b2, o2 + j, none⟩ = some (.int .i64 fs[j]) := by
          rcases HI.out with hI1 | ⟨b2, o2, e, hI1⟩
          · rw [hI1] at hlt; simp at hlt
          · exact ⟨b2, o2, e, hI1 j hlt⟩
        obtain ⟨b2, o2, rfl, cj⟩ := cj
        have HFO : Hid (fromOne Ah fs[j] ≠ 0 → nodeP Ah ⟨5, fs, tx, n⟩ = fromOne Ah fs[j]) := fun h => by
          rw [if_neg h] at hfj
          rw [HF.out (by rw [← hfj]; exact h), ← hfj]
        have HFN : Hid (fromOne Ah fs[j] = 0 → fromP Ah (fs.drop (j + 1)) = fromP Ah fs) := fun h => by rw [if_pos h] at hfj; exact hfj
        have hjI : (j : Int) < (fs.length : Int) := by omega
        clear hfj HJ HI HF HO
        generalize fs[j] = f at *
        by_cases f0 : f < 0
        · have e : fromOne Ah f = 1 := by rw [fromOne, if_pos (.inl f0)]
          have HV := Lib.hid (HFO.out (by rw [e]; decide))
          rw [e] at HV
          clear e HFO HFN
          go_wp2_with fail
          go_ret
          exact ⟨retI (by rw [HR.out, HV.out]; rfl), bel⟩
        by_cases f1 : (own : Int) ≤ f
        · have e : fromOne Ah f = 1 := by rw [fromOne, if_pos (.inr (by rw [hAl]; exact f1))]
          have HV := Lib.hid (HFO.out (by rw [e]; decide))
          rw [e] at HV
          clear e HFO HFN
          go_wp2_with fail
          go_ret
          exact ⟨retI (by rw [HR.out, HV.out]; rfl), bel⟩
        obtain ⟨i, rfl⟩ : ∃ i : Nat, f = i := ⟨f.toNat, by omega⟩
        have hi : i < Ah.length := by omega
        have ci := HA.out i hi
        have hkk : kindAt Ah (i : Int) = Ah[i].k := by simp [kindAt, hi]
        have hiL : (i : Int) < (len : Int) := by omega
        have hi12 : i ≤ 12 := by omega
        by_cases h10 : Ah[i].k = 10
        · have e : fromOne Ah (i : Int) = 7 := by rw [fromOne, if_neg (by omega), hkk, if_pos h10]
          have HV := Lib.hid (HFO.out (by rw [e]; decide))
          rw [e] at HV
          rw [h10] at ci
          clear e HFO HFN hkk h10 HA
          go_wp2_with fail
          go_ret
          exact ⟨retI (by rw [HR.out, HV.out]; rfl), bel⟩
        · have e : fromOne Ah (i : Int) = 0 := by rw [fromOne, if_neg (by omega), hkk, if_neg h10]
          have HV := Lib.hid (HFN.out e)
          have e10 : (Ah[i].k == 10) = false := by simpa using h10
          generalize Ah[i].k = ki at *
          clear e HFO HFN hkk h10 HA
          go_wp2_with fail
          exact ⟨⟨j + 1, by omega, by go_num, HV, by trivial⟩, by simp [intOf]; omega⟩
      · have hj' : j = fs.length := by omega
        subst hj'
        have hf0 : fromP Ah fs = 0 := by have := HJ.out; rw [List.drop_length] at this; rw [← this, fromP]
        have HV : Hid (R = ownP ⟨5, fs, tx, n⟩) := by show _ = _; rw [HR.out, HO.out hf0]
        clear HJ HI HF HO HA HR hf0
        have hjI : ¬ ((fs.length : Nat) : Int) < (fs.length : Int) := by omega
        have ct0 := HT.out
        have cc0 := HC.out
        clear HT HC
        by_cases htx : tx = ByteArray.empty
        · have hE1 : tx.toList.isEmpty = true := by rw [HE.out]; simpa using htx
          by_cases hn : n = 0
          · have hn1 : (n != 0) = false := by simp [hn]
            by_cases n1 : n < 0
            · have HW : Hid (ownP ⟨5, fs, tx, n⟩ = 1) := by
                show _ = _
                rw [ownP, if_neg (by simp [HTC.out.1, HTC.out.2, htx]), if_pos (.inl (by rw [HB.out.1]; exact n1))]
              clear htx hn
              go_wp2_with (go_at_call 50; refine (ct0 _).mono ?_; rintro e w' ⟨rfl, rfl⟩; refine Hid.out ?_)
              refine Lib.hid ?_
              go_wp2_with (go_at_call 49; refine (cc0 _).mono ?_; rintro e w' ⟨rfl, rfl⟩; refine Hid.out ?_)
              refine Lib.hid ?_
              go_wp2_with fail
              go_ret
              exact ⟨retI (by rw [HV.out]; rw [HW.out]; rfl), bel⟩
            by_cases n2 : 3 < n
            · have HW : Hid (ownP ⟨5, fs, tx, n⟩ = 1) := by
                show _ = _
                rw [ownP, if_neg (by simp [HTC.out.1, HTC.out.2, htx]), if_pos (.inr (by rw [HB.out.2]; exact n2))]
              clear htx hn
              go_wp2_with (go_at_call 50; refine (ct0 _).mono ?_; rintro e w' ⟨rfl, rfl⟩; refine Hid.out ?_)
              refine Lib.hid ?_
              go_wp2_with (go_at_call 49; refine (cc0 _).mono ?_; rintro e w' ⟨rfl, rfl⟩; refine Hid.out ?_)
              refine Lib.hid ?_
              go_wp2_with fail
              go_ret
              exact ⟨retI (by rw [HV.out]; rw [HW.out]; rfl), bel⟩
            have HW : Hid (ownP ⟨5, fs, tx, n⟩ = 0) := by
              show _ = _
              rw [ownP, if_neg (by simp [HTC.out.1, HTC.out.2, htx]), if_neg (by simp only [HB.out.1, HB.out.2]; omega), if_pos HTC.out.1]
            clear htx hn
            go_wp2_with (go_at_call 50; refine (ct0 _).mono ?_; rintro e w' ⟨rfl, rfl⟩; refine Hid.out ?_)
            refine Lib.hid ?_
            go_wp2_with (go_at_call 49; refine (cc0 _).mono ?_; rintro e w' ⟨rfl, rfl⟩; refine Hid.out ?_)
            refine Lib.hid ?_
            go_wp2_with fail
            go_ret
            exact ⟨retI (by rw [HV.out]; rw [HW.out]; rfl), bel⟩
          · have hn1 : (n != 0) = true := by simp [hn]
            by_cases n1 : n < 0
            · have HW : Hid (ownP ⟨5, fs, tx, n⟩ = 1) := by
                show _ = _
                rw [ownP, if_neg (by simp [HTC.out.1, HTC.out.2, htx]), if_pos (.inl (by rw [HB.out.1]; exact n1))]
              clear htx hn
              go_wp2_with (go_at_call 50; refine (ct0 _).mono ?_; rintro e w' ⟨rfl, rfl⟩; refine Hid.out ?_)
              refine Lib.hid ?_
              go_wp2_with (go_at_call 49; refine (cc0 _).mono ?_; rintro e w' ⟨rfl, rfl⟩; refine Hid.out ?_)
              refine Lib.hid ?_
              go_wp2_with fail
              go_ret
              exact ⟨retI (by rw [HV.out]; rw [HW.out]; rfl), bel⟩
            by_cases n2 : 3 < n
            · have HW : Hid (ownP ⟨5, fs, tx, n⟩ = 1) := by
                show _ = _
                rw [ownP, if_neg (by simp [HTC.out.1, HTC.out.2, htx]), if_pos (.inr (by rw [HB.out.2]; exact n2))]
              clear htx hn
              go_wp2_with (go_at_call 50; refine (ct0 _).mono ?_; rintro e w' ⟨rfl, rfl⟩; refine Hid.out ?_)
              refine Lib.hid ?_
              go_wp2_with (go_at_call 49; refine (cc0 _).mono ?_; rintro e w' ⟨rfl, rfl⟩; refine Hid.out ?_)
              refine Lib.hid ?_
              go_wp2_with fail
              go_ret
              exact ⟨retI (by rw [HV.out]; rw [HW.out]; rfl), bel⟩
            have HW : Hid (ownP ⟨5, fs, tx, n⟩ = 0) := by
              show _ = _
              rw [ownP, if_neg (by simp [HTC.out.1, HTC.out.2, htx]), if_neg (by simp only [HB.out.1, HB.out.2]; omega), if_pos HTC.out.1]
            clear htx hn
            go_wp2_with (go_at_call 50; refine (ct0 _).mono ?_; rintro e w' ⟨rfl, rfl⟩; refine Hid.out ?_)
            refine Lib.hid ?_
            go_wp2_with (go_at_call 49; refine (cc0 _).mono ?_; rintro e w' ⟨rfl, rfl⟩; refine Hid.out ?_)
            refine Lib.hid ?_
            go_wp2_with fail
            go_ret
            exact ⟨retI (by rw [HV.out]; rw [HW.out]; rfl), bel⟩
        · have hE1 : tx.toList.isEmpty = false := by rw [HE.out]; simpa using htx
          by_cases hn : n = 0
          · have hn1 : (n != 0) = false := by simp [hn]
            have HW : Hid (ownP ⟨5, fs, tx, n⟩ = 3) := by simp [Hid, ownP, HTC.out.1, HTC.out.2, htx, hn]
            clear htx hn
            go_wp2_with (go_at_call 50; refine (ct0 _).mono ?_; rintro e w' ⟨rfl, rfl⟩; refine Hid.out ?_)
            refine Lib.hid ?_
            go_wp2_with (go_at_call 49; refine (cc0 _).mono ?_; rintro e w' ⟨rfl, rfl⟩; refine Hid.out ?_)
            refine Lib.hid ?_
            go_wp2_with fail
            go_ret
            exact ⟨retI (by rw [HV.out]; rw [HW.out]; rfl), bel⟩
          · have hn1 : (n != 0) = true := by simp [hn]
            have HW : Hid (ownP ⟨5, fs, tx, n⟩ = 3) := by simp [Hid, ownP, HTC.out.1, HTC.out.2, htx, hn]
            clear htx hn
            go_wp2_with (go_at_call 50; refine (ct0 _).mono ?_; rintro e w' ⟨rfl, rfl⟩; refine Hid.out ?_)
            refine Lib.hid ?_
            go_wp2_with (go_at_call 49; refine (cc0 _).mono ?_; rintro e w' ⟨rfl, rfl⟩; refine Hid.out ?_)
            refine Lib.hid ?_
            go_wp2_with fail
            go_ret
            exact ⟨retI (by rw [HV.out]; rw [HW.out]; rfl), bel⟩
set_option maxHeartbeats 8000000 in
set_option maxRecDepth 100000 in
theorem nd_c {w : World} {b o cc own len : Nat} {k n : Int} {fa : Option Addr} {fs : List Int} {fc : Nat} {tx : ByteArray} {Ah : List Nd} (hk : k = 8)
    (hown : own < len) (hlen : len ≤ 12) (hAl : Ah.length = own) (c0 : w.cell? ⟨b, o + own * 4, none⟩ = some (.int .i64 k)) (c1 : w.cell? ⟨b, o + own * 4 + 1, none⟩ = some (.slice fa fs.length fc)) (c2 : w.cell? ⟨b, o + own * 4 + 2, none⟩ = some (.string tx)) (c3 : w.cell? ⟨b, o + own * 4 + 3, none⟩ = some (.int .i64 n)) (hI : IntsAt w fa fs)
    (hA : ∀ i (h : i < Ah.length), w.cell? ⟨b, o + i * 4, none⟩ = some (.int .i64 Ah[i].k)) (hz2 : fs.length ≤ 9223372036854775807) :
    Calls Tryz.prog 44 #[.slice (some ⟨b, o, none⟩) len cc, .int .i64 own] w fun e w' => e = .returned (.int .i64 (nodeP Ah ⟨k, fs, tx, n⟩ : Nat)) ∧ Below w.heap.size w w' := by
  have bel : Below w.heap.size w (W1 w k fa fs.length fc tx n) := (Below.refl _ _).alloc (Nat.le_refl _) _
  have hcb := cell_lt c0
  simp only at hcb
  have HI := Lib.hid (hI.keep (Keeps.of bel))
  have HA := Lib.hid (fun i (h : i < Ah.length) => Keeps.of bel _ _ (hA i h))
  have HE := Lib.hid (tx_isE tx)
  have HP := Lib.hid (parse_err tx)
  have hT : hasTP k = false := by subst hk; rfl
  have hC : hasNP k = true := by subst hk; rfl
  have cT := texted_any k
  have cC := dcounted_any k
  rw [hT] at cT
  rw [hC] at cC
  have HT := Lib.hid cT
  have HC := Lib.hid cC
  have hk0 : ¬ (k < 1 ∨ 10 < k) := by omega
  have hlo : inLo k = 1 := by subst hk; rfl
  have hhi : inHi k = 1 := by subst hk; rfl
  have hbl : bdLo k = 1 := by subst hk; rfl
  have hbh : bdHi k = 400 := by subst hk; rfl
  have HB := Lib.hid (And.intro hbl hbh)
  have HTC := Lib.hid (And.intro hT hC)
  have HNB := Lib.hid (fun h2 => dn_bad (A := Ah) (nd := ⟨k, fs, tx, n⟩) hk0 h2)
  have HNF := Lib.hid (fun h2 h3 => dn_from (A := Ah) (nd := ⟨k, fs, tx, n⟩) hk0 h2 h3)
  have HNO := Lib.hid (fun h2 h3 => dn_own (A := Ah) (nd := ⟨k, fs, tx, n⟩) hk0 h2 h3)
  have HLH := Lib.hid (And.intro hlo hhi)
  clear hT hC cT cC hlo hhi hbl hbh hI hA hk0
  unfold W1 at *
  obtain ⟨R, hR⟩ : ∃ R, R = nodeP Ah ⟨k, fs, tx, n⟩ := ⟨_, rfl⟩
  rw [← hR]
  have HR := Lib.hid hR
  clear hR
  have x1 : ¬ k < 1 := by omega
  have x2 : ¬ 10 < k := by omega
  subst hk
  by_cases hsh : fs.length = 1
  rotate_left 1
  · have s1 : ((fs.length : Int) != 1) = true := by simp; omega
    go_enter Tryz.func44, Tryz.ntmps44
    go_wp2_with fail
    go_ret
    exact ⟨retI (by rw [HR.out, HNB.out (by rw [HLH.out.1, HLH.out.2]; omega)]; rfl), bel⟩
  · have hsh2 : ¬ ((fs.length : Int) < inLo 8 ∨ inHi 8 < (fs.length : Int)) := by rw [HLH.out.1, HLH.out.2]; omega
    have HF := Lib.hid (HNF.out hsh2)
    have HO := Lib.hid (HNO.out hsh2)
    clear HNF HNO HNB hsh2
    have s1 : ((fs.length : Int) != 1) = false := by simp; omega
    clear hsh
    go_enter Tryz.func44, Tryz.ntmps44
    go_wp2_with fail
    go_loopw [7] (fun i wr => ∃ j : Nat, j ≤ fs.length ∧ i = .int .i64 j ∧ Hid (fromP Ah (fs.drop j) = fromP Ah fs) ∧ wr = (w.alloc (.cells #[.int .i64 8, .slice fa fs.length fc, .string tx, .int .i64 n] 52))) (fun i _ => fs.length - (intOf i).toNat)
    case atStart => exact ⟨0, by omega, rfl, by simp [Hid], rfl⟩
    case round =>
      obtain ⟨j, hj, rfl, HJ, rfl⟩ := hrel
      by_cases hlt : j < fs.length
      · have hfj := HJ.out
        rw [fromP_step hlt] at hfj
        have cj : ∃ b2 o2, fa = some ⟨b2, o2, none⟩ ∧ (w.alloc (.cells #[.int .i64 8, .slice fa fs.length fc, .string tx, .int .i64 n] 52)).cell? ⟨b2, o2 + j, none⟩ = some (.int .i64 fs[j]) := by
          rcases HI.out with hI1 | ⟨b2, o2, e, hI1⟩
          · rw [hI1] at hlt; simp at hlt
          · exact ⟨b2, o2, e, hI1 j hlt⟩
        obtain ⟨b2, o2, rfl, cj⟩ := cj
        have HFO : Hid (fromOne Ah fs[j] ≠ 0 → nodeP Ah ⟨8, fs, tx, n⟩ = fromOne Ah fs[j]) := fun h => by
          rw [if_neg h] at hfj
          rw [HF.out (by rw [← hfj]; exact h), ← hfj]
        have HFN : Hid (fromOne Ah fs[j] = 0 → fromP Ah (fs.drop (j + 1)) = fromP Ah fs) := fun h => by rw [if_pos h] at hfj; exact hfj
        have hjI : (j : Int) < (fs.length : Int) := by omega
        clear hfj HJ HI HF HO
        generalize fs[j] = f at *
        by_cases f0 : f < 0
        · have e : fromOne Ah f = 1 := by rw [fromOne, if_pos (.inl f0)]
          have HV := Lib.hid (HFO.out (by rw [e]; decide))
          rw [e] at HV
          clear e HFO HFN
          go_wp2_with fail
          go_ret
          exact ⟨retI (by rw [HR.out, HV.out]; rfl), bel⟩
        by_cases f1 : (own : Int) ≤ f
        · have e : fromOne Ah f = 1 := by rw [fromOne, if_pos (.inr (by rw [hAl]; exact f1))]
          have HV := Lib.hid (HFO.out (by rw [e]; decide))
          rw [e] at HV
          clear e HFO HFN
          go_wp2_with fail
          go_ret
          exact ⟨retI (by rw [HR.out, HV.out]; rfl), bel⟩
        obtain ⟨i, rfl⟩ : ∃ i : Nat, f = i := ⟨f.toNat, by omega⟩
        have hi : i < Ah.length := by omega
        have ci := HA.out i hi
        have hkk : kindAt Ah (i : Int) = Ah[i].k := by simp [kindAt, hi]
        have hiL : (i : Int) < (len : Int) := by omega
        have hi12 : i ≤ 12 := by omega
        by_cases h10 : Ah[i].k = 10
        · have e : fromOne Ah (i : Int) = 7 := by rw [fromOne, if_neg (by omega), hkk, if_pos h10]
          have HV := Lib.hid (HFO.out (by rw [e]; decide))
          rw [e] at HV
          rw [h10] at ci
          clear e HFO HFN hkk h10 HA
          go_wp2_with fail
          go_ret
          exact ⟨retI (by rw [HR.out, HV.out]; rfl), bel⟩
        · have e : fromOne Ah (i : Int) = 0 := by rw [fromOne, if_neg (by omega), hkk, if_neg h10]
          have HV := Lib.hid (HFN.out e)
          have e10 : (Ah[i].k == 10) = false := by simpa using h10
          generalize Ah[i].k = ki at *
          clear e HFO HFN hkk h10 HA
          go_wp2_with fail
          exact ⟨⟨j + 1, by omega, by go_num, HV, by trivial⟩, by simp [intOf]; omega⟩
      · have hj' : j = fs.length := by omega
        subst hj'
        have hf0 : fromP Ah fs = 0 := by have := HJ.out; rw [List.drop_length] at this; rw [← this, fromP]
        have HV : Hid (R = ownP ⟨8, fs, tx, n⟩) := by show _ = _; rw [HR.out, HO.out hf0]
        clear HJ HI HF HO HA HR hf0
        have hjI : ¬ ((fs.length : Nat) : Int) < (fs.length : Int) := by omega
        have ct0 := HT.out
        have cc0 := HC.out
        clear HT HC
        by_cases htx : tx = ByteArray.empty
        · have hE1 : tx.toList.isEmpty = true := by rw [HE.out]; simpa using htx
          by_cases hn : n = 0
          · have hn1 : (n != 0) = false := by simp [hn]
            by_cases n1 : n < 1
            · have HW : Hid (ownP ⟨8, fs, tx, n⟩ = 1) := by
                show _ = _
                rw [ownP, if_neg (by simp [HTC.out.1, HTC.out.2, htx]), if_pos (.inl (by rw [HB.out.1]; exact n1))]
              clear htx hn
              go_wp2_with (go_at_call 50; refine (ct0 _).mono ?_; rintro e w' ⟨rfl, rfl⟩; refine Hid.out ?_)
              refine Lib.hid ?_
              go_wp2_with (go_at_call 49; refine (cc0 _).mono ?_; rintro e w' ⟨rfl, rfl⟩; refine Hid.out ?_)
              refine Lib.hid ?_
              go_wp2_with fail
              go_ret
              exact ⟨retI (by rw [HV.out]; rw [HW.out]; rfl), bel⟩
            by_cases n2 : 400 < n
            · have HW : Hid (ownP ⟨8, fs, tx, n⟩ = 1) := by
                show _ = _
                rw [ownP, if_neg (by simp [HTC.out.1, HTC.out.2, htx]), if_pos (.inr (by rw [HB.out.2]; exact n2))]
              clear htx hn
              go_wp2_with (go_at_call 50; refine (ct0 _).mono ?_; rintro e w' ⟨rfl, rfl⟩; refine Hid.out ?_)
              refine Lib.hid ?_
              go_wp2_with (go_at_call 49; refine (cc0 _).mono ?_; rintro e w' ⟨rfl, rfl⟩; refine Hid.out ?_)
              refine Lib.hid ?_
              go_wp2_with fail
              go_ret
              exact ⟨retI (by rw [HV.out]; rw [HW.out]; rfl), bel⟩
            have HW : Hid (ownP ⟨8, fs, tx, n⟩ = 0) := by
              show _ = _
              rw [ownP, if_neg (by simp [HTC.out.1, HTC.out.2, htx]), if_neg (by simp only [HB.out.1, HB.out.2]; omega), if_pos HTC.out.1]
            clear htx hn
            go_wp2_with (go_at_call 50; refine (ct0 _).mono ?_; rintro e w' ⟨rfl, rfl⟩; refine Hid.out ?_)
            refine Lib.hid ?_
            go_wp2_with (go_at_call 49; refine (cc0 _).mono ?_; rintro e w' ⟨rfl, rfl⟩; refine Hid.out ?_)
            refine Lib.hid ?_
            go_wp2_with fail
            go_ret
            exact ⟨retI (by rw [HV.out]; rw [HW.out]; rfl), bel⟩
          · have hn1 : (n != 0) = true := by simp [hn]
            by_cases n1 : n < 1
            · have HW : Hid (ownP ⟨8, fs, tx, n⟩ = 1) := by
                show _ = _
                rw [ownP, if_neg (by simp [HTC.out.1, HTC.out.2, htx]), if_pos (.inl (by rw [HB.out.1]; exact n1))]
              clear htx hn
              go_wp2_with (go_at_call 50; refine (ct0 _).mono ?_; rintro e w' ⟨rfl, rfl⟩; refine Hid.out ?_)
              refine Lib.hid ?_
              go_wp2_with (go_at_call 49; refine (cc0 _).mono ?_; rintro e w' ⟨rfl, rfl⟩; refine Hid.out ?_)
              refine Lib.hid ?_
              go_wp2_with fail
              go_ret
              exact ⟨retI (by rw [HV.out]; rw [HW.out]; rfl), bel⟩
            by_cases n2 : 400 < n
            · have HW : Hid (ownP ⟨8, fs, tx, n⟩ = 1) := by
                show _ = _
                rw [ownP, if_neg (by simp [HTC.out.1, HTC.out.2, htx]), if_pos (.inr (by rw [HB.out.2]; exact n2))]
              clear htx hn
              go_wp2_with (go_at_call 50; refine (ct0 _).mono ?_; rintro e w' ⟨rfl, rfl⟩; refine Hid.out ?_)
              refine Lib.hid ?_
              go_wp2_with (go_at_call 49; refine (cc0 _).mono ?_; rintro e w' ⟨rfl, rfl⟩; refine Hid.out ?_)
              refine Lib.hid ?_
              go_wp2_with fail
              go_ret
              exact ⟨retI (by rw [HV.out]; rw [HW.out]; rfl), bel⟩
            have HW : Hid (ownP ⟨8, fs, tx, n⟩ = 0) := by
              show _ = _
              rw [ownP, if_neg (by simp [HTC.out.1, HTC.out.2, htx]), if_neg (by simp only [HB.out.1, HB.out.2]; omega), if_pos HTC.out.1]
            clear htx hn
            go_wp2_with (go_at_call 50; refine (ct0 _).mono ?_; rintro e w' ⟨rfl, rfl⟩; refine Hid.out ?_)
            refine Lib.hid ?_
            go_wp2_with (go_at_call 49; refine (cc0 _).mono ?_; rintro e w' ⟨rfl, rfl⟩; refine Hid.out ?_)
            refine Lib.hid ?_
            go_wp2_with fail
            go_ret
            exact ⟨retI (by rw [HV.out]; rw [HW.out]; rfl), bel⟩
        · have hE1 : tx.toList.isEmpty = false := by rw [HE.out]; simpa using htx
          by_cases hn : n = 0
          · have hn1 : (n != 0) = false := by simp [hn]
            have HW : Hid (ownP ⟨8, fs, tx, n⟩ = 3) := by simp [Hid, ownP, HTC.out.1, HTC.out.2, htx, hn]
            clear htx hn
            go_wp2_with (go_at_call 50; refine (ct0 _).mono ?_; rintro e w' ⟨rfl, rfl⟩; refine Hid.out ?_)
            refine Lib.hid ?_
            go_wp2_with (go_at_call 49; refine (cc0 _).mono ?_; rintro e w' ⟨rfl, rfl⟩; refine Hid.out ?_)
            refine Lib.hid ?_
            go_wp2_with fail
            go_ret
            exact ⟨retI (by rw [HV.out]; rw [HW.out]; rfl), bel⟩
          · have hn1 : (n != 0) = true := by simp [hn]
            have HW : Hid (ownP ⟨8, fs, tx, n⟩ = 3) := by simp [Hid, ownP, HTC.out.1, HTC.out.2, htx, hn]
            clear htx hn
            go_wp2_with (go_at_call 50; refine (ct0 _).mono ?_; rintro e w' ⟨rfl, rfl⟩; refine Hid.out ?_)
            refine Lib.hid ?_
            go_wp2_with (go_at_call 49; refine (cc0 _).mono ?_; rintro e w' ⟨rfl, rfl⟩; refine Hid.out ?_)
            refine Lib.hid ?_
            go_wp2_with fail
            go_ret
            exact ⟨retI (by rw [HV.out]; rw [HW.out]; rfl), bel⟩
end Go.Proofs.YthadeccnibnioaaGreatDoor
