import Derived.Test.YtnapbfilkahobaaGreatDoorHj
import Derived.Test.YtnapbfilkahobaaGreatDoorGt
import Derived.Test.YtnapbfilkahobaaGreatDoorHl
/- The document's Texted, Counted, and what is wrong with a node. -/
namespace Go.Proofs.YtnapbfilkahobaaGreatDoor
open Go.RowKit
set_option linter.unusedVariables false
set_option linter.unusedSimpArgs false

theorem texted_any (k : Int) (w : World) : Calls Tryz.prog 49 #[.int .i64 k] w fun e w' => e = .returned (.bool (hasTP k)) ∧ w = w' := by
  by_cases h : k = 2 ∨ k = 3 ∨ k = 4 ∨ k = 7
  · rcases h with rfl | rfl | rfl | rfl <;>
    · go_enter Tryz.func49, Tryz.ntmps49
      go_wp2_with fail
      go_ret
      exact ⟨rfl, rfl⟩
  · have e1 : (k == 2) = false := by simp; omega
    have e2 : (k == 3) = false := by simp; omega
    have e3 : (k == 4) = false := by simp; omega
    have e4 : (k == 7) = false := by simp; omega
    have e : hasTP k = false := by simp [hasTP, e1, e2, e3, e4]
    rw [e]
    clear h
    go_enter Tryz.func49, Tryz.ntmps49
    go_wp2_with fail
    go_ret
    exact ⟨rfl, rfl⟩
theorem counted_any (k : Int) (w : World) : Calls Tryz.prog 48 #[.int .i64 k] w fun e w' => e = .returned (.bool (hasNP k)) ∧ w = w' := by
  by_cases h : k = 1 ∨ k = 5 ∨ k = 8
  · rcases h with rfl | rfl | rfl <;>
    · go_enter Tryz.func48, Tryz.ntmps48
      go_wp2_with fail
      go_ret
      exact ⟨rfl, rfl⟩
  · have e1 : (k == 1) = false := by simp; omega
    have e2 : (k == 5) = false := by simp; omega
    have e3 : (k == 8) = false := by simp; omega
    have e : hasNP k = false := by simp [hasNP, e1, e2, e3]
    rw [e]
    clear h
    go_enter Tryz.func48, Tryz.ntmps48
    go_wp2_with fail
    go_ret
    exact ⟨rfl, rfl⟩
/-- Parse, of which the fault alone is looked at. -/
theorem parse_err (s : ByteArray) (w : World) : Calls Tryz.prog 7 #[.string s] w fun e w' => ∃ (a b : Int) (A : Option Addr) (n c : Nat) (at_ : Int), e = .returned (.tuple #[.agg #[.int .i64 a, .int .i64 b, .slice A n c], .int .i64 at_, .int .i64 (txP s.data.toList : Nat)]) ∧ Below w.heap.size w w' := by
  have h := parse_any s w
  unfold txP
  cases hr : readP s.data.toList with
  | ok t u => rw [hr] at h; exact h.mono fun e w' ⟨a, b, A, n, c, h1, _, h2⟩ => ⟨a, b, A, n, c, 0, h1, h2⟩
  | bad pl er => rw [hr] at h; exact h.mono fun e w' ⟨h1, h2⟩ => ⟨0, 0, none, 0, 0, _, h1, h2⟩
theorem tx_isE (tx : ByteArray) : tx.toList.isEmpty = decide (tx = ByteArray.empty) := by
  rw [← empty_iff tx]
  have e : (⟨#[]⟩ : ByteArray).toList = [] := by rw [toList_eq]
  rw [e]
  cases tx.toList <;> rfl
def W1 (w : World) (k : Int) (fa : Option Addr) (len fc : Nat) (tx : ByteArray) (n : Int) : World := w.alloc (.cells #[.int .i64 k, .slice fa len fc, .string tx, .int .i64 n] 52)
theorem dn_bad {A : List Nd} {nd : Nd} (h1 : ¬ (nd.k < 1 ∨ 10 < nd.k)) (h2 : (nd.fs.length : Int) < inLo nd.k ∨ inHi nd.k < (nd.fs.length : Int)) : nodeP A nd = 3 := by
  rw [nodeP, if_neg h1, if_pos h2]
theorem dn_from {A : List Nd} {nd : Nd} (h1 : ¬ (nd.k < 1 ∨ 10 < nd.k)) (h2 : ¬ ((nd.fs.length : Int) < inLo nd.k ∨ inHi nd.k < (nd.fs.length : Int))) (h3 : fromP A nd.fs ≠ 0) : nodeP A nd = fromP A nd.fs := by
  rw [nodeP, if_neg h1, if_neg h2, if_neg h3]
theorem dn_own {A : List Nd} {nd : Nd} (h1 : ¬ (nd.k < 1 ∨ 10 < nd.k)) (h2 : ¬ ((nd.fs.length : Int) < inLo nd.k ∨ inHi nd.k < (nd.fs.length : Int))) (h3 : fromP A nd.fs = 0) : nodeP A nd = ownP nd := by
  rw [nodeP, if_neg h1, if_neg h2, if_pos h3]
theorem retI {a b : Int} (h : a = b) : Ending.returned (.int .i64 a) = .returned (.int .i64 b) := by rw [h]
set_option maxHeartbeats 8000000 in
set_option maxRecDepth 100000 in
theorem nd_a {w : World} {b o cc own len : Nat} {k n : Int} {fa : Option Addr} {fs : List Int} {fc : Nat} {tx : ByteArray} {Ah : List Nd} (hk : k = 1)
    (hown : own < len) (hlen : len ≤ 12) (hAl : Ah.length = own) (c0 : w.cell? ⟨b, o + own * 4, none⟩ = some (.int .i64 k)) (c1 : w.cell? ⟨b, o + own * 4 + 1, none⟩ = some (.slice fa fs.length fc)) (c2 : w.cell? ⟨b, o + own * 4 + 2, none⟩ = some (.string tx)) (c3 : w.cell? ⟨b, o + own * 4 + 3, none⟩ = some (.int .i64 n)) (hI : IntsAt w fa fs)
    (hA : ∀ i (h : i < Ah.length), w.cell? ⟨b, o + i * 4, none⟩ = some (.int .i64 Ah[i].k)) (hz2 : fs.length ≤ 9223372036854775807) :
    Calls Tryz.prog 43 #[.slice (some ⟨b, o, none⟩) len cc, .int .i64 own] w fun e w' => e = .returned (.int .i64 (nodeP Ah ⟨k, fs, tx, n⟩ : Nat)) ∧ Below w.heap.size w w' := by
  have bel : Below w.heap.size w (W1 w k fa fs.length fc tx n) := (Below.refl _ _).alloc (Nat.le_refl _) _
  have hcb := cell_lt c0
  simp only at hcb
  have HI := Lib.hid (hI.keep (Keeps.of bel))
  have HA := Lib.hid (fun i (h : i < Ah.length) => Keeps.of bel _ _ (hA i h))
  have HE := Lib.hid (tx_isE tx)
  have HP := Lib.hid (parse_err tx)
  have hT : hasTP k = false := by subst hk; rfl
  have hC : hasNP k = true := by subst hk; rfl
  have cT := texted_any k
  have cC := counted_any k
  rw [hT] at cT
  rw [hC] at cC
  have HT := Lib.hid cT
  have HC := Lib.hid cC
  have hk0 : ¬ (k < 1 ∨ 10 < k) := by omega
  have hlo : inLo k = 0 := by subst hk; rfl
  have hhi : inHi k = 0 := by subst hk; rfl
  have hbl : bdLo k = 1 := by subst hk; rfl
  have hbh : bdHi k = 8 := by subst hk; rfl
  have HB := Lib.hid (And.intro hbl hbh)
  have HTC := Lib.hid (And.intro hT hC)
  have HNB := Lib.hid (fun h2 => dn_bad (A := Ah) (nd := ⟨k, fs, tx, n⟩) hk0 h2)
  have HNF := Lib.hid (fun h2 h3 => dn_from (A := Ah) (nd := ⟨k, fs, tx, n⟩) hk0 h2 h3)
  have HNO := Lib.hid (fun h2 h3 => dn_own (A := Ah) (nd := ⟨k, fs, tx, n⟩) hk0 h2 h3)
  have HLH := Lib.hid (And.intro hlo hhi)
  clear hT hC cT cC hlo hhi hbl hbh hI hA hk0
  unfold W1 at *
  obtain ⟨R, hR⟩ : ∃ R, R = nodeP Ah ⟨k, fs, tx, n⟩ := ⟨_, rfl⟩
  rw [← hR]
  have HR := Lib.hid hR
  clear hR
  have x1 : ¬ k < 1 := by omega
  have x2 : ¬ 10 < k := by omega
  subst hk
  by_cases hsh : fs.length = 0
  rotate_left 1
  · have s1 : ((fs.length : Int) != 0) = true := by rw [bne_iff_ne]; omega
    go_enter Tryz.func43, Tryz.ntmps43
    go_wp2_with fail
    go_ret
    exact ⟨retI (by rw [HR.out, HNB.out (by rw [HLH.out.1, HLH.out.2]; omega)]; rfl), bel⟩
  · have hsh2 : ¬ ((fs.length : Int) < inLo 1 ∨ inHi 1 < (fs.length : Int)) := by rw [HLH.out.1, HLH.out.2]; omega
    have HF := Lib.hid (HNF.out hsh2)
    have HO := Lib.hid (HNO.out hsh2)
    clear HNF HNO HNB hsh2
    have s1 : ((fs.length : Int) != 0) = false := by rw [bne_eq_false_iff_eq]; omega
    clear hsh
    go_enter Tryz.func43, Tryz.ntmps43
    go_wp2_with fail
    go_loopw [7] (fun i wr => ∃ j : Nat, j ≤ fs.length ∧ i = .int .i64 j ∧ Hid (fromP Ah (fs.drop j) = fromP Ah fs) ∧ wr = (w.alloc (.cells #[.int .i64 1, .slice fa fs.length fc, .string tx, .int .i64 n] 52))) (fun i _ => fs.length - (intOf i).toNat)
    case atStart => exact ⟨0, by omega, rfl, by simp [Hid], rfl⟩
    case round =>
      obtain ⟨j, hj, rfl, HJ, rfl⟩ := hrel
      by_cases hlt : j < fs.length
      · have hfj := HJ.out
        rw [fromP_step hlt] at hfj
        have cj : ∃ b2 o2, fa = some ⟨b2, o2, none⟩ ∧ (w.alloc (.cells #[.int .i64 1, .slice fa fs.length fc, .string tx, .int .i64 n] 52)).cell? ⟨b2, o2 + j, none⟩ = some (.int .i64 fs[j]) := by
          rcases HI.out with hI1 | ⟨b2, o2, e, hI1⟩
          · rw [hI1] at hlt; simp at hlt
          · exact ⟨b2, o2, e, hI1 j hlt⟩
        obtain ⟨b2, o2, rfl, cj⟩ := cj
        have HFO : Hid (fromOne Ah fs[j] ≠ 0 → nodeP Ah ⟨1, fs, tx, n⟩ = fromOne Ah fs[j]) := fun h => by
          rw [if_neg h] at hfj
          rw [HF.out (by rw [← hfj]; exact h), ← hfj]
        have HFN : Hid (fromOne Ah fs[j] = 0 → fromP Ah (fs.drop (j + 1)) = fromP Ah fs) := fun h => by rw [if_pos h] at hfj; exact hfj
        have hjI : (j : Int) < (fs.length : Int) := by omega
        clear hfj HJ HI HF HO
        generalize fs[j] = f at *
        by_cases f0 : f < 0
        · have e : fromOne Ah f = 1 := by rw [fromOne, if_pos (.inl f0)]
          have HV := Lib.hid (HFO.out (by rw [e]; decide))
          rw [e] at HV
          clear e HFO HFN
          go_wp2_with fail
          go_ret
          exact ⟨retI (by rw [HR.out, HV.out]; rfl), bel⟩
        by_cases f1 : (own : Int) ≤ f
        · have e : fromOne Ah f = 1 := by rw [fromOne, if_pos (.inr (by rw [hAl]; exact f1))]
          have HV := Lib.hid (HFO.out (by rw [e]; decide))
          rw [e] at HV
          clear e HFO HFN
          go_wp2_with fail
          go_ret
          exact ⟨retI (by rw [HR.out, HV.out]; rfl), bel⟩
        obtain ⟨i, rfl⟩ : ∃ i : Nat, f = i := ⟨f.toNat, by omega⟩
        have hi : i < Ah.length := by omega
        have ci := HA.out i hi
        have hkk : kindAt Ah (i : Int) = Ah[i].k := by simp [kindAt, hi]
        have hiL : (i : Int) < (len : Int) := by omega
        have hi12 : i ≤ 12 := by omega
        by_cases h10 : Ah[i].k = 10
        · have e : fromOne Ah (i : Int) = 7 := by rw [fromOne, if_neg (by omega), hkk, if_pos h10]
          have HV := Lib.hid (HFO.out (by rw [e]; decide))
          rw [e] at HV
          rw [h10] at ci
          clear e HFO HFN hkk h10 HA
          go_wp2_with fail
          go_ret
          exact ⟨retI (by rw [HR.out, HV.out]; rfl), bel⟩
        · have e : fromOne Ah (i : Int) = 0 := by rw [fromOne, if_neg (by omega), hkk, if_neg h10]
          have HV := Lib.hid (HFN.out e)
          have e10 : (Ah[i].k == 10) = false := by simpa using h10
          generalize Ah[i].k = ki at *
          clear e HFO HFN hkk h10 HA
          go_wp2_with fail
          exact ⟨⟨j + 1, by omega, by go_num, HV, by trivial⟩, by simp [intOf]; omega⟩
      · have hj' : j = fs.length := by omega
        subst hj'
        have hf0 : fromP Ah fs = 0 := by have := HJ.out; rw [List.drop_length] at this; rw [← this, fromP]
        have HV : Hid (R = ownP ⟨1, fs, tx, n⟩) := by show _ = _; rw [HR.out, HO.out hf0]
        clear HJ HI HF HO HA HR hf0
        have hjI : ¬ ((fs.length : Nat) : Int) < (fs.length : Int) := by omega
        have ct0 := HT.out
        have cc0 := HC.out
        clear HT HC
        by_cases htx : tx = ByteArray.empty
        · have hE1 : tx.toList.isEmpty = true := by rw [HE.out]; simpa using htx
          by_cases hn : n = 0
          · have hn1 : (n != 0) = false := by simp [hn]
            by_cases n1 : n < 1
            · have HW : Hid (ownP ⟨1, fs, tx, n⟩ = 1) := by
                show _ = _
                rw [ownP, if_neg (by simp [HTC.out.1, HTC.out.2, htx]), if_pos (.inl (by rw [HB.out.1]; exact n1))]
              clear htx hn
              go_wp2_with (go_at_call 49; refine (ct0 _).mono ?_; rintro e w' ⟨rfl, rfl⟩; refine Hid.out ?_)
              refine Lib.hid ?_
              go_wp2_with (go_at_call 48; refine (cc0 _).mono ?_; rintro e w' ⟨rfl, rfl⟩; refine Hid.out ?_)
              refine Lib.hid ?_
              go_wp2_with fail
              go_ret
              exact ⟨retI (by rw [HV.out]; rw [HW.out]; rfl), bel⟩
            by_cases n2 : 8 < n
            · have HW : Hid (ownP ⟨1, fs, tx, n⟩ = 1) := by
                show _ = _
                rw [ownP, if_neg (by simp [HTC.out.1, HTC.out.2, htx]), if_pos (.inr (by rw [HB.out.2]; exact n2))]
              clear htx hn
              go_wp2_with (go_at_call 49; refine (ct0 _).mono ?_; rintro e w' ⟨rfl, rfl⟩; refine Hid.out ?_)
              refine Lib.hid ?_
              go_wp2_with (go_at_call 48; refine (cc0 _).mono ?_; rintro e w' ⟨rfl, rfl⟩; refine Hid.out ?_)
              refine Lib.hid ?_
              go_wp2_with fail
              go_ret
              exact ⟨retI (by rw [HV.out]; rw [HW.out]; rfl), bel⟩
            have HW : Hid (ownP ⟨1, fs, tx, n⟩ = 0) := by
              show _ = _
              rw [ownP, if_neg (by simp [HTC.out.1, HTC.out.2, htx]), if_neg (by simp only [HB.out.1, HB.out.2]; omega), if_pos HTC.out.1]
            clear htx hn
            go_wp2_with (go_at_call 49; refine (ct0 _).mono ?_; rintro e w' ⟨rfl, rfl⟩; refine Hid.out ?_)
            refine Lib.hid ?_
            go_wp2_with (go_at_call 48; refine (cc0 _).mono ?_; rintro e w' ⟨rfl, rfl⟩; refine Hid.out ?_)
            refine Lib.hid ?_
            go_wp2_with fail
            go_ret
            exact ⟨retI (by rw [HV.out]; rw [HW.out]; rfl), bel⟩
          · have hn1 : (n != 0) = true := by simp [hn]
            by_cases n1 : n < 1
            · have HW : Hid (ownP ⟨1, fs, tx, n⟩ = 1) := by
                show _ = _
                rw [ownP, if_neg (by simp [HTC.out.1, HTC.out.2, htx]), if_pos (.inl (by rw [HB.out.1]; exact n1))]
              clear htx hn
              go_wp2_with (go_at_call 49; refine (ct0 _).mono ?_; rintro e w' ⟨rfl, rfl⟩; refine Hid.out ?_)
              refine Lib.hid ?_
              go_wp2_with (go_at_call 48; refine (cc0 _).mono ?_; rintro e w' ⟨rfl, rfl⟩; refine Hid.out ?_)
              refine Lib.hid ?_
              go_wp2_with fail
              go_ret
              exact ⟨retI (by rw [HV.out]; rw [HW.out]; rfl), bel⟩
            by_cases n2 : 8 < n
            · have HW : Hid (ownP ⟨1, fs, tx, n⟩ = 1) := by
                show _ = _
                rw [ownP, if_neg (by simp [HTC.out.1, HTC.out.2, htx]), if_pos (.inr (by rw [HB.out.2]; exact n2))]
              clear htx hn
              go_wp2_with (go_at_call 49; refine (ct0 _).mono ?_; rintro e w' ⟨rfl, rfl⟩; refine Hid.out ?_)
              refine Lib.hid ?_
              go_wp2_with (go_at_call 48; refine (cc0 _).mono ?_; rintro e w' ⟨rfl, rfl⟩; refine Hid.out ?_)
              refine Lib.hid ?_
              go_wp2_with fail
              go_ret
              exact ⟨retI (by rw [HV.out]; rw [HW.out]; rfl), bel⟩
            have HW : Hid (ownP ⟨1, fs, tx, n⟩ = 0) := by
              show _ = _
              rw [ownP, if_neg (by simp [HTC.out.1, HTC.out.2, htx]), if_neg (by simp only [HB.out.1, HB.out.2]; omega), if_pos HTC.out.1]
            clear htx hn
            go_wp2_with (go_at_call 49; refine (ct0 _).mono ?_; rintro e w' ⟨rfl, rfl⟩; refine Hid.out ?_)
            refine Lib.hid ?_
            go_wp2_with (go_at_call 48; refine (cc0 _).mono ?_; rintro e w' ⟨rfl, rfl⟩; refine Hid.out ?_)
            refine Lib.hid ?_
            go_wp2_with fail
            go_ret
            exact ⟨retI (by rw [HV.out]; rw [HW.out]; rfl), bel⟩
        · have hE1 : tx.toList.isEmpty = false := by rw [HE.out]; simpa using htx
          by_cases hn : n = 0
          · have hn1 : (n != 0) = false := by simp [hn]
            have HW : Hid (ownP ⟨1, fs, tx, n⟩ = 3) := by simp [Hid, ownP, HTC.out.1, HTC.out.2, htx, hn]
            clear htx hn
            go_wp2_with (go_at_call 49; refine (ct0 _).mono ?_; rintro e w' ⟨rfl, rfl⟩; refine Hid.out ?_)
            refine Lib.hid ?_
            go_wp2_with (go_at_call 48; refine (cc0 _).mono ?_; rintro e w' ⟨rfl, rfl⟩; refine Hid.out ?_)
            refine Lib.hid ?_
            go_wp2_with fail
            go_ret
            exact ⟨retI (by rw [HV.out]; rw [HW.out]; rfl), bel⟩
          · have hn1 : (n != 0) = true := by simp [hn]
            have HW : Hid (ownP ⟨1, fs, tx, n⟩ = 3) := by simp [Hid, ownP, HTC.out.1, HTC.out.2, htx, hn]
            clear htx hn
            go_wp2_with (go_at_call 49; refine (ct0 _).mono ?_; rintro e w' ⟨rfl, rfl⟩; refine Hid.out ?_)
            refine Lib.hid ?_
            go_wp2_with (go_at_call 48; refine (cc0 _).mono ?_; rintro e w' ⟨rfl, rfl⟩; refine Hid.out ?_)
            refine Lib.hid ?_
            go_wp2_with fail
            go_ret
            exact ⟨retI (by rw [HV.out]; rw [HW.out]; rfl), bel⟩
set_option maxHeartbeats 8000000 in
set_option maxRecDepth 100000 in
theorem nd_b {w : World} {b o cc own len : Nat} {k n : Int} {fa : Option Addr} {fs : List Int} {fc : Nat} {tx : ByteArray} {Ah : List Nd} (hk : k = 5)
    (hown : own < len) (hlen : len ≤ 12) (hAl : Ah.length = own) (c0 : w.cell? ⟨b, o + own * 4, none⟩ = some (.int .i64 k)) (c1 : w.cell? ⟨b, o + own * 4 + 1, none⟩ = some (.slice fa fs.length fc)) (c2 : w.cell? ⟨b, o + own * 4 + 2, none⟩ = some (.string tx)) (c3 : w.cell? ⟨b, o + own * 4 + 3, none⟩ = some (.int .i64 n)) (hI : IntsAt w fa fs)
    (hA : ∀ i (h : i < Ah.length), w.cell? ⟨b, o + i * 4, none⟩ = some (.int .i64 Ah[i].k)) (hz2 : fs.length ≤ 9223372036854775807) :
    Calls Tryz.prog 43 #[.slice (some ⟨b, o, none⟩) len cc, .int .i64 own] w fun e w' => e = .returned (.int .i64 (nodeP Ah ⟨k, fs, tx, n⟩ : Nat)) ∧ Below w.heap.size w w' := by
  have bel : Below w.heap.size w (W1 w k fa fs.length fc tx n) := (Below.refl _ _).alloc (Nat.le_refl _) _
  have hcb := cell_lt c0
  simp only at hcb
  have HI := Lib.hid (hI.keep (Keeps.of bel))
  have HA := Lib.hid (fun i (h : i < Ah.length) => Keeps.of bel _ _ (hA i h))
  have HE := Lib.hid (tx_isE tx)
  have HP := Lib.hid (parse_err tx)
  have hT : hasTP k = false := by subst hk; rfl
  have hC : hasNP k = true := by subst hk; rfl
  have cT := texted_any k
  have cC := counted_any k
  rw [hT] at cT
  rw [hC] at cC
  have HT := Lib.hid cT
  have HC := Lib.hid cC
  have hk0 : ¬ (k < 1 ∨ 10 < k) := by omega
  have hlo : inLo k = 1 := by subst hk; rfl
  have hhi : inHi k = 1 := by subst hk; rfl
  have hbl : bdLo k = 0 := by subst hk; rfl
  have hbh : bdHi k = 3 := by subst hk; rfl
  have HB := Lib.hid (And.intro hbl hbh)
  have HTC := Lib.hid (And.intro hT hC)
  have HNB := Lib.hid (fun h2 => dn_bad (A := Ah) (nd := ⟨k, fs, tx, n⟩) hk0 h2)
  have HNF := Lib.hid (fun h2 h3 => dn_from (A := Ah) (nd := ⟨k, fs, tx, n⟩) hk0 h2 h3)
  have HNO := Lib.hid (fun h2 h3 => dn_own (A := Ah) (nd := ⟨k, fs, tx, n⟩) hk0 h2 h3)
  have HLH := Lib.hid (And.intro hlo hhi)
  clear hT hC cT cC hlo hhi hbl hbh hI hA hk0
  unfold W1 at *
  obtain ⟨R, hR⟩ : ∃ R, R = nodeP Ah ⟨k, fs, tx, n⟩ := ⟨_, rfl⟩
  rw [← hR]
  have HR := Lib.hid hR
  clear hR
  have x1 : ¬ k < 1 := by omega
  have x2 : ¬ 10 < k := by omega
  subst hk
  by_cases hsh : fs.length = 1
  rotate_left 1
  · have s1 : ((fs.length : Int) != 1) = true := by simp; omega
    go_enter Tryz.func43, Tryz.ntmps43
    go_wp2_with fail
    go_ret
    exact ⟨retI (by rw [HR.out, HNB.out (by rw [HLH.out.1, HLH.out.2]; omega)]; rfl), bel⟩
  · have hsh2 : ¬ ((fs.length : Int) < inLo 5 ∨ inHi 5 < (fs.length : Int)) := by rw [HLH.out.1, HLH.out.2]; omega
    have HF := Lib.hid (HNF.out hsh2)
    have HO := Lib.hid (HNO.out hsh2)
    clear HNF HNO HNB hsh2
    have s1 : ((fs.length : Int) != 1) = false := by simp; omega
    clear hsh
    go_enter Tryz.func43, Tryz.ntmps43
    go_wp2_with fail
    go_loopw [7] (fun i wr => ∃ j : Nat, j ≤ fs.length ∧ i = .int .i64 j ∧ Hid (fromP Ah (fs.drop j) = fromP Ah fs) ∧ wr = (w.alloc (.cells #[.int .i64 5, .slice fa fs.length fc, .string tx, .int .i64 n] 52))) (fun i _ => fs.length - (intOf i).toNat)
    case atStart => exact ⟨0, by omega, rfl, by simp [Hid], rfl⟩
    case round =>
      obtain ⟨j, hj, rfl, HJ, rfl⟩ := hrel
      by_cases hlt : j < fs.length
      · have hfj := HJ.out
        rw [fromP_step hlt] at hfj
        have cj : ∃ b2 o2, fa = some ⟨b2, o2, none⟩ ∧ (w.alloc (.cells #[.int .i64 5, .slice fa fs.length fc, .string tx, .int .i64 n] 52)).cell? ⟨b2, o2 + j, none⟩ = some (.int .i64 fs[j]) := by
          rcases HI.out with hI1 | ⟨b2, o2, e, hI1⟩
          · rw [hI1] at hlt; simp at hlt
          · exact ⟨b2, o2, e, hI1 j hlt⟩
        obtain ⟨b2, o2, rfl, cj⟩ := cj
        have HFO : Hid (fromOne Ah fs[j] ≠ 0 → nodeP Ah ⟨5, fs, tx, n⟩ = fromOne Ah fs[j]) := fun h => by
          rw [if_neg h] at hfj
          rw [HF.out (by rw [← hfj]; exact h), ← hfj]
        have HFN : Hid (fromOne Ah fs[j] = 0 → fromP Ah (fs.drop (j + 1)) = fromP Ah fs) := fun h => by rw [if_pos h] at hfj; exact hfj
        have hjI : (j : Int) < (fs.length : Int) := by omega
        clear hfj HJ HI HF HO
        generalize fs[j] = f at *
        by_cases f0 : f < 0
        · have e : fromOne Ah f = 1 := by rw [fromOne, if_pos (.inl f0)]
          have HV := Lib.hid (HFO.out (by rw [e]; decide))
          rw [e] at HV
          clear e HFO HFN
          go_wp2_with fail
          go_ret
          exact ⟨retI (by rw [HR.out, HV.out]; rfl), bel⟩
        by_cases f1 : (own : Int) ≤ f
        · have e : fromOne Ah f = 1 := by rw [fromOne, if_pos (.inr (by rw [hAl]; exact f1))]
          have HV := Lib.hid (HFO.out (by rw [e]; decide))
          rw [e] at HV
          clear e HFO HFN
          go_wp2_with fail
          go_ret
          exact ⟨retI (by rw [HR.out, HV.out]; rfl), bel⟩
        obtain ⟨i, rfl⟩ : ∃ i : Nat, f = i := ⟨f.toNat, by omega⟩
        have hi : i < Ah.length := by omega
        have ci := HA.out i hi
        have hkk : kindAt Ah (i : Int) = Ah[i].k := by simp [kindAt, hi]
        have hiL : (i : Int) < (len : Int) := by omega
        have hi12 : i ≤ 12 := by omega
        by_cases h10 : Ah[i].k = 10
        · have e : fromOne Ah (i : Int) = 7 := by rw [fromOne, if_neg (by omega), hkk, if_pos h10]
          have HV := Lib.hid (HFO.out (by rw [e]; decide))
          rw [e] at HV
          rw [h10] at ci
          clear e HFO HFN hkk h10 HA
          go_wp2_with fail
          go_ret
          exact ⟨retI (by rw [HR.out, HV.out]; rfl), bel⟩
        · have e : fromOne Ah (i : Int) = 0 := by rw [fromOne, if_neg (by omega), hkk, if_neg h10]
          have HV := Lib.hid (HFN.out e)
          have e10 : (Ah[i].k == 10) = false := by simpa using h10
          generalize Ah[i].k = ki at *
          clear e HFO HFN hkk h10 HA
          go_wp2_with fail
          exact ⟨⟨j + 1, by omega, by go_num, HV, by trivial⟩, by simp [intOf]; omega⟩
      · have hj' : j = fs.length := by omega
        subst hj'
        have hf0 : fromP Ah fs = 0 := by have := HJ.out; rw [List.drop_length] at this; rw [← this, fromP]
        have HV : Hid (R = ownP ⟨5, fs, tx, n⟩) := by show _ = _; rw [HR.out, HO.out hf0]
        clear HJ HI HF HO HA HR hf0
        have hjI : ¬ ((fs.length : Nat) : Int) < (fs.length : Int) := by omega
        have ct0 := HT.out
        have cc0 := HC.out
        clear HT HC
        by_cases htx : tx = ByteArray.empty
        · have hE1 : tx.toList.isEmpty = true := by rw [HE.out]; simpa using htx
          by_cases hn : n = 0
          · have hn1 : (n != 0) = false := by simp [hn]
            by_cases n1 : n < 0
            · have HW : Hid (ownP ⟨5, fs, tx, n⟩ = 1) := by
                show _ = _
                rw [ownP, if_neg (by simp [HTC.out.1, HTC.out.2, htx]), if_pos (.inl (by rw [HB.out.1]; exact n1))]
              clear htx hn
              go_wp2_with (go_at_call 49; refine (ct0 _).mono ?_; rintro e w' ⟨rfl, rfl⟩; refine Hid.out ?_)
              refine Lib.hid ?_
              go_wp2_with (go_at_call 48; refine (cc0 _).mono ?_; rintro e w' ⟨rfl, rfl⟩; refine Hid.out ?_)
              refine Lib.hid ?_
              go_wp2_with fail
              go_ret
              exact ⟨retI (by rw [HV.out]; rw [HW.out]; rfl), bel⟩
            by_cases n2 : 3 < n
            · have HW : Hid (ownP ⟨5, fs, tx, n⟩ = 1) := by
                show _ = _
                rw [ownP, if_neg (by simp [HTC.out.1, HTC.out.2, htx]), if_pos (.inr (by rw [HB.out.2]; exact n2))]
              clear htx hn
              go_wp2_with (go_at_call 49; refine (ct0 _).mono ?_; rintro e w' ⟨rfl, rfl⟩; refine Hid.out ?_)
              refine Lib.hid ?_
              go_wp2_with (go_at_call 48; refine (cc0 _).mono ?_; rintro e w' ⟨rfl, rfl⟩; refine Hid.out ?_)
              refine Lib.hid ?_
              go_wp2_with fail
              go_ret
              exact ⟨retI (by rw [HV.out]; rw [HW.out]; rfl), bel⟩
            have HW : Hid (ownP ⟨5, fs, tx, n⟩ = 0) := by
              show _ = _
              rw [ownP, if_neg (by simp [HTC.out.1, HTC.out.2, htx]), if_neg (by simp only [HB.out.1, HB.out.2]; omega), if_pos HTC.out.1]
            clear htx hn
            go_wp2_with (go_at_call 49; refine (ct0 _).mono ?_; rintro e w' ⟨rfl, rfl⟩; refine Hid.out ?_)
            refine Lib.hid ?_
            go_wp2_with (go_at_call 48; refine (cc0 _).mono ?_; rintro e w' ⟨rfl, rfl⟩; refine Hid.out ?_)
            refine Lib.hid ?_
            go_wp2_with fail
            go_ret
            exact ⟨retI (by rw [HV.out]; rw [HW.out]; rfl), bel⟩
          · have hn1 : (n != 0) = true := by simp [hn]
            by_cases n1 : n < 0
            · have HW : Hid (ownP ⟨5, fs, tx, n⟩ = 1) := by
                show _ = _
                rw [ownP, if_neg (by simp [HTC.out.1, HTC.out.2, htx]), if_pos (.inl (by rw [HB.out.1]; exact n1))]
              clear htx hn
              go_wp2_with (go_at_call 49; refine (ct0 _).mono ?_; rintro e w' ⟨rfl, rfl⟩; refine Hid.out ?_)
              refine Lib.hid ?_
              go_wp2_with (go_at_call 48; refine (cc0 _).mono ?_; rintro e w' ⟨rfl, rfl⟩; refine Hid.out ?_)
              refine Lib.hid ?_
              go_wp2_with fail
              go_ret
              exact ⟨retI (by rw [HV.out]; rw [HW.out]; rfl), bel⟩
            by_cases n2 : 3 < n
            · have HW : Hid (ownP ⟨5, fs, tx, n⟩ = 1) := by
                show _ = _
                rw [ownP, if_neg (by simp [HTC.out.1, HTC.out.2, htx]), if_pos (.inr (by rw [HB.out.2]; exact n2))]
              clear htx hn
              go_wp2_with (go_at_call 49; refine (ct0 _).mono ?_; rintro e w' ⟨rfl, rfl⟩; refine Hid.out ?_)
              refine Lib.hid ?_
              go_wp2_with (go_at_call 48; refine (cc0 _).mono ?_; rintro e w' ⟨rfl, rfl⟩; refine Hid.out ?_)
              refine Lib.hid ?_
              go_wp2_with fail
              go_ret
              exact ⟨retI (by rw [HV.out]; rw [HW.out]; rfl), bel⟩
            have HW : Hid (ownP ⟨5, fs, tx, n⟩ = 0) := by
              show _ = _
              rw [ownP, if_neg (by simp [HTC.out.1, HTC.out.2, htx]), if_neg (by simp only [HB.out.1, HB.out.2]; omega), if_pos HTC.out.1]
            clear htx hn
            go_wp2_with (go_at_call 49; refine (ct0 _).mono ?_; rintro e w' ⟨rfl, rfl⟩; refine Hid.out ?_)
            refine Lib.hid ?_
            go_wp2_with (go_at_call 48; refine (cc0 _).mono ?_; rintro e w' ⟨rfl, rfl⟩; refine Hid.out ?_)
            refine Lib.hid ?_
            go_wp2_with fail
            go_ret
            exact ⟨retI (by rw [HV.out]; rw [HW.out]; rfl), bel⟩
        · have hE1 : tx.toList.isEmpty = false := by rw [HE.out]; simpa using htx
          by_cases hn : n = 0
          · have hn1 : (n != 0) = false := by simp [hn]
            have HW : Hid (ownP ⟨5, fs, tx, n⟩ = 3) := by simp [Hid, ownP, HTC.out.1, HTC.out.2, htx, hn]
            clear htx hn
            go_wp2_with (go_at_call 49; refine (ct0 _).mono ?_; rintro e w' ⟨rfl, rfl⟩; refine Hid.out ?_)
            refine Lib.hid ?_
            go_wp2_with (go_at_call 48; refine (cc0 _).mono ?_; rintro e w' ⟨rfl, rfl⟩; refine Hid.out ?_)
            refine Lib.hid ?_
            go_wp2_with fail
            go_ret
            exact ⟨retI (by rw [HV.out]; rw [HW.out]; rfl), bel⟩
          · have hn1 : (n != 0) = true := by simp [hn]
            have HW : Hid (ownP ⟨5, fs, tx, n⟩ = 3) := by simp [Hid, ownP, HTC.out.1, HTC.out.2, htx, hn]
            clear htx hn
            go_wp2_with (go_at_call 49; refine (ct0 _).mono ?_; rintro e w' ⟨rfl, rfl⟩; refine Hid.out ?_)
            refine Lib.hid ?_
            go_wp2_with (go_at_call 48; refine (cc0 _).mono ?_; rintro e w' ⟨rfl, rfl⟩; refine Hid.out ?_)
            refine Lib.hid ?_
            go_wp2_with fail
            go_ret
            exact ⟨retI (by rw [HV.out]; rw [HW.out]; rfl), bel⟩
set_option maxHeartbeats 8000000 in
set_option maxRecDepth 100000 in
theorem nd_c {w : World} {b o cc own len : Nat} {k n : Int} {fa : Option Addr} {fs : List Int} {fc : Nat} {tx : ByteArray} {Ah : List Nd} (hk : k = 8)
    (hown : own < len) (hlen : len ≤ 12) (hAl : Ah.length = own) (c0 : w.cell? ⟨b, o + own * 4, none⟩ = some (.int .i64 k)) (c1 : w.cell? ⟨b, o + own * 4 + 1, none⟩ = some (.slice fa fs.length fc)) (c2 : w.cell? ⟨b, o + own * 4 + 2, none⟩ = some (.string tx)) (c3 : w.cell? ⟨b, o + own * 4 + 3, none⟩ = some (.int .i64 n)) (hI : IntsAt w fa fs)
    (hA : ∀ i (h : i < Ah.length), w.cell? ⟨b, o + i * 4, none⟩ = some (.int .i64 Ah[i].k)) (hz2 : fs.length ≤ 9223372036854775807) :
    Calls Tryz.prog 43 #[.slice (some ⟨b, o, none⟩) len cc, .int .i64 own] w fun e w' => e = .returned (.int .i64 (nodeP Ah ⟨k, fs, tx, n⟩ : Nat)) ∧ Below w.heap.size w w' := by
  have bel : Below w.heap.size w (W1 w k fa fs.length fc tx n) := (Below.refl _ _).alloc (Nat.le_refl _) _
  have hcb := cell_lt c0
  simp only at hcb
  have HI := Lib.hid (hI.keep (Keeps.of bel))
  have HA := Lib.hid (fun i (h : i < Ah.length) => Keeps.of bel _ _ (hA i h))
  have HE := Lib.hid (tx_isE tx)
  have HP := Lib.hid (parse_err tx)
  have hT : hasTP k = false := by subst hk; rfl
  have hC : hasNP k = true := by subst hk; rfl
  have cT := texted_any k
  have cC := counted_any k
  rw [hT] at cT
  rw [hC] at cC
  have HT := Lib.hid cT
  have HC := Lib.hid cC
  have hk0 : ¬ (k < 1 ∨ 10 < k) := by omega
  have hlo : inLo k = 1 := by subst hk; rfl
  have hhi : inHi k = 1 := by subst hk; rfl
  have hbl : bdLo k = 1 := by subst hk; rfl
  have hbh : bdHi k = 400 := by subst hk; rfl
  have HB := Lib.hid (And.intro hbl hbh)
  have HTC := Lib.hid (And.intro hT hC)
  have HNB := Lib.hid (fun h2 => dn_bad (A := Ah) (nd := ⟨k, fs, tx, n⟩) hk0 h2)
  have HNF := Lib.hid (fun h2 h3 => dn_from (A := Ah) (nd := ⟨k, fs, tx, n⟩) hk0 h2 h3)
  have HNO := Lib.hid (fun h2 h3 => dn_own (A := Ah) (nd := ⟨k, fs, tx, n⟩) hk0 h2 h3)
  have HLH := Lib.hid (And.intro hlo hhi)
  clear hT hC cT cC hlo hhi hbl hbh hI hA hk0
  unfold W1 at *
  obtain ⟨R, hR⟩ : ∃ R, R = nodeP Ah ⟨k, fs, tx, n⟩ := ⟨_, rfl⟩
  rw [← hR]
  have HR := Lib.hid hR
  clear hR
  have x1 : ¬ k < 1 := by omega
  have x2 : ¬ 10 < k := by omega
  subst hk
  by_cases hsh : fs.length = 1
  rotate_left 1
  · have s1 : ((fs.length : Int) != 1) = true := by simp; omega
    go_enter Tryz.func43, Tryz.ntmps43
    go_wp2_with fail
    go_ret
    exact ⟨retI (by rw [HR.out, HNB.out (by rw [HLH.out.1, HLH.out.2]; omega)]; rfl), bel⟩
  · have hsh2 : ¬ ((fs.length : Int) < inLo 8 ∨ inHi 8 < (fs.length : Int)) := by rw [HLH.out.1, HLH.out.2]; omega
    have HF := Lib.hid (HNF.out hsh2)
    have HO := Lib.hid (HNO.out hsh2)
    clear HNF HNO HNB hsh2
    have s1 : ((fs.length : Int) != 1) = false := by simp; omega
    clear hsh
    go_enter Tryz.func43, Tryz.ntmps43
    go_wp2_with fail
    go_loopw [7] (fun i wr => ∃ j : Nat, j ≤ fs.length ∧ i = .int .i64 j ∧ Hid (fromP Ah (fs.drop j) = fromP Ah fs) ∧ wr = (w.alloc (.cells #[.int .i64 8, .slice fa fs.length fc, .string tx, .int .i64 n] 52))) (fun i _ => fs.length - (intOf i).toNat)
    case atStart => exact ⟨0, by omega, rfl, by simp [Hid], rfl⟩
    case round =>
      obtain ⟨j, hj, rfl, HJ, rfl⟩ := hrel
      by_cases hlt : j < fs.length
      · have hfj := HJ.out
        rw [fromP_step hlt] at hfj
        have cj : ∃ b2 o2, fa = some ⟨b2, o2, none⟩ ∧ (w.alloc (.cells #[.int .i64 8, .slice fa fs.length fc, .string tx, .int .i64 n] 52)).cell? ⟨b2, o2 + j, none⟩ = some (.int .i64 fs[j]) := by
          rcases HI.out with hI1 | ⟨b2, o2, e, hI1⟩
          · rw [hI1] at hlt; simp at hlt
          · exact ⟨b2, o2, e, hI1 j hlt⟩
        obtain ⟨b2, o2, rfl, cj⟩ := cj
        have HFO : Hid (fromOne Ah fs[j] ≠ 0 → nodeP Ah ⟨8, fs, tx, n⟩ = fromOne Ah fs[j]) := fun h => by
          rw [if_neg h] at hfj
          rw [HF.out (by rw [← hfj]; exact h), ← hfj]
        have HFN : Hid (fromOne Ah fs[j] = 0 → fromP Ah (fs.drop (j + 1)) = fromP Ah fs) := fun h => by rw [if_pos h] at hfj; exact hfj
        have hjI : (j : Int) < (fs.length : Int) := by omega
        clear hfj HJ HI HF HO
        generalize fs[j] = f at *
        by_cases f0 : f < 0
        · have e : fromOne Ah f = 1 := by rw [fromOne, if_pos (.inl f0)]
          have HV := Lib.hid (HFO.out (by rw [e]; decide))
          rw [e] at HV
          clear e HFO HFN
          go_wp2_with fail
          go_ret
          exact ⟨retI (by rw [HR.out, HV.out]; rfl), bel⟩
        by_cases f1 : (own : Int) ≤ f
        · have e : fromOne Ah f = 1 := by rw [fromOne, if_pos (.inr (by rw [hAl]; exact f1))]
          have HV := Lib.hid (HFO.out (by rw [e]; decide))
          rw [e] at HV
          clear e HFO HFN
          go_wp2_with fail
          go_ret
          exact ⟨retI (by rw [HR.out, HV.out]; rfl), bel⟩
        obtain ⟨i, rfl⟩ : ∃ i : Nat, f = i := ⟨f.toNat, by omega⟩
        have hi : i < Ah.length := by omega
        have ci := HA.out i hi
        have hkk : kindAt Ah (i : Int) = Ah[i].k := by simp [kindAt, hi]
        have hiL : (i : Int) < (len : Int) := by omega
        have hi12 : i ≤ 12 := by omega
        by_cases h10 : Ah[i].k = 10
        · have e : fromOne Ah (i : Int) = 7 := by rw [fromOne, if_neg (by omega), hkk, if_pos h10]
          have HV := Lib.hid (HFO.out (by rw [e]; decide))
          rw [e] at HV
          rw [h10] at ci
          clear e HFO HFN hkk h10 HA
          go_wp2_with fail
          go_ret
          exact ⟨retI (by rw [HR.out, HV.out]; rfl), bel⟩
        · have e : fromOne Ah (i : Int) = 0 := by rw [fromOne, if_neg (by omega), hkk, if_neg h10]
          have HV := Lib.hid (HFN.out e)
          have e10 : (Ah[i].k == 10) = false := by simpa using h10
          generalize Ah[i].k = ki at *
          clear e HFO HFN hkk h10 HA
          go_wp2_with fail
          exact ⟨⟨j + 1, by omega, by go_num, HV, by trivial⟩, by simp [intOf]; omega⟩
      · have hj' : j = fs.length := by omega
        subst hj'
        have hf0 : fromP Ah fs = 0 := by have := HJ.out; rw [List.drop_length] at this; rw [← this, fromP]
        have HV : Hid (R = ownP ⟨8, fs, tx, n⟩) := by show _ = _; rw [HR.out, HO.out hf0]
        clear HJ HI HF HO HA HR hf0
        have hjI : ¬ ((fs.length : Nat) : Int) < (fs.length : Int) := by omega
        have ct0 := HT.out
        have cc0 := HC.out
        clear HT HC
        by_cases htx : tx = ByteArray.empty
        · have hE1 : tx.toList.isEmpty = true := by rw [HE.out]; simpa using htx
          by_cases hn : n = 0
          · have hn1 : (n != 0) = false := by simp [hn]
            by_cases n1 : n < 1
            · have HW : Hid (ownP ⟨8, fs, tx, n⟩ = 1) := by
                show _ = _
                rw [ownP, if_neg (by simp [HTC.out.1, HTC.out.2, htx]), if_pos (.inl (by rw [HB.out.1]; exact n1))]
              clear htx hn
              go_wp2_with (go_at_call 49; refine (ct0 _).mono ?_; rintro e w' ⟨rfl, rfl⟩; refine Hid.out ?_)
              refine Lib.hid ?_
              go_wp2_with (go_at_call 48; refine (cc0 _).mono ?_; rintro e w' ⟨rfl, rfl⟩; refine Hid.out ?_)
              refine Lib.hid ?_
              go_wp2_with fail
              go_ret
              exact ⟨retI (by rw [HV.out]; rw [HW.out]; rfl), bel⟩
            by_cases n2 : 400 < n
            · have HW : Hid (ownP ⟨8, fs, tx, n⟩ = 1) := by
                show _ = _
                rw [ownP, if_neg (by simp [HTC.out.1, HTC.out.2, htx]), if_pos (.inr (by rw [HB.out.2]; exact n2))]
              clear htx hn
              go_wp2_with (go_at_call 49; refine (ct0 _).mono ?_; rintro e w' ⟨rfl, rfl⟩; refine Hid.out ?_)
              refine Lib.hid ?_
              go_wp2_with (go_at_call 48; refine (cc0 _).mono ?_; rintro e w' ⟨rfl, rfl⟩; refine Hid.out ?_)
              refine Lib.hid ?_
              go_wp2_with fail
              go_ret
              exact ⟨retI (by rw [HV.out]; rw [HW.out]; rfl), bel⟩
            have HW : Hid (ownP ⟨8, fs, tx, n⟩ = 0) := by
              show _ = _
              rw [ownP, if_neg (by simp [HTC.out.1, HTC.out.2, htx]), if_neg (by simp only [HB.out.1, HB.out.2]; omega), if_pos HTC.out.1]
            clear htx hn
            go_wp2_with (go_at_call 49; refine (ct0 _).mono ?_; rintro e w' ⟨rfl, rfl⟩; refine Hid.out ?_)
            refine Lib.hid ?_
            go_wp2_with (go_at_call 48; refine (cc0 _).mono ?_; rintro e w' ⟨rfl, rfl⟩; refine Hid.out ?_)
            refine Lib.hid ?_
            go_wp2_with fail
            go_ret
            exact ⟨retI (by rw [HV.out]; rw [HW.out]; rfl), bel⟩
          · have hn1 : (n != 0) = true := by simp [hn]
            by_cases n1 : n < 1
            · have HW : Hid (ownP ⟨8, fs, tx, n⟩ = 1) := by
                show _ = _
                rw [ownP, if_neg (by simp [HTC.out.1, HTC.out.2, htx]), if_pos (.inl (by rw [HB.out.1]; exact n1))]
              clear htx hn
              go_wp2_with (go_at_call 49; refine (ct0 _).mono ?_; rintro e w' ⟨rfl, rfl⟩; refine Hid.out ?_)
              refine Lib.hid ?_
              go_wp2_with (go_at_call 48; refine (cc0 _).mono ?_; rintro e w' ⟨rfl, rfl⟩; refine Hid.out ?_)
              refine Lib.hid ?_
              go_wp2_with fail
              go_ret
              exact ⟨retI (by rw [HV.out]; rw [HW.out]; rfl), bel⟩
            by_cases n2 : 400 < n
            · have HW : Hid (ownP ⟨8, fs, tx, n⟩ = 1) := by
                show _ = _
                rw [ownP, if_neg (by simp [HTC.out.1, HTC.out.2, htx]), if_pos (.inr (by rw [HB.out.2]; exact n2))]
              clear htx hn
              go_wp2_with (go_at_call 49; refine (ct0 _).mono ?_; rintro e w' ⟨rfl, rfl⟩; refine Hid.out ?_)
              refine Lib.hid ?_
              go_wp2_with (go_at_call 48; refine (cc0 _).mono ?_; rintro e w' ⟨rfl, rfl⟩; refine Hid.out ?_)
              refine Lib.hid ?_
              go_wp2_with fail
              go_ret
              exact ⟨retI (by rw [HV.out]; rw [HW.out]; rfl), bel⟩
            have HW : Hid (ownP ⟨8, fs, tx, n⟩ = 0) := by
              show _ = _
              rw [ownP, if_neg (by simp [HTC.out.1, HTC.out.2, htx]), if_neg (by simp only [HB.out.1, HB.out.2]; omega), if_pos HTC.out.1]
            clear htx hn
            go_wp2_with (go_at_call 49; refine (ct0 _).mono ?_; rintro e w' ⟨rfl, rfl⟩; refine Hid.out ?_)
            refine Lib.hid ?_
            go_wp2_with (go_at_call 48; refine (cc0 _).mono ?_; rintro e w' ⟨rfl, rfl⟩; refine Hid.out ?_)
            refine Lib.hid ?_
            go_wp2_with fail
            go_ret
            exact ⟨retI (by rw [HV.out]; rw [HW.out]; rfl), bel⟩
        · have hE1 : tx.toList.isEmpty = false := by rw [HE.out]; simpa using htx
          by_cases hn : n = 0
          · have hn1 : (n != 0) = false := by simp [hn]
            have HW : Hid (ownP ⟨8, fs, tx, n⟩ = 3) := by simp [Hid, ownP, HTC.out.1, HTC.out.2, htx, hn]
            clear htx hn
            go_wp2_with (go_at_call 49; refine (ct0 _).mono ?_; rintro e w' ⟨rfl, rfl⟩; refine Hid.out ?_)
            refine Lib.hid ?_
            go_wp2_with (go_at_call 48; refine (cc0 _).mono ?_; rintro e w' ⟨rfl, rfl⟩; refine Hid.out ?_)
            refine Lib.hid ?_
            go_wp2_with fail
            go_ret
            exact ⟨retI (by rw [HV.out]; rw [HW.out]; rfl), bel⟩
          · have hn1 : (n != 0) = true := by simp [hn]
            have HW : Hid (ownP ⟨8, fs, tx, n⟩ = 3) := by simp [Hid, ownP, HTC.out.1, HTC.out.2, htx, hn]
            clear htx hn
            go_wp2_with (go_at_call 49; refine (ct0 _).mono ?_; rintro e w' ⟨rfl, rfl⟩; refine Hid.out ?_)
            refine Lib.hid ?_
            go_wp2_with (go_at_call 48; refine (cc0 _).mono ?_; rintro e w' ⟨rfl, rfl⟩; refine Hid.out ?_)
            refine Lib.hid ?_
            go_wp2_with fail
            go_ret
            exact ⟨retI (by rw [HV.out]; rw [HW.out]; rfl), bel⟩
end Go.Proofs.YtnapbfilkahobaaGreatDoor

/- The document's Node: the other kinds. -/
namespace Go.Proofs.YtnapbfilkahobaaGreatDoor
open Go.RowKit
set_option linter.unusedVariables false
set_option linter.unusedSimpArgs false
set_option maxHeartbeats 8000000 in
set_option maxRecDepth 100000 in
theorem nd_d {w : World} {b o cc own len : Nat} {k n : Int} {fa : Option Addr} {fs : List Int} {fc : Nat} {tx : ByteArray} {Ah : List Nd} (hk : k = 6)
    (hown : own < len) (hlen : len ≤ 12) (hAl : Ah.length = own) (c0 : w.cell? ⟨b, o + own * 4, none⟩ = some (.int .i64 k)) (c1 : w.cell? ⟨b, o + own * 4 + 1, none⟩ = some (.slice fa fs.length fc)) (c2 : w.cell? ⟨b, o + own * 4 + 2, none⟩ = some (.string tx)) (c3 : w.cell? ⟨b, o + own * 4 + 3, none⟩ = some (.int .i64 n)) (hI : IntsAt w fa fs)
    (hA : ∀ i (h : i < Ah.length), w.cell? ⟨b, o + i * 4, none⟩ = some (.int .i64 Ah[i].k)) (hz2 : fs.length ≤ 9223372036854775807) :
    Calls Tryz.prog 43 #[.slice (some ⟨b, o, none⟩) len cc, .int .i64 own] w fun e w' => e = .returned (.int .i64 (nodeP Ah ⟨k, fs, tx, n⟩ : Nat)) ∧ Below w.heap.size w w' := by
  have bel : Below w.heap.size w (W1 w k fa fs.length fc tx n) := (Below.refl _ _).alloc (Nat.le_refl _) _
  have hcb := cell_lt c0
  simp only at hcb
  have HI := Lib.hid (hI.keep (Keeps.of bel))
  have HA := Lib.hid (fun i (h : i < Ah.length) => Keeps.of bel _ _ (hA i h))
  have HE := Lib.hid (tx_isE tx)
  have HP := Lib.hid (parse_err tx)
  have hT : hasTP k = false := by subst hk; rfl
  have hC : hasNP k = false := by subst hk; rfl
  have cT := texted_any k
  have cC := counted_any k
  rw [hT] at cT
  rw [hC] at cC
  have HT := Lib.hid cT
  have HC := Lib.hid cC
  have hk0 : ¬ (k < 1 ∨ 10 < k) := by omega
  have hlo : inLo k = 1 := by subst hk; rfl
  have hhi : inHi k = 4 := by subst hk; rfl
  have hbl : bdLo k = 0 := by subst hk; rfl
  have hbh : bdHi k = 0 := by subst hk; rfl
  have HB := Lib.hid (And.intro hbl hbh)
  have HTC := Lib.hid (And.intro hT hC)
  have HNB := Lib.hid (fun h2 => dn_bad (A := Ah) (nd := ⟨k, fs, tx, n⟩) hk0 h2)
  have HNF := Lib.hid (fun h2 h3 => dn_from (A := Ah) (nd := ⟨k, fs, tx, n⟩) hk0 h2 h3)
  have HNO := Lib.hid (fun h2 h3 => dn_own (A := Ah) (nd := ⟨k, fs, tx, n⟩) hk0 h2 h3)
  have HLH := Lib.hid (And.intro hlo hhi)
  clear hT hC cT cC hlo hhi hbl hbh hI hA hk0
  unfold W1 at *
  obtain ⟨R, hR⟩ : ∃ R, R = nodeP Ah ⟨k, fs, tx, n⟩ := ⟨_, rfl⟩
  rw [← hR]
  have HR := Lib.hid hR
  clear hR
  have x1 : ¬ k < 1 := by omega
  have x2 : ¬ 10 < k := by omega
  subst hk
  by_cases hsh : 1 ≤ fs.length ∧ fs.length ≤ 4
  rotate_left 1
  · by_cases hs2 : fs.length < 1
    · have s1 : (fs.length : Int) < 1 := by omega
      go_enter Tryz.func43, Tryz.ntmps43
      go_wp2_with fail
      go_ret
      exact ⟨retI (by rw [HR.out, HNB.out (by rw [HLH.out.1, HLH.out.2]; omega)]; rfl), bel⟩
    · have s1 : ¬ (fs.length : Int) < 1 := by omega
      have s2 : (4 : Int) < (fs.length : Int) := by omega
      go_enter Tryz.func43, Tryz.ntmps43
      go_wp2_with fail
      go_ret
      exact ⟨retI (by rw [HR.out, HNB.out (by rw [HLH.out.1, HLH.out.2]; omega)]; rfl), bel⟩
  · have hsh2 : ¬ ((fs.length : Int) < inLo 6 ∨ inHi 6 < (fs.length : Int)) := by rw [HLH.out.1, HLH.out.2]; omega
    have HF := Lib.hid (HNF.out hsh2)
    have HO := Lib.hid (HNO.out hsh2)
    clear HNF HNO HNB hsh2
    have s1 : ¬ (fs.length : Int) < 1 := by omega
    have s2 : ¬ (4 : Int) < (fs.length : Int) := by omega
    clear hsh
    go_enter Tryz.func43, Tryz.ntmps43
    go_wp2_with fail
    go_loopw [7] (fun i wr => ∃ j : Nat, j ≤ fs.length ∧ i = .int .i64 j ∧ Hid (fromP Ah (fs.drop j) = fromP Ah fs) ∧ wr = (w.alloc (.cells #[.int .i64 6, .slice fa fs.length fc, .string tx, .int .i64 n] 52))) (fun i _ => fs.length - (intOf i).toNat)
    case atStart => exact ⟨0, by omega, rfl, by simp [Hid], rfl⟩
    case round =>
      obtain ⟨j, hj, rfl, HJ, rfl⟩ := hrel
      by_cases hlt : j < fs.length
      · have hfj := HJ.out
        rw [fromP_step hlt] at hfj
        have cj : ∃ b2 o2, fa = some ⟨b2, o2, none⟩ ∧ (w.alloc (.cells #[.int .i64 6, .slice fa fs.length fc, .string tx, .int .i64 n] 52)).cell? ⟨b2, o2 + j, none⟩ = some (.int .i64 fs[j]) := by
          rcases HI.out with hI1 | ⟨b2, o2, e, hI1⟩
          · rw [hI1] at hlt; simp at hlt
          · exact ⟨b2, o2, e, hI1 j hlt⟩
        obtain ⟨b2, o2, rfl, cj⟩ := cj
        have HFO : Hid (fromOne Ah fs[j] ≠ 0 → nodeP Ah ⟨6, fs, tx, n⟩ = fromOne Ah fs[j]) := fun h => by
          rw [if_neg h] at hfj
          rw [HF.out (by rw [← hfj]; exact h), ← hfj]
        have HFN : Hid (fromOne Ah fs[j] = 0 → fromP Ah (fs.drop (j + 1)) = fromP Ah fs) := fun h => by rw [if_pos h] at hfj; exact hfj
        have hjI : (j : Int) < (fs.length : Int) := by omega
        clear hfj HJ HI HF HO
        generalize fs[j] = f at *
        by_cases f0 : f < 0
        · have e : fromOne Ah f = 1 := by rw [fromOne, if_pos (.inl f0)]
          have HV := Lib.hid (HFO.out (by rw [e]; decide))
          rw [e] at HV
          clear e HFO HFN
          go_wp2_with fail
          go_ret
          exact ⟨retI (by rw [HR.out, HV.out]; rfl), bel⟩
        by_cases f1 : (own : Int) ≤ f
        · have e : fromOne Ah f = 1 := by rw [fromOne, if_pos (.inr (by rw [hAl]; exact f1))]
          have HV := Lib.hid (HFO.out (by rw [e]; decide))
          rw [e] at HV
          clear e HFO HFN
          go_wp2_with fail
          go_ret
          exact ⟨retI (by rw [HR.out, HV.out]; rfl), bel⟩
        obtain ⟨i, rfl⟩ : ∃ i : Nat, f = i := ⟨f.toNat, by omega⟩
        have hi : i < Ah.length := by omega
        have ci := HA.out i hi
        have hkk : kindAt Ah (i : Int) = Ah[i].k := by simp [kindAt, hi]
        have hiL : (i : Int) < (len : Int) := by omega
        have hi12 : i ≤ 12 := by omega
        by_cases h10 : Ah[i].k = 10
        · have e : fromOne Ah (i : Int) = 7 := by rw [fromOne, if_neg (by omega), hkk, if_pos h10]
          have HV := Lib.hid (HFO.out (by rw [e]; decide))
          rw [e] at HV
          rw [h10] at ci
          clear e HFO HFN hkk h10 HA
          go_wp2_with fail
          go_ret
          exact ⟨retI (by rw [HR.out, HV.out]; rfl), bel⟩
        · have e : fromOne Ah (i : Int) = 0 := by rw [fromOne, if_neg (by omega), hkk, if_neg h10]
          have HV := Lib.hid (HFN.out e)
          have e10 : (Ah[i].k == 10) = false := by simpa using h10
          generalize Ah[i].k = ki at *
          clear e HFO HFN hkk h10 HA
          go_wp2_with fail
          exact ⟨⟨j + 1, by omega, by go_num, HV, by trivial⟩, by simp [intOf]; omega⟩
      · have hj' : j = fs.length := by omega
        subst hj'
        have hf0 : fromP Ah fs = 0 := by have := HJ.out; rw [List.drop_length] at this; rw [← this, fromP]
        have HV : Hid (R = ownP ⟨6, fs, tx, n⟩) := by show _ = _; rw [HR.out, HO.out hf0]
        clear HJ HI HF HO HA HR hf0
        have hjI : ¬ ((fs.length : Nat) : Int) < (fs.length : Int) := by omega
        have ct0 := HT.out
        have cc0 := HC.out
        clear HT HC
        by_cases htx : tx = ByteArray.empty
        · have hE1 : tx.toList.isEmpty = true := by rw [HE.out]; simpa using htx
          by_cases hn : n = 0
          · have hn1 : (n != 0) = false := by simp [hn]
            have HW : Hid (ownP ⟨6, fs, tx, n⟩ = 0) := by
              show _ = _
              rw [ownP, if_neg (by simp [HTC.out.1, HTC.out.2, htx, hn]), if_neg (by simp only [HB.out.1, HB.out.2]; omega), if_pos HTC.out.1]
            clear htx hn
            go_wp2_with (go_at_call 49; refine (ct0 _).mono ?_; rintro e w' ⟨rfl, rfl⟩; refine Hid.out ?_)
            refine Lib.hid ?_
            go_wp2_with (go_at_call 48; refine (cc0 _).mono ?_; rintro e w' ⟨rfl, rfl⟩; refine Hid.out ?_)
            refine Lib.hid ?_
            go_wp2_with fail
            go_ret
            exact ⟨retI (by rw [HV.out]; rw [HW.out]; rfl), bel⟩
          · have hn1 : (n != 0) = true := by simp [hn]
            have HW : Hid (ownP ⟨6, fs, tx, n⟩ = 3) := by simp [Hid, ownP, HTC.out.1, HTC.out.2, htx, hn]
            clear htx hn
            go_wp2_with (go_at_call 49; refine (ct0 _).mono ?_; rintro e w' ⟨rfl, rfl⟩; refine Hid.out ?_)
            refine Lib.hid ?_
            go_wp2_with (go_at_call 48; refine (cc0 _).mono ?_; rintro e w' ⟨rfl, rfl⟩; refine Hid.out ?_)
            refine Lib.hid ?_
            go_wp2_with fail
            go_ret
            exact ⟨retI (by rw [HV.out]; rw [HW.out]; rfl), bel⟩
        · have hE1 : tx.toList.isEmpty = false := by rw [HE.out]; simpa using htx
          by_cases hn : n = 0
          · have hn1 : (n != 0) = false := by simp [hn]
            have HW : Hid (ownP ⟨6, fs, tx, n⟩ = 3) := by simp [Hid, ownP, HTC.out.1, HTC.out.2, htx, hn]
            clear htx hn
            go_wp2_with (go_at_call 49; refine (ct0 _).mono ?_; rintro e w' ⟨rfl, rfl⟩; refine Hid.out ?_)
            refine Lib.hid ?_
            go_wp2_with (go_at_call 48; refine (cc0 _).mono ?_; rintro e w' ⟨rfl, rfl⟩; refine Hid.out ?_)
            refine Lib.hid ?_
            go_wp2_with fail
            go_ret
            exact ⟨retI (by rw [HV.out]; rw [HW.out]; rfl), bel⟩
          · have hn1 : (n != 0) = true := by simp [hn]
            have HW : Hid (ownP ⟨6, fs, tx, n⟩ = 3) := by simp [Hid, ownP, HTC.out.1, HTC.out.2, htx, hn]
            clear htx hn
            go_wp2_with (go_at_call 49; refine (ct0 _).mono ?_; rintro e w' ⟨rfl, rfl⟩; refine Hid.out ?_)
            refine Lib.hid ?_
            go_wp2_with (go_at_call 48; refine (cc0 _).mono ?_; rintro e w' ⟨rfl, rfl⟩; refine Hid.out ?_)
            refine Lib.hid ?_
            go_wp2_with fail
            go_ret
            exact ⟨retI (by rw [HV.out]; rw [HW.out]; rfl), bel⟩
set_option maxHeartbeats 8000000 in
set_option maxRecDepth 100000 in
theorem nd_e {w : World} {b o cc own len : Nat} {k n : Int} {fa : Option Addr} {fs : List Int} {fc : Nat} {tx : ByteArray} {Ah : List Nd} (hk : k = 2 ∨ k = 3 ∨ k = 4 ∨ k = 7)
    (hown : own < len) (hlen : len ≤ 12) (hAl : Ah.length = own) (c0 : w.cell? ⟨b, o + own * 4, none⟩ = some (.int .i64 k)) (c1 : w.cell? ⟨b, o + own * 4 + 1, none⟩ = some (.slice fa fs.length fc)) (c2 : w.cell? ⟨b, o + own * 4 + 2, none⟩ = some (.string tx)) (c3 : w.cell? ⟨b, o + own * 4 + 3, none⟩ = some (.int .i64 n)) (hI : IntsAt w fa fs)
    (hA : ∀ i (h : i < Ah.length), w.cell? ⟨b, o + i * 4, none⟩ = some (.int .i64 Ah[i].k)) (hz2 : fs.length ≤ 9223372036854775807) :
    Calls Tryz.prog 43 #[.slice (some ⟨b, o, none⟩) len cc, .int .i64 own] w fun e w' => e = .returned (.int .i64 (nodeP Ah ⟨k, fs, tx, n⟩ : Nat)) ∧ Below w.heap.size w w' := by
  have bel : Below w.heap.size w (W1 w k fa fs.length fc tx n) := (Below.refl _ _).alloc (Nat.le_refl _) _
  have hcb := cell_lt c0
  simp only at hcb
  have HI := Lib.hid (hI.keep (Keeps.of bel))
  have HA := Lib.hid (fun i (h : i < Ah.length) => Keeps.of bel _ _ (hA i h))
  have HE := Lib.hid (tx_isE tx)
  have HP := Lib.hid (parse_err tx)
  have hT : hasTP k = true := by rcases hk with rfl | rfl | rfl | rfl <;> rfl
  have hC : hasNP k = false := by rcases hk with rfl | rfl | rfl | rfl <;> rfl
  have cT := texted_any k
  have cC := counted_any k
  rw [hT] at cT
  rw [hC] at cC
  have HT := Lib.hid cT
  have HC := Lib.hid cC
  have hk0 : ¬ (k < 1 ∨ 10 < k) := by omega
  have hlo : inLo k = 1 := by rcases hk with rfl | rfl | rfl | rfl <;> rfl
  have hhi : inHi k = 1 := by rcases hk with rfl | rfl | rfl | rfl <;> rfl
  have hbl : bdLo k = 0 := by rcases hk with rfl | rfl | rfl | rfl <;> rfl
  have hbh : bdHi k = 0 := by rcases hk with rfl | rfl | rfl | rfl <;> rfl
  have HB := Lib.hid (And.intro hbl hbh)
  have HTC := Lib.hid (And.intro hT hC)
  have HNB := Lib.hid (fun h2 => dn_bad (A := Ah) (nd := ⟨k, fs, tx, n⟩) hk0 h2)
  have HNF := Lib.hid (fun h2 h3 => dn_from (A := Ah) (nd := ⟨k, fs, tx, n⟩) hk0 h2 h3)
  have HNO := Lib.hid (fun h2 h3 => dn_own (A := Ah) (nd := ⟨k, fs, tx, n⟩) hk0 h2 h3)
  have HLH := Lib.hid (And.intro hlo hhi)
  clear hT hC cT cC hlo hhi hbl hbh hI hA hk0
  unfold W1 at *
  obtain ⟨R, hR⟩ : ∃ R, R = nodeP Ah ⟨k, fs, tx, n⟩ := ⟨_, rfl⟩
  rw [← hR]
  have HR := Lib.hid hR
  clear hR
  have x1 : ¬ k < 1 := by omega
  have x2 : ¬ 10 < k := by omega
  have y1 : (k == 1) = false := by simp; omega
  have y5 : (k == 5) = false := by simp; omega
  have y6 : (k == 6) = false := by simp; omega
  have y8 : (k == 8) = false := by simp; omega
  have z1 : (k != 1) = true := by simp; omega
  have z6 : (k != 6) = true := by simp; omega
  clear hk
  by_cases hsh : fs.length = 1
  rotate_left 1
  · have s1 : ((fs.length : Int) != 1) = true := by simp; omega
    go_enter Tryz.func43, Tryz.ntmps43
    go_wp2_with fail
    go_ret
    exact ⟨retI (by rw [HR.out, HNB.out (by rw [HLH.out.1, HLH.out.2]; omega)]; rfl), bel⟩
  · have hsh2 : ¬ ((fs.length : Int) < inLo k ∨ inHi k < (fs.length : Int)) := by rw [HLH.out.1, HLH.out.2]; omega
    have HF := Lib.hid (HNF.out hsh2)
    have HO := Lib.hid (HNO.out hsh2)
    clear HNF HNO HNB hsh2
    have s1 : ((fs.length : Int) != 1) = false := by simp; omega
    clear hsh
    go_enter Tryz.func43, Tryz.ntmps43
    go_wp2_with fail
    go_loopw [7] (fun i wr => ∃ j : Nat, j ≤ fs.length ∧ i = .int .i64 j ∧ Hid (fromP Ah (fs.drop j) = fromP Ah fs) ∧ wr = (w.alloc (.cells #[.int .i64 k, .slice fa fs.length fc, .string tx, .int .i64 n] 52))) (fun i _ => fs.length - (intOf i).toNat)
    case atStart => exact ⟨0, by omega, rfl, by simp [Hid], rfl⟩
    case round =>
      obtain ⟨j, hj, rfl, HJ, rfl⟩ := hrel
      by_cases hlt : j < fs.length
      · have hfj := HJ.out
        rw [fromP_step hlt] at hfj
        have cj : ∃ b2 o2, fa = some ⟨b2, o2, none⟩ ∧ (w.alloc (.cells #[.int .i64 k, .slice fa fs.length fc, .string tx, .int .i64 n] 52)).cell? ⟨b2, o2 + j, none⟩ = some (.int .i64 fs[j]) := by
          rcases HI.out with hI1 | ⟨b2, o2, e, hI1⟩
          · rw [hI1] at hlt; simp at hlt
          · exact ⟨b2, o2, e, hI1 j hlt⟩
        obtain ⟨b2, o2, rfl, cj⟩ := cj
        have HFO : Hid (fromOne Ah fs[j] ≠ 0 → nodeP Ah ⟨k, fs, tx, n⟩ = fromOne Ah fs[j]) := fun h => by
          rw [if_neg h] at hfj
          rw [HF.out (by rw [← hfj]; exact h), ← hfj]
        have HFN : Hid (fromOne Ah fs[j] = 0 → fromP Ah (fs.drop (j + 1)) = fromP Ah fs) := fun h => by rw [if_pos h] at hfj; exact hfj
        have hjI : (j : Int) < (fs.length : Int) := by omega
        clear hfj HJ HI HF HO
        generalize fs[j] = f at *
        by_cases f0 : f < 0
        · have e : fromOne Ah f = 1 := by rw [fromOne, if_pos (.inl f0)]
          have HV := Lib.hid (HFO.out (by rw [e]; decide))
          rw [e] at HV
          clear e HFO HFN
          go_wp2_with fail
          go_ret
          exact ⟨retI (by rw [HR.out, HV.out]; rfl), bel⟩
        by_cases f1 : (own : Int) ≤ f
        · have e : fromOne Ah f = 1 := by rw [fromOne, if_pos (.inr (by rw [hAl]; exact f1))]
          have HV := Lib.hid (HFO.out (by rw [e]; decide))
          rw [e] at HV
          clear e HFO HFN
          go_wp2_with fail
          go_ret
          exact ⟨retI (by rw [HR.out, HV.out]; rfl), bel⟩
        obtain ⟨i, rfl⟩ : ∃ i : Nat, f = i := ⟨f.toNat, by omega⟩
        have hi : i < Ah.length := by omega
        have ci := HA.out i hi
        have hkk : kindAt Ah (i : Int) = Ah[i].k := by simp [kindAt, hi]
        have hiL : (i : Int) < (len : Int) := by omega
        have hi12 : i ≤ 12 := by omega
        by_cases h10 : Ah[i].k = 10
        · have e : fromOne Ah (i : Int) = 7 := by rw [fromOne, if_neg (by omega), hkk, if_pos h10]
          have HV := Lib.hid (HFO.out (by rw [e]; decide))
          rw [e] at HV
          rw [h10] at ci
          clear e HFO HFN hkk h10 HA
          go_wp2_with fail
          go_ret
          exact ⟨retI (by rw [HR.out, HV.out]; rfl), bel⟩
        · have e : fromOne Ah (i : Int) = 0 := by rw [fromOne, if_neg (by omega), hkk, if_neg h10]
          have HV := Lib.hid (HFN.out e)
          have e10 : (Ah[i].k == 10) = false := by simpa using h10
          generalize Ah[i].k = ki at *
          clear e HFO HFN hkk h10 HA
          go_wp2_with fail
          exact ⟨⟨j + 1, by omega, by go_num, HV, by trivial⟩, by simp [intOf]; omega⟩
      · have hj' : j = fs.length := by omega
        subst hj'
        have hf0 : fromP Ah fs = 0 := by have := HJ.out; rw [List.drop_length] at this; rw [← this, fromP]
        have HV : Hid (R = ownP ⟨k, fs, tx, n⟩) := by show _ = _; rw [HR.out, HO.out hf0]
        clear HJ HI HF HO HA HR hf0
        have hjI : ¬ ((fs.length : Nat) : Int) < (fs.length : Int) := by omega
        have ct0 := HT.out
        have cc0 := HC.out
        clear HT HC
        by_cases htx : tx = ByteArray.empty
        · have hE1 : tx.toList.isEmpty = true := by rw [HE.out]; simpa using htx
          by_cases hn : n = 0
          · have hn1 : (n != 0) = false := by simp [hn]
            have HW : Hid (ownP ⟨k, fs, tx, n⟩ = txP tx.data.toList) := by
              show _ = _
              rw [ownP, if_neg (by simp [HTC.out.1, HTC.out.2, hn]), if_neg (by simp only [HB.out.1, HB.out.2]; omega), if_neg (by simp [HTC.out.1])]
            clear htx hn
            generalize txP tx.data.toList = tq at *
            go_wp2_with (go_at_call 49; refine (ct0 _).mono ?_; rintro e w' ⟨rfl, rfl⟩; refine Hid.out ?_)
            refine Lib.hid ?_
            go_wp2_with (go_at_call 48; refine (cc0 _).mono ?_; rintro e w' ⟨rfl, rfl⟩; refine Hid.out ?_)
            refine Lib.hid ?_
            go_wp2_with (go_at_call 7; refine (HP.out _).mono ?_; rintro e w' ⟨pa, pb, pA, pn, pc, pat, rfl, bp⟩; refine Hid.out ?_)
            refine Lib.hid ?_
            go_wp2_with fail
            go_ret
            exact ⟨retI (by rw [HV.out, HW.out]), below_two bel (bp.alloc bp.size _)⟩
          · have hn1 : (n != 0) = true := by simp [hn]
            have HW : Hid (ownP ⟨k, fs, tx, n⟩ = 3) := by simp [Hid, ownP, HTC.out.1, HTC.out.2, htx, hn]
            clear htx hn
            go_wp2_with (go_at_call 49; refine (ct0 _).mono ?_; rintro e w' ⟨rfl, rfl⟩; refine Hid.out ?_)
            refine Lib.hid ?_
            go_wp2_with (go_at_call 48; refine (cc0 _).mono ?_; rintro e w' ⟨rfl, rfl⟩; refine Hid.out ?_)
            refine Lib.hid ?_
            go_wp2_with fail
            go_ret
            exact ⟨retI (by rw [HV.out]; rw [HW.out]; rfl), bel⟩
        · have hE1 : tx.toList.isEmpty = false := by rw [HE.out]; simpa using htx
          by_cases hn : n = 0
          · have hn1 : (n != 0) = false := by simp [hn]
            have HW : Hid (ownP ⟨k, fs, tx, n⟩ = txP tx.data.toList) := by
              show _ = _
              rw [ownP, if_neg (by simp [HTC.out.1, HTC.out.2, hn]), if_neg (by simp only [HB.out.1, HB.out.2]; omega), if_neg (by simp [HTC.out.1])]
            clear htx hn
            generalize txP tx.data.toList = tq at *
            go_wp2_with (go_at_call 49; refine (ct0 _).mono ?_; rintro e w' ⟨rfl, rfl⟩; refine Hid.out ?_)
            refine Lib.hid ?_
            go_wp2_with (go_at_call 48; refine (cc0 _).mono ?_; rintro e w' ⟨rfl, rfl⟩; refine Hid.out ?_)
            refine Lib.hid ?_
            go_wp2_with (go_at_call 7; refine (HP.out _).mono ?_; rintro e w' ⟨pa, pb, pA, pn, pc, pat, rfl, bp⟩; refine Hid.out ?_)
            refine Lib.hid ?_
            go_wp2_with fail
            go_ret
            exact ⟨retI (by rw [HV.out, HW.out]), below_two bel (bp.alloc bp.size _)⟩
          · have hn1 : (n != 0) = true := by simp [hn]
            have HW : Hid (ownP ⟨k, fs, tx, n⟩ = 3) := by simp [Hid, ownP, HTC.out.1, HTC.out.2, htx, hn]
            clear htx hn
            go_wp2_with (go_at_call 49; refine (ct0 _).mono ?_; rintro e w' ⟨rfl, rfl⟩; refine Hid.out ?_)
            refine Lib.hid ?_
            go_wp2_with (go_at_call 48; refine (cc0 _).mono ?_; rintro e w' ⟨rfl, rfl⟩; refine Hid.out ?_)
            refine Lib.hid ?_
            go_wp2_with fail
            go_ret
            exact ⟨retI (by rw [HV.out]; rw [HW.out]; rfl), bel⟩
set_option maxHeartbeats 8000000 in
set_option maxRecDepth 100000 in
theorem nd_f {w : World} {b o cc own len : Nat} {k n : Int} {fa : Option Addr} {fs : List Int} {fc : Nat} {tx : ByteArray} {Ah : List Nd} (hk : k = 9 ∨ k = 10)
    (hown : own < len) (hlen : len ≤ 12) (hAl : Ah.length = own) (c0 : w.cell? ⟨b, o + own * 4, none⟩ = some (.int .i64 k)) (c1 : w.cell? ⟨b, o + own * 4 + 1, none⟩ = some (.slice fa fs.length fc)) (c2 : w.cell? ⟨b, o + own * 4 + 2, none⟩ = some (.string tx)) (c3 : w.cell? ⟨b, o + own * 4 + 3, none⟩ = some (.int .i64 n)) (hI : IntsAt w fa fs)
    (hA : ∀ i (h : i < Ah.length), w.cell? ⟨b, o + i * 4, none⟩ = some (.int .i64 Ah[i].k)) (hz2 : fs.length ≤ 9223372036854775807) :
    Calls Tryz.prog 43 #[.slice (some ⟨b, o, none⟩) len cc, .int .i64 own] w fun e w' => e = .returned (.int .i64 (nodeP Ah ⟨k, fs, tx, n⟩ : Nat)) ∧ Below w.heap.size w w' := by
  have bel : Below w.heap.size w (W1 w k fa fs.length fc tx n) := (Below.refl _ _).alloc (Nat.le_refl _) _
  have hcb := cell_lt c0
  simp only at hcb
  have HI := Lib.hid (hI.keep (Keeps.of bel))
  have HA := Lib.hid (fun i (h : i < Ah.length) => Keeps.of bel _ _ (hA i h))
  have HE := Lib.hid (tx_isE tx)
  have HP := Lib.hid (parse_err tx)
  have hT : hasTP k = false := by rcases hk with rfl | rfl <;> rfl
  have hC : hasNP k = false := by rcases hk with rfl | rfl <;> rfl
  have cT := texted_any k
  have cC := counted_any k
  rw [hT] at cT
  rw [hC] at cC
  have HT := Lib.hid cT
  have HC := Lib.hid cC
  have hk0 : ¬ (k < 1 ∨ 10 < k) := by omega
  have hlo : inLo k = 1 := by rcases hk with rfl | rfl <;> rfl
  have hhi : inHi k = 1 := by rcases hk with rfl | rfl <;> rfl
  have hbl : bdLo k = 0 := by rcases hk with rfl | rfl <;> rfl
  have hbh : bdHi k = 0 := by rcases hk with rfl | rfl <;> rfl
  have HB := Lib.hid (And.intro hbl hbh)
  have HTC := Lib.hid (And.intro hT hC)
  have HNB := Lib.hid (fun h2 => dn_bad (A := Ah) (nd := ⟨k, fs, tx, n⟩) hk0 h2)
  have HNF := Lib.hid (fun h2 h3 => dn_from (A := Ah) (nd := ⟨k, fs, tx, n⟩) hk0 h2 h3)
  have HNO := Lib.hid (fun h2 h3 => dn_own (A := Ah) (nd := ⟨k, fs, tx, n⟩) hk0 h2 h3)
  have HLH := Lib.hid (And.intro hlo hhi)
  clear hT hC cT cC hlo hhi hbl hbh hI hA hk0
  unfold W1 at *
  obtain ⟨R, hR⟩ : ∃ R, R = nodeP Ah ⟨k, fs, tx, n⟩ := ⟨_, rfl⟩
  rw [← hR]
  have HR := Lib.hid hR
  clear hR
  have x1 : ¬ k < 1 := by omega
  have x2 : ¬ 10 < k := by omega
  have y1 : (k == 1) = false := by simp; omega
  have y5 : (k == 5) = false := by simp; omega
  have y6 : (k == 6) = false := by simp; omega
  have y8 : (k == 8) = false := by simp; omega
  have z1 : (k != 1) = true := by simp; omega
  have z6 : (k != 6) = true := by simp; omega
  clear hk
  by_cases hsh : fs.length = 1
  rotate_left 1
  · have s1 : ((fs.length : Int) != 1) = true := by simp; omega
    go_enter Tryz.func43, Tryz.ntmps43
    go_wp2_with fail
    go_ret
    exact ⟨retI (by rw [HR.out, HNB.out (by rw [HLH.out.1, HLH.out.2]; omega)]; rfl), bel⟩
  · have hsh2 : ¬ ((fs.length : Int) < inLo k ∨ inHi k < (fs.length : Int)) := by rw [HLH.out.1, HLH.out.2]; omega
    have HF := Lib.hid (HNF.out hsh2)
    have HO := Lib.hid (HNO.out hsh2)
    clear HNF HNO HNB hsh2
    have s1 : ((fs.length : Int) != 1) = false := by simp; omega
    clear hsh
    go_enter Tryz.func43, Tryz.ntmps43
    go_wp2_with fail
    go_loopw [7] (fun i wr => ∃ j : Nat, j ≤ fs.length ∧ i = .int .i64 j ∧ Hid (fromP Ah (fs.drop j) = fromP Ah fs) ∧ wr = (w.alloc (.cells #[.int .i64 k, .slice fa fs.length fc, .string tx, .int .i64 n] 52))) (fun i _ => fs.length - (intOf i).toNat)
    case atStart => exact ⟨0, by omega, rfl, by simp [Hid], rfl⟩
    case round =>
      obtain ⟨j, hj, rfl, HJ, rfl⟩ := hrel
      by_cases hlt : j < fs.length
      · have hfj := HJ.out
        rw [fromP_step hlt] at hfj
        have cj : ∃ b2 o2, fa = some ⟨b2, o2, none⟩ ∧ (w.alloc (.cells #[.int .i64 k, .slice fa fs.length fc, .string tx, .int .i64 n] 52)).cell? ⟨b2, o2 + j, none⟩ = some (.int .i64 fs[j]) := by
          rcases HI.out with hI1 | ⟨b2, o2, e, hI1⟩
          · rw [hI1] at hlt; simp at hlt
          · exact ⟨b2, o2, e, hI1 j hlt⟩
        obtain ⟨b2, o2, rfl, cj⟩ := cj
        have HFO : Hid (fromOne Ah fs[j] ≠ 0 → nodeP Ah ⟨k, fs, tx, n⟩ = fromOne Ah fs[j]) := fun h => by
          rw [if_neg h] at hfj
          rw [HF.out (by rw [← hfj]; exact h), ← hfj]
        have HFN : Hid (fromOne Ah fs[j] = 0 → fromP Ah (fs.drop (j + 1)) = fromP Ah fs) := fun h => by rw [if_pos h] at hfj; exact hfj
        have hjI : (j : Int) < (fs.length : Int) := by omega
        clear hfj HJ HI HF HO
        generalize fs[j] = f at *
        by_cases f0 : f < 0
        · have e : fromOne Ah f = 1 := by rw [fromOne, if_pos (.inl f0)]
          have HV := Lib.hid (HFO.out (by rw [e]; decide))
          rw [e] at HV
          clear e HFO HFN
          go_wp2_with fail
          go_ret
          exact ⟨retI (by rw [HR.out, HV.out]; rfl), bel⟩
        by_cases f1 : (own : Int) ≤ f
        · have e : fromOne Ah f = 1 := by rw [fromOne, if_pos (.inr (by rw [hAl]; exact f1))]
          have HV := Lib.hid (HFO.out (by rw [e]; decide))
          rw [e] at HV
          clear e HFO HFN
          go_wp2_with fail
          go_ret
          exact ⟨retI (by rw [HR.out, HV.out]; rfl), bel⟩
        obtain ⟨i, rfl⟩ : ∃ i : Nat, f = i := ⟨f.toNat, by omega⟩
        have hi : i < Ah.length := by omega
        have ci := HA.out i hi
        have hkk : kindAt Ah (i : Int) = Ah[i].k := by simp [kindAt, hi]
        have hiL : (i : Int) < (len : Int) := by omega
        have hi12 : i ≤ 12 := by omega
        by_cases h10 : Ah[i].k = 10
        · have e : fromOne Ah (i : Int) = 7 := by rw [fromOne, if_neg (by omega), hkk, if_pos h10]
          have HV := Lib.hid (HFO.out (by rw [e]; decide))
          rw [e] at HV
          rw [h10] at ci
          clear e HFO HFN hkk h10 HA
          go_wp2_with fail
          go_ret
          exact ⟨retI (by rw [HR.out, HV.out]; rfl), bel⟩
        · have e : fromOne Ah (i : Int) = 0 := by rw [fromOne, if_neg (by omega), hkk, if_neg h10]
          have HV := Lib.hid (HFN.out e)
          have e10 : (Ah[i].k == 10) = false := by simpa using h10
          generalize Ah[i].k = ki at *
          clear e HFO HFN hkk h10 HA
          go_wp2_with fail
          exact ⟨⟨j + 1, by omega, by go_num, HV, by trivial⟩, by simp [intOf]; omega⟩
      · have hj' : j = fs.length := by omega
        subst hj'
        have hf0 : fromP Ah fs = 0 := by have := HJ.out; rw [List.drop_length] at this; rw [← this, fromP]
        have HV : Hid (R = ownP ⟨k, fs, tx, n⟩) := by show _ = _; rw [HR.out, HO.out hf0]
        clear HJ HI HF HO HA HR hf0
        have hjI : ¬ ((fs.length : Nat) : Int) < (fs.length : Int) := by omega
        have ct0 := HT.out
        have cc0 := HC.out
        clear HT HC
        by_cases htx : tx = ByteArray.empty
        · have hE1 : tx.toList.isEmpty = true := by rw [HE.out]; simpa using htx
          by_cases hn : n = 0
          · have hn1 : (n != 0) = false := by simp [hn]
            have HW : Hid (ownP ⟨k, fs, tx, n⟩ = 0) := by
              show _ = _
              rw [ownP, if_neg (by simp [HTC.out.1, HTC.out.2, htx, hn]), if_neg (by simp only [HB.out.1, HB.out.2]; omega), if_pos HTC.out.1]
            clear htx hn
            go_wp2_with (go_at_call 49; refine (ct0 _).mono ?_; rintro e w' ⟨rfl, rfl⟩; refine Hid.out ?_)
            refine Lib.hid ?_
            go_wp2_with (go_at_call 48; refine (cc0 _).mono ?_; rintro e w' ⟨rfl, rfl⟩; refine Hid.out ?_)
            refine Lib.hid ?_
            go_wp2_with fail
            go_ret
            exact ⟨retI (by rw [HV.out]; rw [HW.out]; rfl), bel⟩
          · have hn1 : (n != 0) = true := by simp [hn]
            have HW : Hid (ownP ⟨k, fs, tx, n⟩ = 3) := by simp [Hid, ownP, HTC.out.1, HTC.out.2, htx, hn]
            clear htx hn
            go_wp2_with (go_at_call 49; refine (ct0 _).mono ?_; rintro e w' ⟨rfl, rfl⟩; refine Hid.out ?_)
            refine Lib.hid ?_
            go_wp2_with (go_at_call 48; refine (cc0 _).mono ?_; rintro e w' ⟨rfl, rfl⟩; refine Hid.out ?_)
            refine Lib.hid ?_
            go_wp2_with fail
            go_ret
            exact ⟨retI (by rw [HV.out]; rw [HW.out]; rfl), bel⟩
        · have hE1 : tx.toList.isEmpty = false := by rw [HE.out]; simpa using htx
          by_cases hn : n = 0
          · have hn1 : (n != 0) = false := by simp [hn]
            have HW : Hid (ownP ⟨k, fs, tx, n⟩ = 3) := by simp [Hid, ownP, HTC.out.1, HTC.out.2, htx, hn]
            clear htx hn
            go_wp2_with (go_at_call 49; refine (ct0 _).mono ?_; rintro e w' ⟨rfl, rfl⟩; refine Hid.out ?_)
            refine Lib.hid ?_
            go_wp2_with (go_at_call 48; refine (cc0 _).mono ?_; rintro e w' ⟨rfl, rfl⟩; refine Hid.out ?_)
            refine Lib.hid ?_
            go_wp2_with fail
            go_ret
            exact ⟨retI (by rw [HV.out]; rw [HW.out]; rfl), bel⟩
          · have hn1 : (n != 0) = true := by simp [hn]
            have HW : Hid (ownP ⟨k, fs, tx, n⟩ = 3) := by simp [Hid, ownP, HTC.out.1, HTC.out.2, htx, hn]
            clear htx hn
            go_wp2_with (go_at_call 49; refine (ct0 _).mono ?_; rintro e w' ⟨rfl, rfl⟩; refine Hid.out ?_)
            refine Lib.hid ?_
            go_wp2_with (go_at_call 48; refine (cc0 _).mono ?_; rintro e w' ⟨rfl, rfl⟩; refine Hid.out ?_)
            refine Lib.hid ?_
            go_wp2_with fail
            go_ret
            exact ⟨retI (by rw [HV.out]; rw [HW.out]; rfl), bel⟩
end Go.Proofs.YtnapbfilkahobaaGreatDoor

/- The document's Node, Ends, Job and Of. -/
namespace Go.Proofs.YtnapbfilkahobaaGreatDoor
open Go.RowKit
set_option linter.unusedVariables false
set_option linter.unusedSimpArgs false

set_option maxHeartbeats 1000000 in
set_option maxRecDepth 100000 in
theorem dnode_any {w : World} {la : Option Addr} {L : List Nd} {c : Nat} (hL : NdsAt w la L) (own : Nat) (hown : own < L.length) (hl : L.length ≤ 12) :
    Calls Tryz.prog 43 #[.slice la L.length c, .int .i64 own] w fun e w' => e = .returned (.int .i64 (nodeP (L.take own) L[own] : Nat)) ∧ Below w.heap.size w w' := by
  have hTl : (L.take own).length = own := by simp; omega
  rcases hL with hL | ⟨b, o, rfl, hL⟩
  · subst hL; simp at hown
  have hA : ∀ i (h : i < (L.take own).length), w.cell? ⟨b, o + i * 4, none⟩ = some (.int .i64 (L.take own)[i].k) := fun i h => by
    rw [List.getElem_take]
    exact (hL i (by rw [hTl] at h; omega)).1
  obtain ⟨c0, ⟨fa, fc, c1, hI⟩, c2, c3, hz1, hz2⟩ := hL own hown
  clear hL
  generalize L[own] = nd at *
  generalize L.take own = Ah at *
  obtain ⟨k, fs, tx, n⟩ := nd
  simp only at c0 c1 c2 c3 hz1 hz2 hI
  by_cases hk1 : k < 1
  · rw [show nodeP Ah ⟨k, fs, tx, n⟩ = 1 from by rw [nodeP, if_pos (.inl hk1)]]
    clear hA hI
    go_enter Tryz.func43, Tryz.ntmps43
    go_wp2_with fail
    go_ret
    exact ⟨rfl, (Below.refl _ _).alloc (Nat.le_refl _) _⟩
  by_cases hk2 : 10 < k
  · rw [show nodeP Ah ⟨k, fs, tx, n⟩ = 1 from by rw [nodeP, if_pos (.inr hk2)]]
    clear hA hI
    go_enter Tryz.func43, Tryz.ntmps43
    go_wp2_with fail
    go_ret
    exact ⟨rfl, (Below.refl _ _).alloc (Nat.le_refl _) _⟩
  have hcase : k = 1 ∨ k = 5 ∨ k = 8 ∨ k = 6 ∨ (k = 2 ∨ k = 3 ∨ k = 4 ∨ k = 7) ∨ (k = 9 ∨ k = 10) := by omega
  rcases hcase with h | h | h | h | h | h
  · exact nd_a h hown hl hTl c0 c1 c2 c3 hI hA hz2
  · exact nd_b h hown hl hTl c0 c1 c2 c3 hI hA hz2
  · exact nd_c h hown hl hTl c0 c1 c2 c3 hI hA hz2
  · exact nd_d h hown hl hTl c0 c1 c2 c3 hI hA hz2
  · exact nd_e h hown hl hTl c0 c1 c2 c3 hI hA hz2
  · exact nd_f h hown hl hTl c0 c1 c2 c3 hI hA hz2

set_option maxHeartbeats 1000000 in
theorem dends_any {w : World} {la : Option Addr} {L : List Nd} {c : Nat} (hL : NdsAt w la L) (hl : L.length ≤ 12) :
    Calls Tryz.prog 44 #[.slice la L.length c] w fun e w' => e = .returned (.int .i64 (endsP L : Nat)) ∧ w = w' := by
  obtain ⟨R, hR⟩ : ∃ R, R = endsP L := ⟨_, rfl⟩
  rw [← hR]
  have HR := Lib.hid hR
  clear hR
  go_enter Tryz.func44, Tryz.ntmps44
  go_wp2_with fail
  go_loopw [3, 4, 5] (fun x y i wr => ∃ (j : Nat) (p q : Bool), j ≤ L.length ∧ i = .int .i64 j ∧ x = .bool p ∧ y = .bool q ∧ Hid (p = (L.take j).any (fun nd => nd.k == 1)) ∧ Hid (q = (L.take j).any (fun nd => nd.k == 10)) ∧ w = wr) (fun _ _ i _ => L.length - (intOf i).toNat)
  case atStart => exact ⟨0, false, false, by omega, rfl, rfl, rfl, by simp [Hid], by simp [Hid], rfl⟩
  case round =>
    obtain ⟨j, p, q, hj, rfl, rfl, rfl, HP, HQ, rfl⟩ := hrel
    by_cases hlt : j < L.length
    · rcases hL with hL | ⟨b, o, rfl, hL⟩
      · subst hL; simp at hlt
      obtain ⟨c0, -⟩ := hL j hlt
      have hP : Hid ((p || (L[j].k == 1)) = (L.take (j + 1)).any (fun nd => nd.k == 1)) := by
        show _ = _
        rw [List.take_succ_eq_append_getElem hlt, List.any_append, HP.out]; simp
      have hQ : Hid ((q || (L[j].k == 10)) = (L.take (j + 1)).any (fun nd => nd.k == 10)) := by
        show _ = _
        rw [List.take_succ_eq_append_getElem hlt, List.any_append, HQ.out]; simp
      have hjI : (j : Int) < L.length := by omega
      clear hL HP HQ
      generalize L[j].k = k at *
      cases p <;> cases q
      all_goals
        go_wp2_with fail
        exact ⟨⟨j + 1, _, _, by omega, by go_num, rfl, rfl, hP, hQ, by trivial⟩, by simp [intOf]; omega⟩
    · have hj' : j = L.length := by omega
      subst hj'
      have hp := HP.out
      have hq := HQ.out
      rw [List.take_length] at hp hq
      have HE : Hid (R = if p && q then 0 else 6) := by show _ = _; rw [HR.out, endsP, hp, hq]
      clear HP HQ hp hq HR hL
      cases p <;> cases q
      all_goals
        go_wp2_with fail
        go_ret
        exact ⟨retI (by rw [HE.out]; rfl), rfl⟩

set_option maxHeartbeats 1000000 in
theorem djob_any {w : World} {la : Option Addr} {L : List Nd} {c : Nat} (hL : NdsAt w la L) :
    Calls Tryz.prog 14 #[.slice la L.length c] w fun e w' => e = .returned (.int .i64 (jobP L : Nat)) ∧ Below w.heap.size w w' := by
  unfold jobP
  by_cases hlen : 12 < L.length
  · have hi : (12 : Int) < L.length := by omega
    rw [if_pos hlen]
    clear hL
    go_enter Tryz.func14, Tryz.ntmps14
    go_wp2_with fail
    go_ret
    exact ⟨rfl, Below.refl _ _⟩
  · rw [if_neg hlen]
    have hi : ¬ (12 : Int) < L.length := by omega
    obtain ⟨R, hR⟩ : ∃ R, R = (if allP [] L = 0 then endsP L else allP [] L) := ⟨_, rfl⟩
    rw [← hR]
    have HR := Lib.hid hR
    clear hR
    have cN := Lib.hid (fun (w1 : World) (j : Nat) (h : j < L.length) (hb : Below w.heap.size w w1) => dnode_any (c := c) (hL.keep (Keeps.of hb)) j h (by omega))
    have cE := Lib.hid (fun (w1 : World) (hb : Below w.heap.size w w1) => dends_any (c := c) (hL.keep (Keeps.of hb)) (by omega))
    clear hL
    go_enter Tryz.func14, Tryz.ntmps14
    go_wp2_with fail
    go_loopw [3] (fun i wr => ∃ j : Nat, j ≤ L.length ∧ i = .int .i64 j ∧ Hid (allP (L.take j) (L.drop j) = allP [] L) ∧ Below w.heap.size w wr) (fun i _ => L.length - (intOf i).toNat)
    case atStart => exact ⟨0, by omega, rfl, by simp [Hid], Below.refl _ _⟩
    case round =>
      obtain ⟨j, hj, rfl, HJ, hb⟩ := hrel
      by_cases hlt : j < L.length
      · have hfj := HJ.out
        rw [allP_step hlt] at hfj
        have cj := cN.out wr j hlt hb
        have hjI : (j : Int) < L.length := by omega
        by_cases h0 : nodeP (L.take j) L[j] = 0
        · rw [if_pos h0] at hfj
          rw [h0] at cj
          have HF := Lib.hid hfj
          clear hfj cN cE h0 HJ
          go_wp2_with (go_at_call 43; refine cj.mono ?_; rintro e w' ⟨rfl, hb2⟩; refine Hid.out ?_)
          refine Lib.hid ?_
          go_wp2_with fail
          exact ⟨⟨j + 1, by omega, by go_num, HF, below_two hb hb2⟩, by simp [intOf]; omega⟩
        · rw [if_neg h0] at hfj
          have HV : Hid (R = nodeP (L.take j) L[j]) := by show _ = _; rw [HR.out, ← hfj, if_neg h0]
          have hne : (((nodeP (L.take j) L[j] : Nat) : Int) != 0) = true := by simpa using h0
          generalize nodeP (L.take j) L[j] = x at *
          clear hfj cN cE HR h0 HJ
          go_wp2_with (go_at_call 43; refine cj.mono ?_; rintro e w' ⟨rfl, hb2⟩; refine Hid.out ?_)
          refine Lib.hid ?_
          go_wp2_with fail
          go_ret
          exact ⟨retI (by rw [HV.out]), below_two hb hb2⟩
      · have hj' : j = L.length := by omega
        subst hj'
        have HV : Hid (R = endsP L) := by show _ = _; have := HJ.out; rw [HR.out, ← this, List.drop_length, allP, if_pos rfl]
        have ce := cE.out wr hb
        clear cN cE HR HJ
        go_wp2_with (go_at_call 44; refine ce.mono ?_; rintro e w' ⟨rfl, rfl⟩; refine Hid.out ?_)
        refine Lib.hid ?_
        go_wp2_with fail
        go_ret
        exact ⟨retI (by rw [HV.out]), hb⟩

set_option maxHeartbeats 1000000 in
theorem dof_any {w : World} {la : Option Addr} {L : List Nd} {c : Nat} (hL : NdsAt w la L) (kd : Int) (hl : L.length ≤ 12) :
    Calls Tryz.prog 17 #[.slice la L.length c, .int .i64 kd] w fun e w' => ∃ v, e = .returned v ∧ w'.ownsRow w.heap.size 3 1 v (ofP L kd).length (iv (ofP L kd)) ∧ Below w.heap.size w w' := by
  obtain ⟨i0, hi, hz0, hz1, hz2⟩ := info_parts Tryz.infoInt
  rw [← ofTo_all]
  go_enter Tryz.func17, Tryz.ntmps17
  go_wp2_with fail
  go_loopw [5, 6] (fun v i wr => ∃ j : Nat, j ≤ L.length ∧ i = .int .i64 j ∧ wr.ownsRow w.heap.size 3 1 v (ofTo L kd j).length (iv (ofTo L kd j)) ∧ Below w.heap.size w wr) (fun _ i _ => L.length - (intOf i).toNat)
  case atStart => exact ⟨0, by omega, rfl, World.ownsRow_nil _ _ _ _, Below.refl _ _⟩
  case round =>
    obtain ⟨j, hj, rfl, hown, hb⟩ := hrel
    have hle := ofTo_len L kd j
    by_cases hlt : j < L.length
    · rcases hL with hL | ⟨b, o, rfl, hL⟩
      · subst hL; simp at hlt
      obtain ⟨c0, -⟩ := (hL j hlt).keep (Keeps.of hb)
      have hS := hb.size
      have hst := ofTo_step (k := kd) hlt
      generalize L[j].k = k at *
      by_cases he : (k == kd) = true
      · rw [if_pos he] at hst
        have HS := Lib.hid hst
        clear hst hL
        go_wp2_with (at_builtin; refine wpList_append_own _ rfl _ _ 41 rfl w.heap.size 3 i0 (.int .i64 0) 1 8 Tryz.underlying41 hi hz0 hz1 hz2 rfl (by decide) _ _ _ rfl (hown.alloc _) ⟨wr.heap.size, 0, none⟩ 1 1 [.int .i64 j] rfl rfl (cell_one_new _ _ _) (by intro u hu; simp at hu; subst hu; rfl) (by unfold maxLen; omega) (by omega) (by simp; omega) ?_)
        intro v' w3 hown' hgrow _
        have hb3 : Below w.heap.size w w3 := (hb.alloc (by omega) _).grown hgrow (by simp; omega) (fun k hk => (hown.lt k hk).1)
        have ho3 : w3.ownsRow w.heap.size 3 1 v' (ofTo L kd (j + 1)).length (iv (ofTo L kd (j + 1))) := by
          rw [HS.out, iv_snoc]; simpa using hown'
        clear hown' hgrow hown hb hS
        go_wp2
        exact ⟨⟨j + 1, by omega, by go_num, ho3, hb3⟩, by simp [intOf]; omega⟩
      · have he' : (k == kd) = false := by simpa using he
        rw [if_neg he, List.append_nil] at hst
        have HS := Lib.hid hst
        clear hst hL
        go_wp2
        exact ⟨⟨j + 1, by omega, by go_num, by rw [HS.out]; exact hown, hb⟩, by simp [intOf]; omega⟩
    · have hj' : j = L.length := by omega
      subst hj'
      go_wp2
      go_ret
      exact ⟨_, rfl, hown, hb⟩
end Go.Proofs.YtnapbfilkahobaaGreatDoor
