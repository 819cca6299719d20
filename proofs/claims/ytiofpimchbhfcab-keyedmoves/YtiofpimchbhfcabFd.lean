/- What package frame reads: the number that bytes begin with. -/
import Derived.Test.YtiofpimchbhfcabFb
import Derived.Lib.EndianBits
namespace Go.Proofs.Ytiofpimchbhfcab
open Go.RowKit

set_option maxRecDepth 100000 in
set_option maxHeartbeats 1000000 in
theorem ofBits_any (x : Nat) (hx : x < 18446744073709551616) (w : World) : Calls Try.prog 63 #[.int .u64 x] w fun e w' => e = .returned (.int .i64 (zag x)) ∧ w = w' := by
  have hz := Lib.hid (show zag x = if x % 2 = 1 then -((x / 2 : Nat) : Int) - 1 else ((x / 2 : Nat) : Int) from rfl)
  by_cases h : x % 2 = 1
  · have h' : (x : Int) % 2 = 1 := by omega
    go_enter Try.func63, Try.ntmps63
    go_wp2_with fail
    go_ret
    refine ⟨?_, rfl⟩
    rw [hz.out, if_pos h]; go_num
  · have h' : ¬ (x : Int) % 2 = 1 := by omega
    go_enter Try.func63, Try.ntmps63
    go_wp2_with fail
    go_ret
    refine ⟨?_, rfl⟩
    rw [hz.out, if_neg h]; go_num

theorem and127 : ∀ c : Fin 256, bits .and .u8 ((c.val : Nat) : Int) 127 = ((c.val % 128 : Nat) : Int) := by decide +kernel
theorem or_step (k y z : Nat) (hk : k ≤ 9) (hy : y < 128 ^ k) (hz : z < 256) (h9 : k = 9 → z % 128 ≤ 1) :
    bits .or .u64 (y : Int) (IntKind.u64.wrap (IntKind.u64.wrap (bits .and .u8 (z : Int) 127) * 2 ^ (7 * k))) = ((y + z % 128 * 128 ^ k : Nat) : Int) := by
  have h1 := and127 ⟨z, hz⟩
  simp only at h1
  have hP : ((2 : Int) ^ (7 * k)) = ((128 ^ k : Nat) : Int) := by rw [Int.pow_mul]; norm_cast
  have hm : z % 128 * 128 ^ k < 18446744073709551616 := by
    by_cases e : k = 9
    · subst e
      have := Nat.mul_le_mul_right (128 ^ 9) (h9 rfl)
      omega
    · have p : 128 ^ k ≤ 128 ^ 8 := Nat.pow_le_pow_right (by decide) (by omega)
      have := Nat.mul_le_mul (show z % 128 ≤ 127 by omega) p
      omega
  have hyl : y < 9223372036854775808 := Nat.lt_of_lt_of_le hy (Nat.le_trans (Nat.pow_le_pow_right (by decide) hk) (by decide))
  have e1 : IntKind.u64.wrap ((z % 128 : Nat) : Int) = ((z % 128 : Nat) : Int) := wraps_u64 _ (by omega) (by omega)
  have e2 : ((z % 128 : Nat) : Int) * ((128 ^ k : Nat) : Int) = ((z % 128 * 128 ^ k : Nat) : Int) := by norm_cast
  have e3 : IntKind.u64.wrap ((z % 128 * 128 ^ k : Nat) : Int) = ((z % 128 * 128 ^ k : Nat) : Int) := wraps_u64 _ (by omega) (by omega)
  rw [h1, e1, hP, e2, e3, bits_join_low .u64 64 (by decide) wraps_u64 (7 * k) _ _ (by omega) (by rw [hP]; omega) (by omega) (by omega) (by rw [hP]; norm_cast; exact Nat.mul_mod_left _ _) (by omega)]
  omega
theorem or_some (a b : Int) : ∃ m : Nat, bits .or .u64 a b = (m : Int) ∧ m < 18446744073709551616 := by
  refine ⟨((BitVec.ofInt 64 a ||| BitVec.ofInt 64 b).toNat), ?_, (BitVec.ofInt 64 a ||| BitVec.ofInt 64 b).isLt⟩
  show IntKind.u64.wrap ((BitVec.ofInt 64 a ||| BitVec.ofInt 64 b).toNat : Int) = _
  have := (BitVec.ofInt 64 a ||| BitVec.ofInt 64 b).isLt
  exact wraps_u64 _ (by omega) (by omega)
theorem drop_cons (l : List UInt8) (k : Nat) (h : k < l.length) : l.drop k = l[k] :: l.drop (k + 1) := (List.getElem_cons_drop (h := h)).symm
theorem rd_more (l : List UInt8) (k y : Nat) (h : k < l.length) (hk : k ≤ 9) (hz : 128 ≤ l[k].toNat) : rdN k y (l.drop k) = rdN (k + 1) (y + l[k].toNat % 128 * 128 ^ k) (l.drop (k + 1)) := by
  rw [drop_cons l k h, rdN, if_neg (by omega), if_pos hz]
theorem rd_bad (l : List UInt8) (k y : Nat) (h : k < l.length) (hz : ¬ 128 ≤ l[k].toNat) (hb : (0 < k ∧ l[k].toNat = 0) ∨ (k = 9 ∧ 1 < l[k].toNat)) : rdN k y (l.drop k) = none := by
  rw [drop_cons l k h, rdN]
  by_cases h10 : 10 ≤ k
  · rw [if_pos h10]
  · rw [if_neg h10, if_neg hz, if_pos hb]
theorem rd_end (l : List UInt8) (k y : Nat) (h : k < l.length) (hk : k ≤ 9) (hz : ¬ 128 ≤ l[k].toNat) (hb : ¬ ((0 < k ∧ l[k].toNat = 0) ∨ (k = 9 ∧ 1 < l[k].toNat))) : rdN k y (l.drop k) = some (y + l[k].toNat * 128 ^ k, k + 1) := by
  rw [drop_cons l k h, rdN, if_neg (by omega), if_neg hz, if_neg hb]
theorem rd_ten (l : List UInt8) (y : Nat) : rdN 10 y l = none := by
  cases l with
  | nil => rfl
  | cons c r => rw [rdN, if_pos (by omega)]

/-- What firstNum answers. -/
def fstV (r : Option (Int × Nat)) : Value := match r with
  | none => .tuple #[.int .i64 0, .int .i64 0]
  | some (n, k) => .tuple #[.int .i64 n, .int .i64 k]
set_option maxRecDepth 100000 in
set_option maxHeartbeats 1000000 in
theorem first_any (w : World) (p : Option Addr) (c : Nat) (l : List UInt8) (hl : BsAt w p l) (hlen : l.length ≤ 140737488355328) :
    Calls Try.prog 57 #[.slice p l.length c] w fun e w' => e = .returned (fstV (fstN l)) ∧ w = w' := by
  obtain ⟨R, hR⟩ : ∃ R, R = fstV (fstN l) := ⟨_, rfl⟩
  rw [← hR]
  have HR := Lib.hid hR
  clear hR
  go_enter Try.func57, Try.ntmps57
  go_wp2_with fail
  go_loop [4, 11] (fun x i => ∃ k y : Nat, k ≤ l.length ∧ k ≤ 10 ∧ i = .int .i64 k ∧ x = .int .u64 y ∧ (k ≤ 9 → y < 128 ^ k ∧ rdN 0 0 l = rdN k y (l.drop k)) ∧ (k = 10 → rdN 0 0 l = none)) (fun _ i => 10 - (intOf i).toNat)
  case atStart => exact ⟨0, 0, by omega, by omega, rfl, rfl, fun _ => ⟨by simp, by simp⟩, by omega⟩
  case round =>
    obtain ⟨k, y, hk, hk10, rfl, rfl, h9, h10⟩ := hrel
    by_cases hlt : k < l.length ∧ k < 10
    · obtain ⟨h1, h2⟩ := hlt
      obtain ⟨b, o, rfl, hcc⟩ : ∃ b o, p = some ⟨b, o, none⟩ ∧ ∀ i (h : i < l.length), w.cell? ⟨b, o + i, none⟩ = some (.int .u8 l[i].toNat) := by
        rcases hl with rfl | h
        · simp at h1
        · exact h
      obtain ⟨hy, hrd⟩ := h9 (by omega)
      obtain ⟨z, hze⟩ : ∃ z, z = l[k].toNat := ⟨_, rfl⟩
      have hck : w.cell? ⟨b, o + k, none⟩ = some (.int .u8 (z : Int)) := by rw [hze]; exact hcc k h1
      have h8 : z < 256 := by rw [hze]; exact l[k].toNat_lt
      have HM := rd_more l k y h1 (by omega)
      have HBd := rd_bad l k y h1
      have HE := rd_end l k y h1 (by omega)
      rw [← hze] at HM HBd HE
      clear hcc hze hl
      by_cases hz : 128 ≤ z
      · have hz' : (128 : Int) ≤ z := by omega
        obtain ⟨x2, hx2, -⟩ := or_some (y : Int) (IntKind.u64.wrap (IntKind.u64.wrap (bits .and .u8 (z : Int) 127) * 2 ^ (7 * k)))
        have hor : k ≤ 8 → ((x2 : Nat) : Int) = ((y + z % 128 * 128 ^ k : Nat) : Int) := fun h => by rw [← hx2]; exact or_step k y z (by omega) hy h8 (by omega)
        have hm := HM hz
        rw [hm] at hrd
        have HRD := Lib.hid hrd
        clear hm hrd HM HBd HE h9 h10
        have HO := Lib.hid hor
        clear hor
        go_wp2_with fail
        go_round
        case rel =>
          refine ⟨k + 1, x2, by omega, by omega, by go_num, by first | rfl | rw [hx2], fun h => ?_, fun h => ?_⟩
          · have ho := HO.out (by omega)
            have e2 : 128 ^ (k + 1) = 128 ^ k * 128 := Nat.pow_succ ..
            have hmul := Nat.mul_le_mul_right (128 ^ k) (show z % 128 ≤ 127 by omega)
            have ho' : x2 = y + z % 128 * 128 ^ k := by omega
            exact ⟨by omega, by rw [ho']; exact HRD.out⟩
          · have hk9 : k = 9 := by omega
            subst hk9
            rw [HRD.out]; exact rd_ten _ _
        case measure => simp [intOf]; omega
      · have hz' : ¬ (128 : Int) ≤ z := by omega
        by_cases hbad : (0 < k ∧ z = 0) ∨ (k = 9 ∧ 1 < z)
        · have hm := HBd hz hbad
          rw [hm] at hrd
          have HV : Hid (R = .tuple #[.int .i64 0, .int .i64 0]) := Lib.hid (by rw [HR.out]; unfold fstN; rw [hrd]; rfl)
          clear hm hrd HM HBd HE h9 h10 HR
          obtain ⟨x2, hx2, -⟩ := or_some (y : Int) (IntKind.u64.wrap (IntKind.u64.wrap (bits .and .u8 (z : Int) 127) * 2 ^ (7 * k)))
          by_cases hk9 : k = 9
          · subst hk9
            rcases hbad with ⟨-, hb⟩ | ⟨-, hb⟩
            · subst hb
              go_wp2_with fail
              all_goals
                go_ret2
                exact ⟨by rw [HV.out]; rfl, rfl⟩
            · have hb' : (1 : Int) < z := by omega
              have hb0 : ¬ (z : Int) = 0 := by omega
              go_wp2_with fail
              all_goals
                go_ret2
                exact ⟨by rw [HV.out]; rfl, rfl⟩
          · obtain ⟨hb1, hb⟩ : 0 < k ∧ z = 0 := by omega
            subst hb
            have hb2 : (0 : Int) < k := by omega
            have hk9' : ¬ (k : Int) = 9 := by omega
            go_wp2_with fail
            all_goals
              go_ret2
              exact ⟨by rw [HV.out]; rfl, rfl⟩
        · have hm := HE hz hbad
          rw [hm] at hrd
          have hor := or_step k y z (by omega) hy h8 (by omega)
          have hzm : z % 128 = z := by omega
          rw [hzm] at hor
          have hfit : y + z * 128 ^ k < 18446744073709551616 := rdN_bd _ _ _ _ _ hrd (by decide)
          have HV : Hid (R = .tuple #[.int .i64 (zag (y + z * 128 ^ k)), .int .i64 ((k + 1 : Nat) : Int)]) := Lib.hid (by rw [HR.out]; unfold fstN; rw [hrd]; rfl)
          clear hm hrd HM HBd HE h9 h10 HR
          generalize y + z * 128 ^ k = x2 at *
          have HB := fun w' => ofBits_any x2 hfit w'
          by_cases hk9 : k = 9
          · have hck9 : w.cell? ⟨b, o + 9, none⟩ = some (.int .u8 (z : Int)) := by rw [← hk9]; exact hck
            have hk9' : (k : Int) = 9 := by omega
            have hb1 : ¬ (1 : Int) < z := by omega
            have hb0 : ¬ (z : Int) = 0 := by omega
            have HV9 : Hid (R = .tuple #[.int .i64 (zag x2), .int .i64 10]) := Lib.hid (by rw [HV.out, hk9]; rfl)
            replace HV := HV9
            rw [hk9, show (2 : Int) ^ (7 * 9) = 9223372036854775808 from by decide] at hor
            clear hk9
            go_wp2_with (go_at_call 63; refine (HB _).mono ?_; rintro e w' ⟨rfl, rfl⟩)
            all_goals
              go_ret2
              exact ⟨by rw [HV.out]; rfl, rfl⟩
          · have hk9' : ¬ (k : Int) = 9 := by omega
            by_cases hk0 : k = 0
            · have hck0 : w.cell? ⟨b, o, none⟩ = some (.int .u8 (z : Int)) := by rw [hk0] at hck; simpa using hck
              have hk0' : (k : Int) = 0 := by omega
              have HV9 : Hid (R = .tuple #[.int .i64 (zag x2), .int .i64 1]) := Lib.hid (by rw [HV.out, hk0]; rfl)
              replace HV := HV9
              rw [hk0, show (2 : Int) ^ (7 * 0) = 1 from by decide, Int.mul_one] at hor
              clear hk0
              go_wp2_with (go_at_call 63; refine (HB _).mono ?_; rintro e w' ⟨rfl, rfl⟩)
              all_goals
                go_ret2
                exact ⟨by rw [HV.out]; rfl, rfl⟩
            · rw [show ((k + 1 : Nat) : Int) = (k : Int) + 1 from by omega] at HV
              have hb0 : ¬ (z : Int) = 0 := by omega
              have hk0' : (0 : Int) < k := by omega
              go_wp2_with (go_at_call 63; refine (HB _).mono ?_; rintro e w' ⟨rfl, rfl⟩)
              all_goals
                go_ret2
                exact ⟨by rw [HV.out]; rfl, rfl⟩
    · have hnone : rdN 0 0 l = none := by
        by_cases h : k = 10
        · exact h10 h
        · obtain ⟨-, hrd⟩ := h9 (by omega)
          rw [hrd, List.drop_of_length_le (by omega)]; rfl
      have HV : Hid (R = .tuple #[.int .i64 0, .int .i64 0]) := Lib.hid (by rw [HR.out]; unfold fstN; rw [hnone]; rfl)
      have hge : ¬ ((k : Int) < min (l.length : Int) 10) := by omega
      clear HR h9 h10 hnone
      go_wp2_with fail
      all_goals
        go_ret2
        exact ⟨by rw [HV.out]; rfl, rfl⟩
end Go.Proofs.Ytiofpimchbhfcab
