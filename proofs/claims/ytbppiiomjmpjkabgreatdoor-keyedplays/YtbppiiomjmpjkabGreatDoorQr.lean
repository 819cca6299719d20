/- The document's group of a key. -/
import Derived.Test.YtbppiiomjmpjkabGreatDoorQi
import Derived.Test.YtbppiiomjmpjkabGreatDoorBigG
import Derived.Test.YtbppiiomjmpjkabGreatDoorBigM
namespace Go.Proofs.YtbppiiomjmpjkabGreatDoor
open Go.RowKit

theorem trm_wd (y : Int) (h0 : 0 ≤ y) (h1 : y < 4294967296) : trm [y, 0] = wd y := by
  unfold wd
  rw [show y % 4294967296 = y from by omega, show y / 4294967296 = 0 from by omega]
theorem IntAt.block {w : World} {b : Nat} {l : List Int} (h : IntAt w b l) : ∃ v, w.heap[b]? = some (.cells #[.bool false, v] 92 (0, 0)) := by
  obtain ⟨v, h1, _⟩ := h; exact ⟨v, h1⟩
theorem c_len : (wd 16777619).length = 1 ∧ (wd 16777619).getD 0 0 = 16777619 := by decide

/-- One byte taken into the number at X: the steps of a round, on the number alone. -/
theorem prod_bd (y : Int) (h0 : 0 ≤ y) (h1 : y < 4294967296) : 0 ≤ y * 16777619 ∧ y * 16777619 < 18446744073709551616 := by omega

set_option maxRecDepth 100000 in
set_option maxHeartbeats 4000000 in
/-- The document's group of a key. -/
theorem RGroup_any (s : ByteArray) (w : World) (hs : s.size ≤ maxLen) :
    Calls Tryz.prog 14 #[.string s] w fun e w' => e = .returned (.int .i64 (grp (hsh s.data.toList))) ∧ Below w.heap.size w w' := by
  unfold maxLen at hs
  go_enter Tryz.func14, Tryz.ntmps14
  go_wp2_with fail
  refine (NewInt_any 4294967296 _ (by omega) (by omega)).mono ?_; rintro e w1 ⟨rfl, hM, hb1⟩
  rw [wd_mod] at hM
  have ltM := hM.lt
  go_wp2_with fail
  refine (NewInt_any 2166136261 _ (by omega) (by omega)).mono ?_; rintro e w2 ⟨rfl, hX, hb2⟩
  have hM2 := hM.below hb2
  have hb : Below w.heap.size w w2 := hb1.trans (hb2.mono hb1.size)
  have hMX : w.heap.size < w1.heap.size := ltM
  obtain ⟨X, eX⟩ : ∃ X, X = w1.heap.size := ⟨_, rfl⟩
  rw [← eX] at hX hMX
  rw [← eX]
  clear hM hb1 hb2 ltM eX
  go_wp2_with fail
  go_loopw [5] (fun i wr => ∃ k : Nat, k ≤ s.size ∧ i = .int .i64 k ∧ IntAt wr X (wd (hsh (s.data.toList.take k))) ∧ IntAt wr w.heap.size [0, 1] ∧ Below w.heap.size w wr) (fun i _ => s.size - (intOf i).toNat)
  case atStart => exact ⟨0, Nat.zero_le _, rfl, hX, hM2, hb⟩
  case round =>
    clear hX hM2 hb
    obtain ⟨k, hk, rfl, hX, hM, hb⟩ := hrel
    obtain ⟨x0, x1⟩ := hsh_bd (s.data.toList.take k)
    by_cases hlt : k < s.size
    · have hby : s[k].toNat < 256 := s[k].toNat_lt
      have HS : Hid (hsh (s.data.toList.take (k + 1)) = stp (hsh (s.data.toList.take k)) s[k]) := by
        show _ = _
        rw [take_snoc s k hlt]; exact hsh_snoc _ _
      obtain ⟨x, ex⟩ : ∃ x, x = hsh (s.data.toList.take k) := ⟨_, rfl⟩
      rw [← ex] at hX x0 x1 HS
      obtain ⟨b, eb⟩ : ∃ b : Int, b = (s[k].toNat : Int) := ⟨_, rfl⟩
      have b0 : 0 ≤ b := by omega
      have b1 : b < 256 := by omega
      have HS2 : Hid (hsh (s.data.toList.take (k + 1)) = bits .xor .u32 x b * 16777619 % 4294967296) := by
        show _ = _
        rw [HS.out, eb]; rfl
      have HEb : Hid ((s[k].toNat : Int) = b) := eb.symm
      clear ex eb HS
      obtain ⟨y, ey⟩ : ∃ y, y = bits .xor .u32 x b := ⟨_, rfl⟩
      have y0 : 0 ≤ y := by rw [ey]; exact bits_lo_u32 _ _ _
      have y1 : y < 4294967296 := by have := bits_hi_u32 .xor x b; omega
      rw [← ey] at HS2
      have HY : Hid (bits .xor .u32 x b = y) := ey.symm
      clear ey
      obtain ⟨p0, p1⟩ := prod_bd y y0 y1
      obtain ⟨lx, gx⟩ := wd_one x x0 x1
      obtain ⟨lb, gb⟩ := wd_one b b0 (by omega)
      obtain ⟨ly, gy⟩ := wd_one y y0 y1
      obtain ⟨lc, gc⟩ := c_len
      have HF : Hid ((wd x).length ≤ 1 ∧ (wd x).getD 0 0 = x ∧ (wd b).length ≤ 1 ∧ (wd b).getD 0 0 = b ∧ (wd y).length ≤ 1 ∧ (wd y).getD 0 0 = y ∧ (wd 16777619).length = 1 ∧ (wd 16777619).getD 0 0 = 16777619) := ⟨lx, gx, lb, gb, ly, gy, lc, gc⟩
      clear lx gx lb gb ly gy lc gc
      go_wp2_with fail
      rw [HEb.out]
      refine (NewInt_any b _ b0 (by omega)).mono ?_; rintro e w3 ⟨rfl, hB, hb3⟩
      have hX3 := hX.below hb3
      have hM3 := hM.below hb3
      have hbw3 : Below w.heap.size w w3 := hb.trans (hb3.mono hb.size)
      clear hX hM hb hb3
      obtain ⟨v3, k3⟩ := hX3.block
      have HK3 : Hid (w3.heap[X]? = some (.cells #[.bool false, v3] 92 (0, 0))) := k3
      clear k3
      go_wp2_with fail
      refine (Xor_any X X _ _ _ (wd x) (wd b) x b w3 HK3.out hX3 hB HF.out.1 HF.out.2.2.1 HF.out.2.1 HF.out.2.2.2.1).mono ?_; rintro e w4 ⟨rfl, hX4, hG4⟩
      rw [HY.out, trm_wd y y0 y1] at hX4
      have hM4 := hM3.grown hG4 HK3.out (by omega)
      have hbw4 : Below w.heap.size w w4 := hbw3.grown hG4 hbw3.size (fun k hk => by simp at hk; omega)
      clear hX3 hM3 hB hbw3 HK3 hG4
      go_wp2_with fail
      refine (NewInt_any 16777619 _ (by omega) (by omega)).mono ?_; rintro e w5 ⟨rfl, hC, hb5⟩
      have hX5 := hX4.below hb5
      have hM5 := hM4.below hb5
      have hbw5 : Below w.heap.size w w5 := hbw4.trans (hb5.mono hbw4.size)
      clear hX4 hM4 hbw4 hb5
      obtain ⟨v5, k5⟩ := hX5.block
      have HK5 : Hid (w5.heap[X]? = some (.cells #[.bool false, v5] 92 (0, 0))) := k5
      clear k5
      go_wp2_with fail
      refine (Mul_any X X _ _ _ (wd y) (wd 16777619) y 16777619 w5 HK5.out hX5 hC HF.out.2.2.2.2.1 HF.out.2.2.2.2.2.2.1 HF.out.2.2.2.2.2.1 HF.out.2.2.2.2.2.2.2 y0 y1 (by omega) (by omega)).mono ?_; rintro e w6 ⟨rfl, hX6, hG6⟩
      have hM6 := hM5.grown hG6 HK5.out (by omega)
      have hbw6 : Below w.heap.size w w6 := hbw5.grown hG6 hbw5.size (fun k hk => by simp at hk; omega)
      obtain ⟨v6, k6⟩ := hX6.block
      have HK6 : Hid (w6.heap[X]? = some (.cells #[.bool false, v6] 92 (0, 0))) := k6
      clear hX5 hM5 hC hbw5 HK5 hG6 k6
      go_wp2_with fail
      refine (Mod_any X _ (y * 16777619) w6 hX6 hM6 p0 p1).mono ?_; rintro e w7 ⟨rfl, hX7, hG7⟩
      have hM7 := hM6.grown hG7 HK6.out (by omega)
      have hbw7 : Below w.heap.size w w7 := hbw6.grown hG7 hbw6.size (fun k hk => by simp at hk; omega)
      rw [← HS2.out] at hX7
      clear hX6 hM6 hbw6 HK6 hG7
      go_wp2
      exact ⟨⟨k + 1, by omega, by go_num, hX7, hM7, hbw7⟩, by simp [intOf]; omega⟩
    · have HE : Hid (s.data.toList.take k = s.data.toList) := List.take_of_length_le (by simp; omega)
      obtain ⟨x, ex⟩ : ∃ x, x = hsh (s.data.toList.take k) := ⟨_, rfl⟩
      rw [← ex] at hX x0 x1
      have HX : Hid (x = hsh s.data.toList) := by show _ = _; rw [ex, HE.out]
      have HG : Hid ((bits .xor .i64 (x / 65536) x).tmod 16 = grp x) := by
        show _ = _
        rw [xor_same (x / 65536) x (by omega) (by omega) x0 x1, Int.tmod_eq_emod_of_nonneg (bits_lo_u32 _ _ _)]; rfl
      clear ex HE
      go_wp2_with fail
      refine (Int64_any X _ _ hX x0 x1).mono ?_; rintro e w' ⟨rfl, rfl⟩
      go_wp2
      go_ret
      exact ⟨ret_val (by rw [← HX.out, ← HG.out]; rfl), hb⟩
end Go.Proofs.YtbppiiomjmpjkabGreatDoor
