/- The walk of weirlaw1.GroupCrews where both numbers of workers are in range. -/
import Derived.Test.YtiofpimchbhfcaaDoorRows3
import Derived.Test.YtiofpimchbhfcaaDoorMoves
import Derived.Deep.QuietTactic
import Derived.BigQuiet
import Derived.Deep.DeepCutAuto
namespace Go.Proofs.YtiofpimchbhfcaaDoor
open Go.RowKit

set_option maxRecDepth 100000 in
set_option maxHeartbeats 2000000 in
theorem crews_yyy (a0 a1 a2 a3 : Int) (w : World) (h1 : 1 ≤ a0) (h2 : a0 ≤ 16) (h3 : 1 ≤ a1) (h4 : a1 ≤ 16) (h5 : 0 ≤ a2) (h6 : a2 < a0) (h7 : 0 ≤ a3) (h8 : a3 < 16) :
    Calls Tryd.prog 4 #[.int .i64 a0, .int .i64 a1, .int .i64 a2, .int .i64 a3] w fun e w' => e = .returned (.bool true) ∧ Below w.heap.size w w' := by
  obtain ⟨i0, hi, hz0, hz1, hz2⟩ := info_parts Tryd.info35
  go_enter Tryd.func4, Tryd.ntmps4
  go_wp2_with fail
  refine (Low_any _ _ _ h1 h2 (by omega) (by omega)).mono ?_; rintro e w' ⟨rfl, rfl⟩
  go_wp2_with fail
  refine (Low_any _ _ _ h1 h2 (by omega) (by omega)).mono ?_; rintro e w' ⟨rfl, rfl⟩
  go_wp2_with fail
  refine (Range_yes _ _ _ h1 h2 h5 h6).mono ?_; rintro e w' ⟨rfl, rfl⟩
  go_wp2_with fail
  refine (error_nil _).mono ?_; rintro e w' ⟨rfl, rfl⟩
  go_wp2_with fail
  refine (ROwner_any _ _ _ h1 h2 h7 h8).mono ?_; rintro e w' ⟨rfl, rfl⟩
  go_wp2_with fail
  refine (Owner_yes _ _ _ h1 h2 h7 h8).mono ?_; rintro e w' ⟨rfl, rfl⟩
  go_wp2_with fail
  refine (error_nil _).mono ?_; rintro e w' ⟨rfl, rfl⟩
  go_wp2_with fail
  go_loopw [20, 21] (fun v i wr => ∃ k : Nat, k ≤ 16 ∧ i = .int .i64 k ∧ wr.ownsRow w.heap.size 35 3 v (mvs a0 a1 k).length (mcells (mvs a0 a1 k)) ∧ Below w.heap.size w wr) (fun _ i _ => 16 - (intOf i).toNat)
  case atStart => exact ⟨0, by omega, rfl, World.ownsRow_nil _ _ _ _, Below.refl _ _⟩
  case round =>
    obtain ⟨k, hk, rfl, hown, hb⟩ := hrel
    have hle := mvs_le a0 a1 k
    by_cases hlt : k < 16
    · by_cases he : who a0 k = who a1 k
      · have hd : (who a0 k != who a1 k) = false := by simp [he]
        have HE : Hid (who a0 k = who a1 k) := he
        clear he
        go_wp2_with fail
        refine (ROwner_any _ _ _ h1 h2 (by omega) (by omega)).mono ?_; rintro e w' ⟨rfl, rfl⟩
        go_wp2_with fail
        refine (ROwner_any _ _ _ h3 h4 (by omega) (by omega)).mono ?_; rintro e w' ⟨rfl, rfl⟩
        go_wp2
        exact ⟨⟨k + 1, by omega, by go_num, by rw [mvs_keep HE.out]; exact hown, hb⟩, by simp [intOf]; omega⟩
      · have hd : (who a0 k != who a1 k) = true := by simp [he]
        have HE : Hid (who a0 k ≠ who a1 k) := he
        clear he
        go_wp2_with fail
        refine (ROwner_any _ _ _ h1 h2 (by omega) (by omega)).mono ?_; rintro e w' ⟨rfl, rfl⟩
        go_wp2_with fail
        refine (ROwner_any _ _ _ h3 h4 (by omega) (by omega)).mono ?_; rintro e w' ⟨rfl, rfl⟩
        have hs := hb.size
        go_wp2_with (at_builtin; refine wpList_append_own _ rfl _ _ 33 rfl w.heap.size 35 i0 (.agg #[.int .i64 0, .int .i64 0, .int .i64 0]) 3 24 Tryd.underlying33 hi hz0 hz1 hz2 rfl (by decide) _ _ _ rfl (hown.alloc _) ⟨wr.heap.size, 0, none⟩ 1 1 [.int .i64 k, .int .i64 (who a0 k), .int .i64 (who a1 k)] rfl rfl (cell_three_new _ _ _ _ _) (by intro u hu; simp at hu; rcases hu with rfl | rfl | rfl <;> rfl) (by unfold maxLen; omega) (by omega) (by simp; omega) ?_)
        intro v' wx hown' hgrow _
        have hbx : Below w.heap.size w wx := (hb.alloc hs _).grown hgrow (by simp; omega) (fun k hk => (hown.lt k hk).1)
        have hox : wx.ownsRow w.heap.size 35 3 v' (mvs a0 a1 (k + 1)).length (mcells (mvs a0 a1 (k + 1))) := by
          rw [mvs_more HE.out, mcells_snoc]; simpa using hown'
        clear hown' hgrow hown hb hs
        go_wp2
        exact ⟨⟨k + 1, by omega, by go_num, hox, hbx⟩, by simp [intOf]; omega⟩
    · have hk' : k = 16 := by omega
      subst hk'
      obtain ⟨l, hl⟩ : ∃ l, l = mvs a0 a1 16 := ⟨_, rfl⟩
      rw [← hl] at hown hle
      have HL : Hid (l = mvs a0 a1 16) := hl
      clear hl
      obtain ⟨A, cap, rfl⟩ := own_form hown
      go_wp2_with fail
      refine (Moves_form _ _ _ l HL.out h1 h2 h3 h4).mono ?_; rintro e wz ⟨A2, cap2, rfl, ho2, hbz⟩
      have ho1 := own_below hown hbz
      have hbw : Below w.heap.size w wz := hb.trans (hbz.mono hb.size)
      have hb' : Below w.heap.size w wz := hbw
      clear hown hb hbz HL hbw
      go_wp2_with fail
      refine (error_nil _).mono ?_; rintro e w' ⟨rfl, rfl⟩
      go_wp2_with fail
      go_loopw [26] (fun t wr => ∃ k nq : Nat, k ≤ l.length ∧ t = .int .i64 k ∧ wr = wz.drewN nq) (fun t _ => l.length - (intOf t).toNat)
      case atStart => exact ⟨0, 0, by omega, rfl, rfl⟩
      case round =>
        obtain ⟨k, nq, hk, rfl, rfl⟩ := hrel
        by_cases hlt : k < l.length
        · obtain ⟨g2, rfl⟩ := own_some ho1 (by omega)
          obtain ⟨g3, rfl⟩ := own_some ho2 (by omega)
          obtain ⟨c0, c1, c2⟩ := three_at ho1 rfl k hlt
          obtain ⟨d0, d1, d2⟩ := three_at ho2 rfl k hlt
          obtain ⟨m, hm⟩ : ∃ m, m = l[k] := ⟨_, rfl⟩
          rw [← hm] at c0 c1 c2 d0 d1 d2
          clear hm ho1 ho2
          have hlt' : (k : Int) < (l.length : Int) := by omega
          go_wp2_with fail
          go_quiet (fail)
          go_wp2
          exact ⟨⟨k + 1, _, by omega, by go_num, rfl⟩, by simp [intOf]; omega⟩
        · go_wp2
          go_ret
          exact ⟨rfl, hb'.trans ⟨rfl, rfl, rfl, Nat.le_refl _, fun _ _ => rfl⟩⟩

set_option maxRecDepth 100000 in
set_option maxHeartbeats 2000000 in
theorem crews_nyy (a0 a1 a2 a3 : Int) (w : World) (hg : w.cell? ⟨0, 0, none⟩ = some ET) (h1 : 1 ≤ a0) (h2 : a0 ≤ 16) (h3 : 1 ≤ a1) (h4 : a1 ≤ 16) (hn : a2 < 0 ∨ a0 ≤ a2) (h7 : 0 ≤ a3) (h8 : a3 < 16) :
    Calls Tryd.prog 4 #[.int .i64 a0, .int .i64 a1, .int .i64 a2, .int .i64 a3] w fun e w' => e = .returned (.bool true) ∧ Below w.heap.size w w' := by
  obtain ⟨i0, hi, hz0, hz1, hz2⟩ := info_parts Tryd.info35
  go_enter Tryd.func4, Tryd.ntmps4
  go_upto_region 5 with fail
  go_cut [42] (fun t wc => w = wc ∧ t = .bool false)
  case first =>
    rcases hn with x | x
    · go_wp2_with fail
      go_meet
      case rel => exact ⟨rfl, rfl⟩
    · have y : 0 ≤ a2 := by omega
      go_wp2_with fail
      go_meet
      case rel => exact ⟨rfl, by simp; omega⟩
  case rest =>
    obtain ⟨rfl, rfl⟩ := hcut
    go_wp2_with fail
    refine (Range_no2 _ _ _ h1 h2 hn).mono ?_; rintro e w' ⟨rfl, rfl⟩
    go_wp2_with fail
    refine (error_hit _ _ hg).mono ?_; rintro e w1 ⟨rfl, b1⟩
    have g1 := et_below hg b1
    have hb1 := b1
    go_wp2_with fail
    refine (ROwner_any _ _ _ h1 h2 h7 h8).mono ?_; rintro e w' ⟨rfl, rfl⟩
    go_wp2_with fail
    refine (Owner_yes _ _ _ h1 h2 h7 h8).mono ?_; rintro e w' ⟨rfl, rfl⟩
    go_wp2_with fail
    refine (error_nil _).mono ?_; rintro e w' ⟨rfl, rfl⟩
    go_wp2_with fail
    go_loopw [20, 21] (fun v i wr => ∃ k : Nat, k ≤ 16 ∧ i = .int .i64 k ∧ wr.ownsRow w1.heap.size 35 3 v (mvs a0 a1 k).length (mcells (mvs a0 a1 k)) ∧ Below w1.heap.size w1 wr) (fun _ i _ => 16 - (intOf i).toNat)
    case atStart => exact ⟨0, by omega, rfl, World.ownsRow_nil _ _ _ _, Below.refl _ _⟩
    case round =>
      obtain ⟨k, hk, rfl, hown, hb⟩ := hrel
      have hle := mvs_le a0 a1 k
      by_cases hlt : k < 16
      · by_cases he : who a0 k = who a1 k
        · have hd : (who a0 k != who a1 k) = false := by simp [he]
          have HE : Hid (who a0 k = who a1 k) := he
          clear he
          go_wp2_with fail
          refine (ROwner_any _ _ _ h1 h2 (by omega) (by omega)).mono ?_; rintro e w' ⟨rfl, rfl⟩
          go_wp2_with fail
          refine (ROwner_any _ _ _ h3 h4 (by omega) (by omega)).mono ?_; rintro e w' ⟨rfl, rfl⟩
          go_wp2
          exact ⟨⟨k + 1, by omega, by go_num, by rw [mvs_keep HE.out]; exact hown, hb⟩, by simp [intOf]; omega⟩
        · have hd : (who a0 k != who a1 k) = true := by simp [he]
          have HE : Hid (who a0 k ≠ who a1 k) := he
          clear he
          go_wp2_with fail
          refine (ROwner_any _ _ _ h1 h2 (by omega) (by omega)).mono ?_; rintro e w' ⟨rfl, rfl⟩
          go_wp2_with fail
          refine (ROwner_any _ _ _ h3 h4 (by omega) (by omega)).mono ?_; rintro e w' ⟨rfl, rfl⟩
          have hs := hb.size
          go_wp2_with (at_builtin; refine wpList_append_own _ rfl _ _ 33 rfl w1.heap.size 35 i0 (.agg #[.int .i64 0, .int .i64 0, .int .i64 0]) 3 24 Tryd.underlying33 hi hz0 hz1 hz2 rfl (by decide) _ _ _ rfl (hown.alloc _) ⟨wr.heap.size, 0, none⟩ 1 1 [.int .i64 k, .int .i64 (who a0 k), .int .i64 (who a1 k)] rfl rfl (cell_three_new _ _ _ _ _) (by intro u hu; simp at hu; rcases hu with rfl | rfl | rfl <;> rfl) (by unfold maxLen; omega) (by omega) (by simp; omega) ?_)
          intro v' wx hown' hgrow _
          have hbx : Below w1.heap.size w1 wx := (hb.alloc hs _).grown hgrow (by simp; omega) (fun k hk => (hown.lt k hk).1)
          have hox : wx.ownsRow w1.heap.size 35 3 v' (mvs a0 a1 (k + 1)).length (mcells (mvs a0 a1 (k + 1))) := by
            rw [mvs_more HE.out, mcells_snoc]; simpa using hown'
          clear hown' hgrow hown hb hs
          go_wp2
          exact ⟨⟨k + 1, by omega, by go_num, hox, hbx⟩, by simp [intOf]; omega⟩
      · have hk' : k = 16 := by omega
        subst hk'
        obtain ⟨l, hl⟩ : ∃ l, l = mvs a0 a1 16 := ⟨_, rfl⟩
        rw [← hl] at hown hle
        have HL : Hid (l = mvs a0 a1 16) := hl
        clear hl
        obtain ⟨A, cap, rfl⟩ := own_form hown
        go_wp2_with fail
        refine (Moves_form _ _ _ l HL.out h1 h2 h3 h4).mono ?_; rintro e wz ⟨A2, cap2, rfl, ho2, hbz⟩
        have ho1 := own_below hown hbz
        have hbw : Below w1.heap.size w1 wz := hb.trans (hbz.mono hb.size)
        have hb' : Below w.heap.size w wz := hb1.trans (hbw.mono hb1.size)
        clear hown hb hbz HL hbw
        go_wp2_with fail
        refine (error_nil _).mono ?_; rintro e w' ⟨rfl, rfl⟩
        go_wp2_with fail
        go_loopw [26] (fun t wr => ∃ k nq : Nat, k ≤ l.length ∧ t = .int .i64 k ∧ wr = wz.drewN nq) (fun t _ => l.length - (intOf t).toNat)
        case atStart => exact ⟨0, 0, by omega, rfl, rfl⟩
        case round =>
          obtain ⟨k, nq, hk, rfl, rfl⟩ := hrel
          by_cases hlt : k < l.length
          · obtain ⟨g2, rfl⟩ := own_some ho1 (by omega)
            obtain ⟨g3, rfl⟩ := own_some ho2 (by omega)
            obtain ⟨c0, c1, c2⟩ := three_at ho1 rfl k hlt
            obtain ⟨d0, d1, d2⟩ := three_at ho2 rfl k hlt
            obtain ⟨m, hm⟩ : ∃ m, m = l[k] := ⟨_, rfl⟩
            rw [← hm] at c0 c1 c2 d0 d1 d2
            clear hm ho1 ho2
            have hlt' : (k : Int) < (l.length : Int) := by omega
            go_wp2_with fail
            go_quiet (fail)
            go_wp2
            exact ⟨⟨k + 1, _, by omega, by go_num, rfl⟩, by simp [intOf]; omega⟩
          · go_wp2
            go_ret
            exact ⟨rfl, hb'.trans ⟨rfl, rfl, rfl, Nat.le_refl _, fun _ _ => rfl⟩⟩

set_option maxRecDepth 100000 in
set_option maxHeartbeats 2000000 in
theorem crews_yny (a0 a1 a2 a3 : Int) (w : World) (hg : w.cell? ⟨0, 0, none⟩ = some ET) (h1 : 1 ≤ a0) (h2 : a0 ≤ 16) (h3 : 1 ≤ a1) (h4 : a1 ≤ 16) (h5 : 0 ≤ a2) (h6 : a2 < a0) (hm : a3 < 0 ∨ 16 ≤ a3) :
    Calls Tryd.prog 4 #[.int .i64 a0, .int .i64 a1, .int .i64 a2, .int .i64 a3] w fun e w' => e = .returned (.bool true) ∧ Below w.heap.size w w' := by
  obtain ⟨i0, hi, hz0, hz1, hz2⟩ := info_parts Tryd.info35
  go_enter Tryd.func4, Tryd.ntmps4
  go_wp2_with fail
  refine (Low_any _ _ _ h1 h2 (by omega) (by omega)).mono ?_; rintro e w' ⟨rfl, rfl⟩
  go_wp2_with fail
  refine (Low_any _ _ _ h1 h2 (by omega) (by omega)).mono ?_; rintro e w' ⟨rfl, rfl⟩
  go_wp2_with fail
  refine (Range_yes _ _ _ h1 h2 h5 h6).mono ?_; rintro e w' ⟨rfl, rfl⟩
  go_wp2_with fail
  refine (error_nil _).mono ?_; rintro e w' ⟨rfl, rfl⟩
  go_upto_region 13 with fail
  go_cut [68] (fun t wc => w = wc ∧ t = .bool false)
  case first =>
    rcases hm with x | x
    · go_wp2_with fail
      go_meet
      case rel => exact ⟨rfl, rfl⟩
    · have y : 0 ≤ a3 := by omega
      go_wp2_with fail
      go_meet
      case rel => exact ⟨rfl, by simp; omega⟩
  case rest =>
    obtain ⟨rfl, rfl⟩ := hcut
    go_wp2_with fail
    refine (Owner_no2 _ _ _ h1 h2 hm).mono ?_; rintro e w' ⟨rfl, rfl⟩
    go_wp2_with fail
    refine (error_hit _ _ hg).mono ?_; rintro e w1 ⟨rfl, b1⟩
    have g1 := et_below hg b1
    have hb1 := b1
    go_wp2_with fail
    go_loopw [20, 21] (fun v i wr => ∃ k : Nat, k ≤ 16 ∧ i = .int .i64 k ∧ wr.ownsRow w1.heap.size 35 3 v (mvs a0 a1 k).length (mcells (mvs a0 a1 k)) ∧ Below w1.heap.size w1 wr) (fun _ i _ => 16 - (intOf i).toNat)
    case atStart => exact ⟨0, by omega, rfl, World.ownsRow_nil _ _ _ _, Below.refl _ _⟩
    case round =>
      obtain ⟨k, hk, rfl, hown, hb⟩ := hrel
      have hle := mvs_le a0 a1 k
      by_cases hlt : k < 16
      · by_cases he : who a0 k = who a1 k
        · have hd : (who a0 k != who a1 k) = false := by simp [he]
          have HE : Hid (who a0 k = who a1 k) := he
          clear he
          go_wp2_with fail
          refine (ROwner_any _ _ _ h1 h2 (by omega) (by omega)).mono ?_; rintro e w' ⟨rfl, rfl⟩
          go_wp2_with fail
          refine (ROwner_any _ _ _ h3 h4 (by omega) (by omega)).mono ?_; rintro e w' ⟨rfl, rfl⟩
          go_wp2
          exact ⟨⟨k + 1, by omega, by go_num, by rw [mvs_keep HE.out]; exact hown, hb⟩, by simp [intOf]; omega⟩
        · have hd : (who a0 k != who a1 k) = true := by simp [he]
          have HE : Hid (who a0 k ≠ who a1 k) := he
          clear he
          go_wp2_with fail
          refine (ROwner_any _ _ _ h1 h2 (by omega) (by omega)).mono ?_; rintro e w' ⟨rfl, rfl⟩
          go_wp2_with fail
          refine (ROwner_any _ _ _ h3 h4 (by omega) (by omega)).mono ?_; rintro e w' ⟨rfl, rfl⟩
          have hs := hb.size
          go_wp2_with (at_builtin; refine wpList_append_own _ rfl _ _ 33 rfl w1.heap.size 35 i0 (.agg #[.int .i64 0, .int .i64 0, .int .i64 0]) 3 24 Tryd.underlying33 hi hz0 hz1 hz2 rfl (by decide) _ _ _ rfl (hown.alloc _) ⟨wr.heap.size, 0, none⟩ 1 1 [.int .i64 k, .int .i64 (who a0 k), .int .i64 (who a1 k)] rfl rfl (cell_three_new _ _ _ _ _) (by intro u hu; simp at hu; rcases hu with rfl | rfl | rfl <;> rfl) (by unfold maxLen; omega) (by omega) (by simp; omega) ?_)
          intro v' wx hown' hgrow _
          have hbx : Below w1.heap.size w1 wx := (hb.alloc hs _).grown hgrow (by simp; omega) (fun k hk => (hown.lt k hk).1)
          have hox : wx.ownsRow w1.heap.size 35 3 v' (mvs a0 a1 (k + 1)).length (mcells (mvs a0 a1 (k + 1))) := by
            rw [mvs_more HE.out, mcells_snoc]; simpa using hown'
          clear hown' hgrow hown hb hs
          go_wp2
          exact ⟨⟨k + 1, by omega, by go_num, hox, hbx⟩, by simp [intOf]; omega⟩
      · have hk' : k = 16 := by omega
        subst hk'
        obtain ⟨l, hl⟩ : ∃ l, l = mvs a0 a1 16 := ⟨_, rfl⟩
        rw [← hl] at hown hle
        have HL : Hid (l = mvs a0 a1 16) := hl
        clear hl
        obtain ⟨A, cap, rfl⟩ := own_form hown
        go_wp2_with fail
        refine (Moves_form _ _ _ l HL.out h1 h2 h3 h4).mono ?_; rintro e wz ⟨A2, cap2, rfl, ho2, hbz⟩
        have ho1 := own_below hown hbz
        have hbw : Below w1.heap.size w1 wz := hb.trans (hbz.mono hb.size)
        have hb' : Below w.heap.size w wz := hb1.trans (hbw.mono hb1.size)
        clear hown hb hbz HL hbw
        go_wp2_with fail
        refine (error_nil _).mono ?_; rintro e w' ⟨rfl, rfl⟩
        go_wp2_with fail
        go_loopw [26] (fun t wr => ∃ k nq : Nat, k ≤ l.length ∧ t = .int .i64 k ∧ wr = wz.drewN nq) (fun t _ => l.length - (intOf t).toNat)
        case atStart => exact ⟨0, 0, by omega, rfl, rfl⟩
        case round =>
          obtain ⟨k, nq, hk, rfl, rfl⟩ := hrel
          by_cases hlt : k < l.length
          · obtain ⟨g2, rfl⟩ := own_some ho1 (by omega)
            obtain ⟨g3, rfl⟩ := own_some ho2 (by omega)
            obtain ⟨c0, c1, c2⟩ := three_at ho1 rfl k hlt
            obtain ⟨d0, d1, d2⟩ := three_at ho2 rfl k hlt
            obtain ⟨m, hm⟩ : ∃ m, m = l[k] := ⟨_, rfl⟩
            rw [← hm] at c0 c1 c2 d0 d1 d2
            clear hm ho1 ho2
            have hlt' : (k : Int) < (l.length : Int) := by omega
            go_wp2_with fail
            go_quiet (fail)
            go_wp2
            exact ⟨⟨k + 1, _, by omega, by go_num, rfl⟩, by simp [intOf]; omega⟩
          · go_wp2
            go_ret
            exact ⟨rfl, hb'.trans ⟨rfl, rfl, rfl, Nat.le_refl _, fun _ _ => rfl⟩⟩

set_option maxRecDepth 100000 in
set_option maxHeartbeats 2000000 in
theorem crews_nny (a0 a1 a2 a3 : Int) (w : World) (hg : w.cell? ⟨0, 0, none⟩ = some ET) (h1 : 1 ≤ a0) (h2 : a0 ≤ 16) (h3 : 1 ≤ a1) (h4 : a1 ≤ 16) (hn : a2 < 0 ∨ a0 ≤ a2) (hm : a3 < 0 ∨ 16 ≤ a3) :
    Calls Tryd.prog 4 #[.int .i64 a0, .int .i64 a1, .int .i64 a2, .int .i64 a3] w fun e w' => e = .returned (.bool true) ∧ Below w.heap.size w w' := by
  obtain ⟨i0, hi, hz0, hz1, hz2⟩ := info_parts Tryd.info35
  go_enter Tryd.func4, Tryd.ntmps4
  go_upto_region 5 with fail
  go_cut [42] (fun t wc => w = wc ∧ t = .bool false)
  case first =>
    rcases hn with x | x
    · go_wp2_with fail
      go_meet
      case rel => exact ⟨rfl, rfl⟩
    · have y : 0 ≤ a2 := by omega
      go_wp2_with fail
      go_meet
      case rel => exact ⟨rfl, by simp; omega⟩
  case rest =>
    obtain ⟨rfl, rfl⟩ := hcut
    go_wp2_with fail
    refine (Range_no2 _ _ _ h1 h2 hn).mono ?_; rintro e w' ⟨rfl, rfl⟩
    go_wp2_with fail
    refine (error_hit _ _ hg).mono ?_; rintro e w1 ⟨rfl, b1⟩
    have g1 := et_below hg b1
    have hb1 := b1
    go_upto_region 13 with fail
    go_cut [68] (fun t wc => w1 = wc ∧ t = .bool false)
    case first =>
      rcases hm with x | x
      · go_wp2_with fail
        go_meet
        case rel => exact ⟨rfl, rfl⟩
      · have y : 0 ≤ a3 := by omega
        go_wp2_with fail
        go_meet
        case rel => exact ⟨rfl, by simp; omega⟩
    case rest =>
      obtain ⟨rfl, rfl⟩ := hcut
      go_wp2_with fail
      refine (Owner_no2 _ _ _ h1 h2 hm).mono ?_; rintro e w' ⟨rfl, rfl⟩
      go_wp2_with fail
      refine (error_hit _ _ g1).mono ?_; rintro e w2 ⟨rfl, b2⟩
      have g2 := et_below g1 b2
      have hb2 : Below w.heap.size w w2 := hb1.trans (b2.mono hb1.size)
      go_wp2_with fail
      go_loopw [20, 21] (fun v i wr => ∃ k : Nat, k ≤ 16 ∧ i = .int .i64 k ∧ wr.ownsRow w2.heap.size 35 3 v (mvs a0 a1 k).length (mcells (mvs a0 a1 k)) ∧ Below w2.heap.size w2 wr) (fun _ i _ => 16 - (intOf i).toNat)
      case atStart => exact ⟨0, by omega, rfl, World.ownsRow_nil _ _ _ _, Below.refl _ _⟩
      case round =>
        obtain ⟨k, hk, rfl, hown, hb⟩ := hrel
        have hle := mvs_le a0 a1 k
        by_cases hlt : k < 16
        · by_cases he : who a0 k = who a1 k
          · have hd : (who a0 k != who a1 k) = false := by simp [he]
            have HE : Hid (who a0 k = who a1 k) := he
            clear he
            go_wp2_with fail
            refine (ROwner_any _ _ _ h1 h2 (by omega) (by omega)).mono ?_; rintro e w' ⟨rfl, rfl⟩
            go_wp2_with fail
            refine (ROwner_any _ _ _ h3 h4 (by omega) (by omega)).mono ?_; rintro e w' ⟨rfl, rfl⟩
            go_wp2
            exact ⟨⟨k + 1, by omega, by go_num, by rw [mvs_keep HE.out]; exact hown, hb⟩, by simp [intOf]; omega⟩
          · have hd : (who a0 k != who a1 k) = true := by simp [he]
            have HE : Hid (who a0 k ≠ who a1 k) := he
            clear he
            go_wp2_with fail
            refine (ROwner_any _ _ _ h1 h2 (by omega) (by omega)).mono ?_; rintro e w' ⟨rfl, rfl⟩
            go_wp2_with fail
            refine (ROwner_any _ _ _ h3 h4 (by omega) (by omega)).mono ?_; rintro e w' ⟨rfl, rfl⟩
            have hs := hb.size
            go_wp2_with (at_builtin; refine wpList_append_own _ rfl _ _ 33 rfl w2.heap.size 35 i0 (.agg #[.int .i64 0, .int .i64 0, .int .i64 0]) 3 24 Tryd.underlying33 hi hz0 hz1 hz2 rfl (by decide) _ _ _ rfl (hown.alloc _) ⟨wr.heap.size, 0, none⟩ 1 1 [.int .i64 k, .int .i64 (who a0 k), .int .i64 (who a1 k)] rfl rfl (cell_three_new _ _ _ _ _) (by intro u hu; simp at hu; rcases hu with rfl | rfl | rfl <;> rfl) (by unfold maxLen; omega) (by omega) (by simp; omega) ?_)
            intro v' wx hown' hgrow _
            have hbx : Below w2.heap.size w2 wx := (hb.alloc hs _).grown hgrow (by simp; omega) (fun k hk => (hown.lt k hk).1)
            have hox : wx.ownsRow w2.heap.size 35 3 v' (mvs a0 a1 (k + 1)).length (mcells (mvs a0 a1 (k + 1))) := by
              rw [mvs_more HE.out, mcells_snoc]; simpa using hown'
            clear hown' hgrow hown hb hs
            go_wp2
            exact ⟨⟨k + 1, by omega, by go_num, hox, hbx⟩, by simp [intOf]; omega⟩
        · have hk' : k = 16 := by omega
          subst hk'
          obtain ⟨l, hl⟩ : ∃ l, l = mvs a0 a1 16 := ⟨_, rfl⟩
          rw [← hl] at hown hle
          have HL : Hid (l = mvs a0 a1 16) := hl
          clear hl
          obtain ⟨A, cap, rfl⟩ := own_form hown
          go_wp2_with fail
          refine (Moves_form _ _ _ l HL.out h1 h2 h3 h4).mono ?_; rintro e wz ⟨A2, cap2, rfl, ho2, hbz⟩
          have ho1 := own_below hown hbz
          have hbw : Below w2.heap.size w2 wz := hb.trans (hbz.mono hb.size)
          have hb' : Below w.heap.size w wz := hb2.trans (hbw.mono hb2.size)
          clear hown hb hbz HL hbw
          go_wp2_with fail
          refine (error_nil _).mono ?_; rintro e w' ⟨rfl, rfl⟩
          go_wp2_with fail
          go_loopw [26] (fun t wr => ∃ k nq : Nat, k ≤ l.length ∧ t = .int .i64 k ∧ wr = wz.drewN nq) (fun t _ => l.length - (intOf t).toNat)
          case atStart => exact ⟨0, 0, by omega, rfl, rfl⟩
          case round =>
            obtain ⟨k, nq, hk, rfl, rfl⟩ := hrel
            by_cases hlt : k < l.length
            · obtain ⟨g2, rfl⟩ := own_some ho1 (by omega)
              obtain ⟨g3, rfl⟩ := own_some ho2 (by omega)
              obtain ⟨c0, c1, c2⟩ := three_at ho1 rfl k hlt
              obtain ⟨d0, d1, d2⟩ := three_at ho2 rfl k hlt
              obtain ⟨m, hm⟩ : ∃ m, m = l[k] := ⟨_, rfl⟩
              rw [← hm] at c0 c1 c2 d0 d1 d2
              clear hm ho1 ho2
              have hlt' : (k : Int) < (l.length : Int) := by omega
              go_wp2_with fail
              go_quiet (fail)
              go_wp2
              exact ⟨⟨k + 1, _, by omega, by go_num, rfl⟩, by simp [intOf]; omega⟩
            · go_wp2
              go_ret
              exact ⟨rfl, hb'.trans ⟨rfl, rfl, rfl, Nat.le_refl _, fun _ _ => rfl⟩⟩

end Go.Proofs.YtiofpimchbhfcaaDoor
