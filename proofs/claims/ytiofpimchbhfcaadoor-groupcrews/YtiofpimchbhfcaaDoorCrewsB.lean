/- The walk of weirlaw1.GroupCrews where the second number of workers is none, or the first. -/
import Derived.Test.YtiofpimchbhfcaaDoorRows3
import Derived.Test.YtiofpimchbhfcaaDoorMoves
import Derived.Deep.QuietTactic
import Derived.BigQuiet
import Derived.Deep.DeepCutAuto
namespace Go.Proofs.YtiofpimchbhfcaaDoor
open Go.RowKit

set_option maxRecDepth 100000 in
set_option maxHeartbeats 2000000 in
theorem crews_yyn (a0 a1 a2 a3 : Int) (w : World) (hg : w.cell? ⟨0, 0, none⟩ = some ET) (h1 : 1 ≤ a0) (h2 : a0 ≤ 16) (hq : a1 < 1 ∨ 16 < a1) (h5 : 0 ≤ a2) (h6 : a2 < a0) (h7 : 0 ≤ a3) (h8 : a3 < 16) :
    Calls Tryd.prog 4 #[.int .i64 a0, .int .i64 a1, .int .i64 a2, .int .i64 a3] w fun e w' => e = .returned (.bool true) ∧ Below w.heap.size w w' := by
  go_enter Tryd.func4, Tryd.ntmps4
  go_wp2_with fail
  refine (Low_any _ _ _ h1 h2 (by omega) (by omega)).mono ?_; rintro e w' ⟨rfl, rfl⟩
  go_wp2_with fail
  refine (Low_any _ _ _ h1 h2 (by omega) (by omega)).mono ?_; rintro e w' ⟨rfl, rfl⟩
  go_wp2_with fail
  refine (Range_yes _ _ _ h1 h2 h5 h6).mono ?_; rintro e w' ⟨rfl, rfl⟩
  go_wp2_with fail
  refine (error_nil _).mono ?_; rintro e w' ⟨rfl, rfl⟩
  go_wp2_with fail
  refine (ROwner_any _ _ _ h1 h2 h7 h8).mono ?_; rintro e w' ⟨rfl, rfl⟩
  go_wp2_with fail
  refine (Owner_yes _ _ _ h1 h2 h7 h8).mono ?_; rintro e w' ⟨rfl, rfl⟩
  go_wp2_with fail
  refine (error_nil _).mono ?_; rintro e w' ⟨rfl, rfl⟩
  go_upto_region 20 with fail
  go_cut [89] (fun t wc => w = wc ∧ t = .bool false)
  case first =>
    rcases hq with x | x
    · go_wp2_with fail
      go_meet
      case rel => exact ⟨rfl, rfl⟩
    · have y : 1 ≤ a1 := by omega
      go_wp2_with fail
      go_meet
      case rel => exact ⟨rfl, by simp; omega⟩
  case rest =>
    obtain ⟨rfl, rfl⟩ := hcut
    go_wp2_with fail
    refine (Moves_no2 _ _ _ h1 h2 hq).mono ?_; rintro e w' ⟨rfl, rfl⟩
    go_wp2_with fail
    refine (error_hit _ _ hg).mono ?_; rintro e w1 ⟨rfl, b1⟩
    have g1 := et_below hg b1
    have hb1 := b1
    go_wp2_with fail
    refine wp_loop_rounds 1 ?_
    rw [rounds_succ]
    go_wp2
    go_ret
    exact ⟨rfl, hb1⟩

set_option maxRecDepth 100000 in
set_option maxHeartbeats 2000000 in
theorem crews_nyn (a0 a1 a2 a3 : Int) (w : World) (hg : w.cell? ⟨0, 0, none⟩ = some ET) (h1 : 1 ≤ a0) (h2 : a0 ≤ 16) (hq : a1 < 1 ∨ 16 < a1) (hn : a2 < 0 ∨ a0 ≤ a2) (h7 : 0 ≤ a3) (h8 : a3 < 16) :
    Calls Tryd.prog 4 #[.int .i64 a0, .int .i64 a1, .int .i64 a2, .int .i64 a3] w fun e w' => e = .returned (.bool true) ∧ Below w.heap.size w w' := by
  go_enter Tryd.func4, Tryd.ntmps4
  go_upto_region 5 with fail
  go_cut [42] (fun t wc => w = wc ∧ t = .bool false)
  case first =>
    rcases hn with x | x
    · go_wp2_with fail
      go_meet
      case rel => exact ⟨rfl, rfl⟩
    · have y : 0 ≤ a2 := by omega
      go_wp2_with fail
      go_meet
      case rel => exact ⟨rfl, by simp; omega⟩
  case rest =>
    obtain ⟨rfl, rfl⟩ := hcut
    go_wp2_with fail
    refine (Range_no2 _ _ _ h1 h2 hn).mono ?_; rintro e w' ⟨rfl, rfl⟩
    go_wp2_with fail
    refine (error_hit _ _ hg).mono ?_; rintro e w1 ⟨rfl, b1⟩
    have g1 := et_below hg b1
    have hb1 := b1
    go_wp2_with fail
    refine (ROwner_any _ _ _ h1 h2 h7 h8).mono ?_; rintro e w' ⟨rfl, rfl⟩
    go_wp2_with fail
    refine (Owner_yes _ _ _ h1 h2 h7 h8).mono ?_; rintro e w' ⟨rfl, rfl⟩
    go_wp2_with fail
    refine (error_nil _).mono ?_; rintro e w' ⟨rfl, rfl⟩
    go_upto_region 20 with fail
    go_cut [89] (fun t wc => w1 = wc ∧ t = .bool false)
    case first =>
      rcases hq with x | x
      · go_wp2_with fail
        go_meet
        case rel => exact ⟨rfl, rfl⟩
      · have y : 1 ≤ a1 := by omega
        go_wp2_with fail
        go_meet
        case rel => exact ⟨rfl, by simp; omega⟩
    case rest =>
      obtain ⟨rfl, rfl⟩ := hcut
      go_wp2_with fail
      refine (Moves_no2 _ _ _ h1 h2 hq).mono ?_; rintro e w' ⟨rfl, rfl⟩
      go_wp2_with fail
      refine (error_hit _ _ g1).mono ?_; rintro e w2 ⟨rfl, b2⟩
      have g2 := et_below g1 b2
      have hb2 : Below w.heap.size w w2 := hb1.trans (b2.mono hb1.size)
      go_wp2_with fail
      refine wp_loop_rounds 1 ?_
      rw [rounds_succ]
      go_wp2
      go_ret
      exact ⟨rfl, hb2⟩

set_option maxRecDepth 100000 in
set_option maxHeartbeats 2000000 in
theorem crews_ynn (a0 a1 a2 a3 : Int) (w : World) (hg : w.cell? ⟨0, 0, none⟩ = some ET) (h1 : 1 ≤ a0) (h2 : a0 ≤ 16) (hq : a1 < 1 ∨ 16 < a1) (h5 : 0 ≤ a2) (h6 : a2 < a0) (hm : a3 < 0 ∨ 16 ≤ a3) :
    Calls Tryd.prog 4 #[.int .i64 a0, .int .i64 a1, .int .i64 a2, .int .i64 a3] w fun e w' => e = .returned (.bool true) ∧ Below w.heap.size w w' := by
  go_enter Tryd.func4, Tryd.ntmps4
  go_wp2_with fail
  refine (Low_any _ _ _ h1 h2 (by omega) (by omega)).mono ?_; rintro e w' ⟨rfl, rfl⟩
  go_wp2_with fail
  refine (Low_any _ _ _ h1 h2 (by omega) (by omega)).mono ?_; rintro e w' ⟨rfl, rfl⟩
  go_wp2_with fail
  refine (Range_yes _ _ _ h1 h2 h5 h6).mono ?_; rintro e w' ⟨rfl, rfl⟩
  go_wp2_with fail
  refine (error_nil _).mono ?_; rintro e w' ⟨rfl, rfl⟩
  go_upto_region 13 with fail
  go_cut [68] (fun t wc => w = wc ∧ t = .bool false)
  case first =>
    rcases hm with x | x
    · go_wp2_with fail
      go_meet
      case rel => exact ⟨rfl, rfl⟩
    · have y : 0 ≤ a3 := by omega
      go_wp2_with fail
      go_meet
      case rel => exact ⟨rfl, by simp; omega⟩
  case rest =>
    obtain ⟨rfl, rfl⟩ := hcut
    go_wp2_with fail
    refine (Owner_no2 _ _ _ h1 h2 hm).mono ?_; rintro e w' ⟨rfl, rfl⟩
    go_wp2_with fail
    refine (error_hit _ _ hg).mono ?_; rintro e w1 ⟨rfl, b1⟩
    have g1 := et_below hg b1
    have hb1 := b1
    go_upto_region 20 with fail
    go_cut [89] (fun t wc => w1 = wc ∧ t = .bool false)
    case first =>
      rcases hq with x | x
      · go_wp2_with fail
        go_meet
        case rel => exact ⟨rfl, rfl⟩
      · have y : 1 ≤ a1 := by omega
        go_wp2_with fail
        go_meet
        case rel => exact ⟨rfl, by simp; omega⟩
    case rest =>
      obtain ⟨rfl, rfl⟩ := hcut
      go_wp2_with fail
      refine (Moves_no2 _ _ _ h1 h2 hq).mono ?_; rintro e w' ⟨rfl, rfl⟩
      go_wp2_with fail
      refine (error_hit _ _ g1).mono ?_; rintro e w2 ⟨rfl, b2⟩
      have g2 := et_below g1 b2
      have hb2 : Below w.heap.size w w2 := hb1.trans (b2.mono hb1.size)
      go_wp2_with fail
      refine wp_loop_rounds 1 ?_
      rw [rounds_succ]
      go_wp2
      go_ret
      exact ⟨rfl, hb2⟩

set_option maxRecDepth 100000 in
set_option maxHeartbeats 2000000 in
theorem crews_nnn (a0 a1 a2 a3 : Int) (w : World) (hg : w.cell? ⟨0, 0, none⟩ = some ET) (h1 : 1 ≤ a0) (h2 : a0 ≤ 16) (hq : a1 < 1 ∨ 16 < a1) (hn : a2 < 0 ∨ a0 ≤ a2) (hm : a3 < 0 ∨ 16 ≤ a3) :
    Calls Tryd.prog 4 #[.int .i64 a0, .int .i64 a1, .int .i64 a2, .int .i64 a3] w fun e w' => e = .returned (.bool true) ∧ Below w.heap.size w w' := by
  go_enter Tryd.func4, Tryd.ntmps4
  go_upto_region 5 with fail
  go_cut [42] (fun t wc => w = wc ∧ t = .bool false)
  case first =>
    rcases hn with x | x
    · go_wp2_with fail
      go_meet
      case rel => exact ⟨rfl, rfl⟩
    · have y : 0 ≤ a2 := by omega
      go_wp2_with fail
      go_meet
      case rel => exact ⟨rfl, by simp; omega⟩
  case rest =>
    obtain ⟨rfl, rfl⟩ := hcut
    go_wp2_with fail
    refine (Range_no2 _ _ _ h1 h2 hn).mono ?_; rintro e w' ⟨rfl, rfl⟩
    go_wp2_with fail
    refine (error_hit _ _ hg).mono ?_; rintro e w1 ⟨rfl, b1⟩
    have g1 := et_below hg b1
    have hb1 := b1
    go_upto_region 13 with fail
    go_cut [68] (fun t wc => w1 = wc ∧ t = .bool false)
    case first =>
      rcases hm with x | x
      · go_wp2_with fail
        go_meet
        case rel => exact ⟨rfl, rfl⟩
      · have y : 0 ≤ a3 := by omega
        go_wp2_with fail
        go_meet
        case rel => exact ⟨rfl, by simp; omega⟩
    case rest =>
      obtain ⟨rfl, rfl⟩ := hcut
      go_wp2_with fail
      refine (Owner_no2 _ _ _ h1 h2 hm).mono ?_; rintro e w' ⟨rfl, rfl⟩
      go_wp2_with fail
      refine (error_hit _ _ g1).mono ?_; rintro e w2 ⟨rfl, b2⟩
      have g2 := et_below g1 b2
      have hb2 : Below w.heap.size w w2 := hb1.trans (b2.mono hb1.size)
      go_upto_region 20 with fail
      go_cut [89] (fun t wc => w2 = wc ∧ t = .bool false)
      case first =>
        rcases hq with x | x
        · go_wp2_with fail
          go_meet
          case rel => exact ⟨rfl, rfl⟩
        · have y : 1 ≤ a1 := by omega
          go_wp2_with fail
          go_meet
          case rel => exact ⟨rfl, by simp; omega⟩
      case rest =>
        obtain ⟨rfl, rfl⟩ := hcut
        go_wp2_with fail
        refine (Moves_no2 _ _ _ h1 h2 hq).mono ?_; rintro e w' ⟨rfl, rfl⟩
        go_wp2_with fail
        refine (error_hit _ _ g2).mono ?_; rintro e w3 ⟨rfl, b3⟩
        have g3 := et_below g2 b3
        have hb3 : Below w.heap.size w w3 := hb2.trans (b3.mono hb2.size)
        go_wp2_with fail
        refine wp_loop_rounds 1 ?_
        rw [rounds_succ]
        go_wp2
        go_ret
        exact ⟨rfl, hb3⟩

set_option maxRecDepth 100000 in
set_option maxHeartbeats 2000000 in
theorem crews_no (a0 a1 a2 a3 : Int) (w : World) (hg : w.cell? ⟨0, 0, none⟩ = some ET) (hp : a0 < 1 ∨ 16 < a0) :
    Calls Tryd.prog 4 #[.int .i64 a0, .int .i64 a1, .int .i64 a2, .int .i64 a3] w fun e w' => e = .returned (.bool true) ∧ Below w.heap.size w w' := by
  go_enter Tryd.func4, Tryd.ntmps4
  go_upto_region 1 with fail
  go_cut [9] (fun t wc => w = wc ∧ t = .bool false)
  case first =>
    rcases hp with x | x
    · go_wp2_with fail
      go_meet
      case rel => exact ⟨rfl, rfl⟩
    · have y : 1 ≤ a0 := by omega
      go_wp2_with fail
      go_meet
      case rel => exact ⟨rfl, by simp; omega⟩
  case rest =>
    obtain ⟨rfl, rfl⟩ := hcut
    go_wp2_with fail
    refine (Range_no1 _ _ _ hp).mono ?_; rintro e w' ⟨rfl, rfl⟩
    go_wp2_with fail
    refine (error_hit _ _ hg).mono ?_; rintro e w1 ⟨rfl, b1⟩
    have g1 := et_below hg b1
    have hb1 := b1
    go_wp2_with fail
    refine (Owner_no1 _ _ _ hp).mono ?_; rintro e w' ⟨rfl, rfl⟩
    go_wp2_with fail
    refine (error_hit _ _ g1).mono ?_; rintro e w2 ⟨rfl, b2⟩
    have g2 := et_below g1 b2
    have hb2 : Below w.heap.size w w2 := hb1.trans (b2.mono hb1.size)
    go_wp2_with fail
    refine (Moves_no1 _ _ _ hp).mono ?_; rintro e w' ⟨rfl, rfl⟩
    go_wp2_with fail
    refine (error_hit _ _ g2).mono ?_; rintro e w3 ⟨rfl, b3⟩
    have g3 := et_below g2 b3
    have hb3 : Below w.heap.size w w3 := hb2.trans (b3.mono hb2.size)
    go_wp2_with fail
    refine wp_loop_rounds 1 ?_
    rw [rounds_succ]
    go_wp2
    go_ret
    exact ⟨rfl, hb3⟩
end Go.Proofs.YtiofpimchbhfcaaDoor
