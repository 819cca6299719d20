/- What each function of package group does, called by the laws: contracts. -/
import Derived.Test.YtiofpimchbhfcaaRows
import Derived.Test.YtiofpimchbhfcaaPlain
import Derived.WalkKit
import Derived.ProofKit
import Derived.OpenShut
import Derived.Laws.Closers25b
namespace Go.Proofs.Ytiofpimchbhfcaa
open Go.RowKit

theorem isWorkers_yes (p : Int) (w : World) (h1 : 1 ≤ p) (h2 : p ≤ 16) :
    Calls Try.prog 10 #[.int .i64 p] w fun e w' => e = .returned (.bool true) ∧ w = w' := by
  go_enter Try.func10, Try.ntmps10
  go_wp2
  go_ret
  exact ⟨rfl, rfl⟩

theorem isWorkers_no (p : Int) (w : World) (h : p < 1 ∨ 16 < p) :
    Calls Try.prog 10 #[.int .i64 p] w fun e w' => e = .returned (.bool false) ∧ w = w' := by
  rcases h with h | h
  · have h' : ¬ 1 ≤ p := by omega
    go_enter Try.func10, Try.ntmps10
    go_wp2
    go_ret
    exact ⟨rfl, rfl⟩
  · have h' : 1 ≤ p := by omega
    have h'' : ¬ p ≤ 16 := by omega
    go_enter Try.func10, Try.ntmps10
    go_wp2
    go_ret
    exact ⟨rfl, rfl⟩

theorem owner_any (p g : Int) (w : World) (h1 : 0 ≤ g * p) (h2 : g * p ≤ 256) :
    Calls Try.prog 11 #[.int .i64 p, .int .i64 g] w fun e w' => e = .returned (.int .i64 (who p g)) ∧ w = w' := by
  go_enter Try.func11, Try.ntmps11
  go_wp2
  go_ret
  exact ⟨rfl, rfl⟩

theorem begin_any (p i : Int) (w : World) (h1 : 1 ≤ p) (h2 : p ≤ 16) (h3 : 0 ≤ i) (h4 : i ≤ 16) :
    Calls Try.prog 12 #[.int .i64 p, .int .i64 i] w fun e w' => e = .returned (.int .i64 (bgn p i)) ∧ w = w' := by
  go_enter Try.func12, Try.ntmps12
  go_wp2
  go_ret
  exact ⟨rfl, rfl⟩

/-- 'Owner' where both numbers are in range. -/
theorem Owner_yes (p g : Int) (w : World) (h1 : 1 ≤ p) (h2 : p ≤ 16) (h3 : 0 ≤ g) (h4 : g < 16) :
    Calls Try.prog 6 #[.int .i64 p, .int .i64 g] w fun e w' => e = .returned (.tuple #[.int .i64 (who p g), .nilIface]) ∧ w = w' := by
  have m1 := mul_lo g p h3 (by omega)
  have m2 := mul_hi g p (by omega) (by omega) h2
  have n1 : ¬ g < 0 := by omega
  have n2 : ¬ 16 ≤ g := by omega
  go_enter Try.func6, Try.ntmps6
  go_wp2_with (first | (go_at_call 10; refine (isWorkers_yes _ _ (by omega) (by omega)).mono ?_; rintro e w' ⟨rfl, rfl⟩) | (go_at_call 11; refine (owner_any _ _ _ m1 m2).mono ?_; rintro e w' ⟨rfl, rfl⟩))
  go_ret2
  exact ⟨rfl, rfl⟩

/-- 'Owner' where the workers are none. -/
theorem Owner_no1 (p g : Int) (w : World) (h : p < 1 ∨ 16 < p) :
    Calls Try.prog 6 #[.int .i64 p, .int .i64 g] w fun e w' => e = .returned (.tuple #[.int .i64 0, .iface 37 (.int .i64 1)]) ∧ w = w' := by
  go_enter Try.func6, Try.ntmps6
  go_wp2_with (go_at_call 10; refine (isWorkers_no _ _ h).mono ?_; rintro e w' ⟨rfl, rfl⟩)
  go_ret2
  exact ⟨rfl, rfl⟩

/-- 'Owner' where the group is none. -/
theorem Owner_no2 (p g : Int) (w : World) (h1 : 1 ≤ p) (h2 : p ≤ 16) (h : g < 0 ∨ 16 ≤ g) :
    Calls Try.prog 6 #[.int .i64 p, .int .i64 g] w fun e w' => e = .returned (.tuple #[.int .i64 0, .iface 37 (.int .i64 1)]) ∧ w = w' := by
  rcases h with h | h
  · go_enter Try.func6, Try.ntmps6
    go_wp2_with (go_at_call 10; refine (isWorkers_yes _ _ (by omega) (by omega)).mono ?_; rintro e w' ⟨rfl, rfl⟩)
    go_ret2
    exact ⟨rfl, rfl⟩
  · have n1 : ¬ g < 0 := by omega
    go_enter Try.func6, Try.ntmps6
    go_wp2_with (go_at_call 10; refine (isWorkers_yes _ _ (by omega) (by omega)).mono ?_; rintro e w' ⟨rfl, rfl⟩)
    go_ret2
    exact ⟨rfl, rfl⟩

/-- 'Range' where both numbers are in range. -/
theorem Range_yes (p i : Int) (w : World) (h1 : 1 ≤ p) (h2 : p ≤ 16) (h3 : 0 ≤ i) (h4 : i < p) :
    Calls Try.prog 7 #[.int .i64 p, .int .i64 i] w fun e w' => e = .returned (.tuple #[.int .i64 (bgn p i), .int .i64 (bgn p (i + 1)), .nilIface]) ∧ w = w' := by
  have n1 : ¬ i < 0 := by omega
  have n2 : ¬ p ≤ i := by omega
  go_enter Try.func7, Try.ntmps7
  go_wp2_with (first | (go_at_call 10; refine (isWorkers_yes _ _ (by omega) (by omega)).mono ?_; rintro e w' ⟨rfl, rfl⟩) | (go_at_call 12; refine (begin_any _ _ _ (by omega) (by omega) (by omega) (by omega)).mono ?_; rintro e w' ⟨rfl, rfl⟩))
  go_ret3
  exact ⟨rfl, rfl⟩

/-- 'Range' where the workers are none. -/
theorem Range_no1 (p i : Int) (w : World) (h : p < 1 ∨ 16 < p) :
    Calls Try.prog 7 #[.int .i64 p, .int .i64 i] w fun e w' => e = .returned (.tuple #[.int .i64 0, .int .i64 0, .iface 37 (.int .i64 1)]) ∧ w = w' := by
  go_enter Try.func7, Try.ntmps7
  go_wp2_with (go_at_call 10; refine (isWorkers_no _ _ h).mono ?_; rintro e w' ⟨rfl, rfl⟩)
  go_ret3
  exact ⟨rfl, rfl⟩

theorem of_bd (y : Int) (h : 0 ≤ y) : 0 ≤ wrap64 (y.tmod 16) ∧ wrap64 (y.tmod 16) < 16 := by
  rw [Int.tmod_eq_emod_of_nonneg h]; unfold wrap64; omega

/-- 'Of' gives a group, whatever the key. -/
theorem Of_any (s : ByteArray) (w : World) (hs : s.size ≤ maxLen) :
    Calls Try.prog 8 #[.string s] w fun e w' => ∃ x : Int, 0 ≤ x ∧ x < 16 ∧ e = .returned (.int .i64 x) ∧ w = w' := by
  unfold maxLen at hs
  go_enter Try.func8, Try.ntmps8
  go_wp2
  go_loop [3, 7] (fun t i => ∃ k : Nat, k ≤ s.size ∧ i = .int .i64 k ∧ ∃ x : Int, t = .int .u32 x) (fun _ i => s.size - (intOf i).toNat)
  case atStart => exact ⟨0, Nat.zero_le _, rfl, _, rfl⟩
  case round =>
    obtain ⟨k, hk, rfl, x, rfl⟩ := hrel
    by_cases hlt : k < s.size
    · go_wp2
      exact ⟨⟨k + 1, by omega, by go_num, _, rfl⟩, by simp [intOf]; omega⟩
    · go_wp2
      go_ret
      exact ⟨_, (of_bd _ (bits_lo_u32 _ _ _)).1, (of_bd _ (bits_lo_u32 _ _ _)).2, rfl, rfl⟩

end Go.Proofs.Ytiofpimchbhfcaa
