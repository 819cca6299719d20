/- What each function of package group does, called by the laws: contracts. -/
import Derived.Test.YtiofpimchbhfcaaDoorErr
import Derived.Test.YtiofpimchbhfcaaDoorPlain
import Derived.WalkKit
import Derived.ProofKit
import Derived.OpenShut
namespace Go.Proofs.YtiofpimchbhfcaaDoor
open Go.RowKit

theorem ret_int {k : IntKind} {a b : Int} (h : a = b) : Ending.returned (.int k a) = .returned (.int k b) := by rw [h]

theorem isWorkers_yes (p : Int) (w : World) (h1 : 1 ≤ p) (h2 : p ≤ 16) :
    Calls Tryd.prog 20 #[.int .i64 p] w fun e w' => e = .returned (.bool true) ∧ w = w' := by
  go_enter Tryd.func20, Tryd.ntmps20
  go_wp2
  go_ret
  exact ⟨rfl, rfl⟩

theorem isWorkers_no (p : Int) (w : World) (h : p < 1 ∨ 16 < p) :
    Calls Tryd.prog 20 #[.int .i64 p] w fun e w' => e = .returned (.bool false) ∧ w = w' := by
  rcases h with h | h
  · have h' : ¬ 1 ≤ p := by omega
    go_enter Tryd.func20, Tryd.ntmps20
    go_wp2
    go_ret
    exact ⟨rfl, rfl⟩
  · have h' : 1 ≤ p := by omega
    have h'' : ¬ p ≤ 16 := by omega
    go_enter Tryd.func20, Tryd.ntmps20
    go_wp2
    go_ret
    exact ⟨rfl, rfl⟩

theorem owner_any (p g : Int) (w : World) (h1 : 0 ≤ g * p) (h2 : g * p ≤ 256) :
    Calls Tryd.prog 22 #[.int .i64 p, .int .i64 g] w fun e w' => e = .returned (.int .i64 (who p g)) ∧ w = w' := by
  go_enter Tryd.func22, Tryd.ntmps22
  go_wp2
  go_ret
  exact ⟨rfl, rfl⟩

theorem begin_any (p i : Int) (w : World) (h1 : 1 ≤ p) (h2 : p ≤ 16) (h3 : 0 ≤ i) (h4 : i ≤ 16) :
    Calls Tryd.prog 21 #[.int .i64 p, .int .i64 i] w fun e w' => e = .returned (.int .i64 (bgn p i)) ∧ w = w' := by
  go_enter Tryd.func21, Tryd.ntmps21
  go_wp2
  go_ret
  exact ⟨rfl, rfl⟩

/-- 'Owner' where both numbers are in range. -/
theorem Owner_yes (p g : Int) (w : World) (h1 : 1 ≤ p) (h2 : p ≤ 16) (h3 : 0 ≤ g) (h4 : g < 16) :
    Calls Tryd.prog 12 #[.int .i64 p, .int .i64 g] w fun e w' => e = .returned (.tuple #[.int .i64 (who p g), .nilIface]) ∧ w = w' := by
  have m1 := mul_lo g p h3 (by omega)
  have m2 := mul_hi g p (by omega) (by omega) h2
  have n1 : ¬ g < 0 := by omega
  have n2 : ¬ 16 ≤ g := by omega
  go_enter Tryd.func12, Tryd.ntmps12
  go_wp2_with (first | (go_at_call 20; refine (isWorkers_yes _ _ (by omega) (by omega)).mono ?_; rintro e w' ⟨rfl, rfl⟩) | (go_at_call 22; refine (owner_any _ _ _ m1 m2).mono ?_; rintro e w' ⟨rfl, rfl⟩))
  go_ret2
  exact ⟨rfl, rfl⟩

/-- 'Owner' where the workers are none. -/
theorem Owner_no1 (p g : Int) (w : World) (h : p < 1 ∨ 16 < p) :
    Calls Tryd.prog 12 #[.int .i64 p, .int .i64 g] w fun e w' => e = .returned (.tuple #[.int .i64 0, .iface 45 (.int .i64 1)]) ∧ w = w' := by
  go_enter Tryd.func12, Tryd.ntmps12
  go_wp2_with (go_at_call 20; refine (isWorkers_no _ _ h).mono ?_; rintro e w' ⟨rfl, rfl⟩)
  go_ret2
  exact ⟨rfl, rfl⟩

/-- 'Owner' where the group is none. -/
theorem Owner_no2 (p g : Int) (w : World) (h1 : 1 ≤ p) (h2 : p ≤ 16) (h : g < 0 ∨ 16 ≤ g) :
    Calls Tryd.prog 12 #[.int .i64 p, .int .i64 g] w fun e w' => e = .returned (.tuple #[.int .i64 0, .iface 45 (.int .i64 1)]) ∧ w = w' := by
  rcases h with h | h
  · go_enter Tryd.func12, Tryd.ntmps12
    go_wp2_with (go_at_call 20; refine (isWorkers_yes _ _ (by omega) (by omega)).mono ?_; rintro e w' ⟨rfl, rfl⟩)
    go_ret2
    exact ⟨rfl, rfl⟩
  · have n1 : ¬ g < 0 := by omega
    go_enter Tryd.func12, Tryd.ntmps12
    go_wp2_with (go_at_call 20; refine (isWorkers_yes _ _ (by omega) (by omega)).mono ?_; rintro e w' ⟨rfl, rfl⟩)
    go_ret2
    exact ⟨rfl, rfl⟩

/-- 'Range' where both numbers are in range. -/
theorem Range_yes (p i : Int) (w : World) (h1 : 1 ≤ p) (h2 : p ≤ 16) (h3 : 0 ≤ i) (h4 : i < p) :
    Calls Tryd.prog 10 #[.int .i64 p, .int .i64 i] w fun e w' => e = .returned (.tuple #[.int .i64 (bgn p i), .int .i64 (bgn p (i + 1)), .nilIface]) ∧ w = w' := by
  have n1 : ¬ i < 0 := by omega
  have n2 : ¬ p ≤ i := by omega
  go_enter Tryd.func10, Tryd.ntmps10
  go_wp2_with (first | (go_at_call 20; refine (isWorkers_yes _ _ (by omega) (by omega)).mono ?_; rintro e w' ⟨rfl, rfl⟩) | (go_at_call 21; refine (begin_any _ _ _ (by omega) (by omega) (by omega) (by omega)).mono ?_; rintro e w' ⟨rfl, rfl⟩))
  go_ret3
  exact ⟨rfl, rfl⟩

/-- 'Range' where the workers are none. -/
theorem Range_no1 (p i : Int) (w : World) (h : p < 1 ∨ 16 < p) :
    Calls Tryd.prog 10 #[.int .i64 p, .int .i64 i] w fun e w' => e = .returned (.tuple #[.int .i64 0, .int .i64 0, .iface 45 (.int .i64 1)]) ∧ w = w' := by
  go_enter Tryd.func10, Tryd.ntmps10
  go_wp2_with (go_at_call 20; refine (isWorkers_no _ _ h).mono ?_; rintro e w' ⟨rfl, rfl⟩)
  go_ret3
  exact ⟨rfl, rfl⟩

/-- 'Range' where the worker is none. -/
theorem Range_no2 (p i : Int) (w : World) (h1 : 1 ≤ p) (h2 : p ≤ 16) (h : i < 0 ∨ p ≤ i) :
    Calls Tryd.prog 10 #[.int .i64 p, .int .i64 i] w fun e w' => e = .returned (.tuple #[.int .i64 0, .int .i64 0, .iface 45 (.int .i64 1)]) ∧ w = w' := by
  rcases h with h | h
  · go_enter Tryd.func10, Tryd.ntmps10
    go_wp2_with (go_at_call 20; refine (isWorkers_yes _ _ (by omega) (by omega)).mono ?_; rintro e w' ⟨rfl, rfl⟩)
    go_ret3
    exact ⟨rfl, rfl⟩
  · have n1 : ¬ i < 0 := by omega
    go_enter Tryd.func10, Tryd.ntmps10
    go_wp2_with (go_at_call 20; refine (isWorkers_yes _ _ (by omega) (by omega)).mono ?_; rintro e w' ⟨rfl, rfl⟩)
    go_ret3
    exact ⟨rfl, rfl⟩

/-- The document's first group of a worker. -/
theorem Low_any (p i : Int) (w : World) (h1 : 1 ≤ p) (h2 : p ≤ 16) (h3 : 0 ≤ i) (h4 : i ≤ 16) :
    Calls Tryd.prog 9 #[.int .i64 p, .int .i64 i] w fun e w' => e = .returned (.int .i64 (bgn p i)) ∧ w = w' := by
  obtain ⟨d1, d2⟩ := div_bd h1 h2 h3 h4
  by_cases hr : 0 < i * 16 % p
  · have e1 := bgn_up h1 h2 hr
    have HE : Hid (i * 16 / p + 1 = bgn p i) := e1
    clear e1
    go_enter Tryd.func9, Tryd.ntmps9
    go_wp2
    go_ret
    exact ⟨ret_int HE.out, rfl⟩
  · have e1 := bgn_even h1 h2 hr
    have HE : Hid (i * 16 / p = bgn p i) := e1
    clear e1
    go_enter Tryd.func9, Tryd.ntmps9
    go_wp2
    go_ret
    exact ⟨ret_int HE.out, rfl⟩

/-- The document's owner of a group. -/
theorem ROwner_any (p g : Int) (w : World) (h1 : 1 ≤ p) (h2 : p ≤ 16) (h3 : 0 ≤ g) (h4 : g < 16) :
    Calls Tryd.prog 11 #[.int .i64 p, .int .i64 g] w fun e w' => e = .returned (.int .i64 (who p g)) ∧ w = w' := by
  go_enter Tryd.func11, Tryd.ntmps11
  go_wp2
  go_loop [5] (fun t => ∃ i : Int, 0 ≤ i ∧ i < p ∧ bgn p i ≤ g ∧ t = .int .i64 i) (fun t => (p - intOf t).toNat)
  case atStart => exact ⟨0, by omega, by omega, by rw [bgn_zero h1 h2]; exact h3, rfl⟩
  case round =>
    obtain ⟨i, i1, i2, b1, rfl⟩ := hrel
    by_cases hlt : bgn p (i + 1) ≤ g
    · have hp : i + 1 < p := by
        by_cases e : i + 1 = p
        · rw [e, bgn_end h1 h2] at hlt; omega
        · omega
      go_wp2_with (go_at_call 9; refine (Low_any _ _ _ h1 h2 (by omega) (by omega)).mono ?_; rintro e w' ⟨rfl, rfl⟩)
      exact ⟨⟨i + 1, by omega, hp, hlt, rfl⟩, by simp [intOf]; omega⟩
    · have hw : who p g = i := who_of h1 h2 i1 i2 b1 (by omega)
      have HW : Hid (who p g = i) := hw
      clear hw
      go_wp2_with (go_at_call 9; refine (Low_any _ _ _ h1 h2 (by omega) (by omega)).mono ?_; rintro e w' ⟨rfl, rfl⟩)
      go_ret
      exact ⟨ret_int HW.out.symm, rfl⟩

end Go.Proofs.YtiofpimchbhfcaaDoor
