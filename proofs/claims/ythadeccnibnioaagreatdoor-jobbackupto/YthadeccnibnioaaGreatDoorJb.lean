/- What a node's kind asks: hasN, hasText, inputs, bounds; checkFrom. -/
import Derived.Test.YthadeccnibnioaaGreatDoorJa
namespace Go.Proofs.YthadeccnibnioaaGreatDoor
open Go.RowKit

theorem hasN_any (k : Int) (w : World) : Calls Tryz.prog 88 #[.int .i64 k] w fun e w' => e = .returned (.bool (hasNP k)) ∧ w = w' := by
  by_cases h1 : k = 1
  · subst h1
    go_enter Tryz.func88, Tryz.ntmps88
    go_wp2_with fail
    go_ret
    exact ⟨rfl, rfl⟩
  · by_cases h5 : k = 5
    · subst h5
      go_enter Tryz.func88, Tryz.ntmps88
      go_wp2_with fail
      go_ret
      exact ⟨rfl, rfl⟩
    · by_cases h8 : k = 8
      · subst h8
        go_enter Tryz.func88, Tryz.ntmps88
        go_wp2_with fail
        go_ret
        exact ⟨rfl, rfl⟩
      · have e1 : (k == 1) = false := by simpa using h1
        have e5 : (k == 5) = false := by simpa using h5
        have e8 : (k == 8) = false := by simpa using h8
        have e : hasNP k = false := by simp [hasNP, e1, e5, e8]
        rw [e]
        go_enter Tryz.func88, Tryz.ntmps88
        go_wp2_with fail
        go_ret
        exact ⟨rfl, rfl⟩

theorem hasT_any (k : Int) (w : World) : Calls Tryz.prog 89 #[.int .i64 k] w fun e w' => e = .returned (.bool (hasTP k)) ∧ w = w' := by
  by_cases h : k = 2 ∨ k = 3 ∨ k = 4 ∨ k = 7
  · rcases h with rfl | rfl | rfl | rfl <;>
    · go_enter Tryz.func89, Tryz.ntmps89
      go_wp2_with fail
      go_ret
      exact ⟨rfl, rfl⟩
  · have e1 : (k == 2) = false := by simp; omega
    have e2 : (k == 3) = false := by simp; omega
    have e3 : (k == 4) = false := by simp; omega
    have e4 : (k == 7) = false := by simp; omega
    have e : hasTP k = false := by simp [hasTP, e1, e2, e3, e4]
    rw [e]
    clear h
    go_enter Tryz.func89, Tryz.ntmps89
    go_wp2_with fail
    go_ret
    exact ⟨rfl, rfl⟩

theorem inputs_any (k : Int) (w : World) : Calls Tryz.prog 82 #[.int .i64 k] w fun e w' => e = .returned (.tuple #[.int .i64 (inLo k), .int .i64 (inHi k)]) ∧ w = w' := by
  by_cases h : k = 1 ∨ k = 6
  · rcases h with rfl | rfl <;>
    · go_enter Tryz.func82, Tryz.ntmps82
      go_wp2_with fail
      go_ret2
      exact ⟨rfl, rfl⟩
  · have e1 : (k == 1) = false := by simp; omega
    have e2 : (k == 6) = false := by simp; omega
    have e : inLo k = 1 ∧ inHi k = 1 := ⟨by rw [inLo, if_neg (by omega)], by rw [inHi, if_neg (by omega), if_neg (by omega)]⟩
    rw [e.1, e.2]
    clear h e
    go_enter Tryz.func82, Tryz.ntmps82
    go_wp2_with fail
    go_ret2
    exact ⟨rfl, rfl⟩

theorem bounds_any (k : Int) (w : World) : Calls Tryz.prog 126 #[.int .i64 k] w fun e w' => e = .returned (.tuple #[.int .i64 (bdLo k), .int .i64 (bdHi k)]) ∧ w = w' := by
  by_cases h : k = 1 ∨ k = 5 ∨ k = 8
  · rcases h with rfl | rfl | rfl <;>
    · go_enter Tryz.func126, Tryz.ntmps126
      go_wp2_with fail
      go_ret2
      exact ⟨rfl, rfl⟩
  · have e1 : (k == 1) = false := by simp; omega
    have e2 : (k == 5) = false := by simp; omega
    have e3 : (k == 8) = false := by simp; omega
    have e : bdLo k = 0 ∧ bdHi k = 0 := ⟨by rw [bdLo, if_neg (by omega), if_neg (by omega)], by rw [bdHi, if_neg (by omega), if_neg (by omega), if_neg (by omega)]⟩
    rw [e.1, e.2]
    clear h e
    go_enter Tryz.func126, Tryz.ntmps126
    go_wp2_with fail
    go_ret2
    exact ⟨rfl, rfl⟩

end Go.Proofs.YthadeccnibnioaaGreatDoor
