/- weirsame.Ints at two lists that are the same. -/
import Derived.Test.YthadeccnibnioaaGreatDoorJa
namespace Go.Proofs.YthadeccnibnioaaGreatDoor
open Go.RowKit

set_option maxHeartbeats 1000000 in
theorem ints_same {w : World} {la lb : Option Addr} {z : List Int} (ha : IntsAt w la z) (hb : IntsAt w lb z) (ca cb : Nat) (hz : z.length ≤ 9223372036854775807) :
    Calls Tryz.prog 23 #[.slice la z.length ca, .slice lb z.length cb] w fun e w' => e = .returned (.bool true) ∧ ∃ n, w' = w.drewN n := by
  go_enter Tryz.func23, Tryz.ntmps23
  go_wp2_with fail
  go_loopw [5] (fun i wr => ∃ j : Nat, j ≤ z.length ∧ i = .int .i64 j ∧ ∃ n, wr = w.drewN n) (fun i _ => z.length - (intOf i).toNat)
  case atStart => exact ⟨0, by omega, rfl, 0, rfl⟩
  case round =>
    obtain ⟨j, hj, rfl, n, rfl⟩ := hrel
    by_cases hlt : j < z.length
    · have hi : (j : Int) < z.length := by omega
      rcases ha with ha | ⟨b1, o1, rfl, ha⟩
      · subst ha; simp at hlt
      rcases hb with hb | ⟨b2, o2, rfl, hb⟩
      · subst hb; simp at hlt
      have c1 := ha j hlt
      have c2 := hb j hlt
      generalize z[j] = x at *
      clear ha hb
      go_wp2_with fail
      go_quiet (fail)
      go_wp2_with fail
      exact ⟨⟨j + 1, by omega, by go_num, n + nq, rfl⟩, by simp [intOf]; omega⟩
    · have hi : ¬ (j : Int) < z.length := by omega
      go_wp2
      go_ret
      exact ⟨rfl, n, rfl⟩
end Go.Proofs.YthadeccnibnioaaGreatDoor
