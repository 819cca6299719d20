/- What a tree comes to. -/
import Derived.Test.YtppkjiihmlphbaaGreatDoorRm
namespace Go.Proofs.YtppkjiihmlphbaaGreatDoor
open Go.RowKit

theorem wr_eq (x : Int) : wrap64 x = wr x := by unfold wrap64 wr; omega
theorem ret_int {k : IntKind} {a b : Int} (h : a = b) : Ending.returned (.int k a) = .returned (.int k b) := by rw [h]

theorem truth_any (b : Bool) (w : World) : Calls Tryz.prog 103 #[.bool b] w fun e w' => e = .returned (.int .i64 (if b then 1 else 0)) ∧ w = w' := by
  cases b
  · go_enter Tryz.func103, Tryz.ntmps103
    go_wp2_with fail
    go_ret
    exact ⟨rfl, rfl⟩
  · go_enter Tryz.func103, Tryz.ntmps103
    go_wp2_with fail
    go_ret
    exact ⟨rfl, rfl⟩

theorem quotient_any (a b : Int) (w : World) : Calls Tryz.prog 104 #[.int .i64 a, .int .i64 b] w fun e w' => e = .returned (.int .i64 (if b = 0 then 0 else wr (a.tdiv b))) ∧ w = w' := by
  by_cases hb : b = 0
  · subst hb
    go_enter Tryz.func104, Tryz.ntmps104
    go_wp2_with fail
    go_ret
    exact ⟨rfl, rfl⟩
  · go_enter Tryz.func104, Tryz.ntmps104
    go_wp2_with fail
    go_ret
    exact ⟨ret_int (wr_eq _), rfl⟩

theorem rest_any (a b : Int) (w : World) : Calls Tryz.prog 105 #[.int .i64 a, .int .i64 b] w fun e w' => e = .returned (.int .i64 (if b = 0 then 0 else a.tmod b)) ∧ w = w' := by
  by_cases hb : b = 0
  · subst hb
    go_enter Tryz.func105, Tryz.ntmps105
    go_wp2_with fail
    go_ret
    exact ⟨rfl, rfl⟩
  · go_enter Tryz.func105, Tryz.ntmps105
    go_wp2_with fail
    go_ret
    exact ⟨rfl, rfl⟩

def okOps : List UInt8 := [61, 60, 62, 43, 45, 42, 47, 37, 109, 77]

set_option maxHeartbeats 1000000 in
theorem ofTwo_any (op : UInt8) (ho : op ∈ okOps) (a b : Int) (w : World) : Calls Tryz.prog 92 #[.int .u8 op.toNat, .int .i64 a, .int .i64 b] w fun e w' => e = .returned (.int .i64 (of2 op a b)) ∧ w = w' := by
  simp only [okOps, List.mem_cons, List.not_mem_nil, or_false] at ho
  rcases ho with rfl | rfl | rfl | rfl | rfl | rfl | rfl | rfl | rfl | rfl
  all_goals
    go_enter Tryz.func92, Tryz.ntmps92
    go_wp2_with (first | (go_at_call 103; refine (truth_any _ _).mono ?_; rintro e w' ⟨rfl, rfl⟩) | (go_at_call 104; refine (quotient_any _ _ _).mono ?_; rintro e w' ⟨rfl, rfl⟩) | (go_at_call 105; refine (rest_any _ _ _).mono ?_; rintro e w' ⟨rfl, rfl⟩))
  all_goals
    go_ret
    refine ⟨ret_int ?_, rfl⟩
  all_goals first
    | (simp [of2, wr_eq, *]; done)
    | (simp [of2]; omega)
end Go.Proofs.YtppkjiihmlphbaaGreatDoor
