/- What plain.Told and weirsame.Error answer, of nil and of an Errno. -/
import Derived.Test.YtnapbfilkahobaaGreatDoorAs
import Derived.Below
namespace Go.Proofs.YtnapbfilkahobaaGreatDoor
open Go.RowKit

/-- What errors.errorType holds. -/
def ET : Value := .iface 210 (.agg #[.pointer (some ⟨10, 28, none⟩)])

theorem told_nil (w : World) : Calls Tryz.prog 32 #[.nilIface] w fun e w' => e = .returned (.int .i64 0) ∧ w = w' := by
  go_enter Tryz.func32, Tryz.ntmps32
  go_wp2
  go_ret
  exact ⟨rfl, rfl⟩

set_option maxHeartbeats 1000000 in
theorem told_hit (n : Int) (w : World) (hg : w.cell? ⟨1, 0, none⟩ = some ET) :
    Calls Tryz.prog 32 #[.iface 76 (.int .i64 n)] w fun e w' => e = .returned (.int .i64 n) ∧ Below w.heap.size w w' := by
  have hlt : 1 < w.heap.size := World.block_lt_of_cell? w _ hg
  have hgA : (w.alloc (.cells #[.int .i64 0] 76)).cell? ⟨1, 0, none⟩ = some (.iface 210 (.agg #[.pointer (some ⟨10, 28, none⟩)])) := by
    rw [World.cell?_alloc_lt _ _ ⟨1, 0, none⟩ hlt]; exact hg
  have htA : (w.alloc (.cells #[.int .i64 0] 76)).cell? ⟨w.heap.size, 0, none⟩ = some (.int .i64 0) := by simp
  have hfA : (w.alloc (.cells #[.int .i64 0] 76)).frozen? ⟨w.heap.size, 0, none⟩ = false := by simp
  go_enter Tryz.func32, Tryz.ntmps32
  go_wp2_with fail
  refine (as_hit n _ (.int .i64 0) _ hgA htA hfA).mono ?_; rintro e w' ⟨rfl, rfl⟩
  go_wp2
  go_ret
  exact ⟨rfl, ((((((Below.refl _ _).alloc (Nat.le_refl _) _).alloc (by simp) _).alloc (by simp; omega) _).alloc (by simp; omega) _).alloc (by simp; omega) _)⟩

/-- weirsame.Error of nil. -/
theorem error_nil (w : World) : Calls Tryz.prog 9 #[.nilIface, .int .i64 0] w fun e w' => e = .returned (.bool true) ∧ w = w' := by
  go_enter Tryz.func9, Tryz.ntmps9
  go_wp2_with (go_at_call 32; refine (told_nil _).mono ?_; rintro e w' ⟨rfl, rfl⟩)
  go_ret
  exact ⟨rfl, rfl⟩
/-- weirsame.Error of an Errno that is the one told. -/
theorem error_hit (n : Int) (w : World) (hg : w.cell? ⟨1, 0, none⟩ = some ET) : Calls Tryz.prog 9 #[.iface 76 (.int .i64 n), .int .i64 n] w fun e w' => e = .returned (.bool true) ∧ Below w.heap.size w w' := by
  go_enter Tryz.func9, Tryz.ntmps9
  go_wp2_with (go_at_call 32; refine (told_hit _ _ hg).mono ?_; rintro e w' ⟨rfl, hb⟩)
  go_ret
  exact ⟨rfl, hb⟩
/-- The variable's cell, behind whatever was made. -/
theorem et_below {w w' : World} (hg : w.cell? ⟨1, 0, none⟩ = some ET) (hb : Below w.heap.size w w') : w'.cell? ⟨1, 0, none⟩ = some ET := by
  rw [hb.cell (p := ⟨1, 0, none⟩) (World.block_lt_of_cell? w _ hg)]; exact hg
end Go.Proofs.YtnapbfilkahobaaGreatDoor
