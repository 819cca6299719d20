/- Two lists of records that are the same. -/
import Derived.Test.YtbppiiomjmpjkaaDoorFn
namespace Go.Proofs.YtbppiiomjmpjkaaDoor
open Go.RowKit

set_option maxRecDepth 100000 in
set_option maxHeartbeats 1000000 in
theorem sameRecs_any (w : World) (la lb : Option Addr) (c d : Nat) (L : List Rc) (ha : CsAt w la (rcells L)) (hb : CsAt w lb (rcells L)) (hlen : L.length ≤ 9223372036854775807) :
    Calls Tryd.prog 10 #[.slice la L.length c, .slice lb L.length d] w fun e w' => e = .returned (.bool true) ∧ Below w.heap.size w w' := by
  go_enter Tryd.func10, Tryd.ntmps10
  go_wp2_with fail
  go_loopw [5] (fun i wr => ∃ k : Nat, k ≤ L.length ∧ i = .int .i64 k ∧ Below w.heap.size w wr) (fun i _ => L.length - (intOf i).toNat)
  case atStart => exact ⟨0, by omega, rfl, Below.refl _ _⟩
  case round =>
    obtain ⟨k, hk, rfl, hbl⟩ := hrel
    by_cases hlt : k < L.length
    · obtain ⟨b, o, rfl, c0, c1, c2⟩ := rcs_at (ha.keep hbl) k hlt
      obtain ⟨b', o', rfl, d0, d1, d2⟩ := rcs_at (hb.keep hbl) k hlt
      generalize L[k] = r at *
      obtain ⟨key, num, time⟩ := r
      simp only at c0 c1 c2 d0 d1 d2
      go_wp2_with fail
      go_quiet (fail)
      go_wp2_with fail
      go_roundw
      case rel => exact ⟨k + 1, by omega, by go_num, by exact ⟨hbl.os, hbl.tape, hbl.output, hbl.size, hbl.block⟩⟩
      case measure => simp [intOf]; omega
    · go_wp2_with fail
      go_ret
      exact ⟨rfl, hbl⟩
end Go.Proofs.YtbppiiomjmpjkaaDoor
