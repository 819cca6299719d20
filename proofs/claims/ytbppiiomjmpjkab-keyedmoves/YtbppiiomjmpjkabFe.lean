/- What package frame reads: Open; bytes.Equal, bytes.Clone. -/
import Derived.Test.YtbppiiomjmpjkabFd
import Derived.Deep.RegionWith
import Derived.Lib.SliceRun
namespace Go.Proofs.Ytbppiiomjmpjkab
open Go.RowKit

theorem own_mono {w : World} {B B' : Nat} {v : Value} {l : List UInt8} (h : Own B w v l) (hb : B' ≤ B) : Own B' w v l :=
  ⟨h.1, h.2.imp id fun ⟨g, cap, cur, h0, h1, h2⟩ => ⟨g, cap, cur, h0, Nat.le_trans hb h1, h2⟩⟩
/-- How Open ends. -/
def OpenEnd (w : World) (r : Option (List UInt8 × Nat)) (e : Ending) (w' : World) : Prop := match r with
  | none => e = .returned (.tuple #[.slice none 0 0, .int .i64 0, .iface 54 (.int .i64 9)]) ∧ Below w.heap.size w w'
  | some (x, k) => ∃ v', e = .returned (.tuple #[v', .int .i64 k, .nilIface]) ∧ Own w.heap.size w' v' x ∧ Below w.heap.size w w'
theorem bs_piece {w : World} {b o : Nat} {l : List UInt8} (hc : ∀ i (h : i < l.length), w.cell? ⟨b, o + i, none⟩ = some (.int .u8 l[i].toNat)) (k n : Nat) (h : k + n ≤ l.length) : BsAt w (some ⟨b, o + k, none⟩) ((l.drop k).take n) := by
  refine .inr ⟨b, o + k, rfl, fun i hi => ?_⟩
  have hi' : i < n := by simp at hi; omega
  rw [Nat.add_assoc, hc (k + i) (by omega)]
  simp
end Go.Proofs.Ytbppiiomjmpjkab
