/- The document's reader: a text that comes next. -/
import Derived.Test.YtnapbfilkahobaaGreatDoorSa
namespace Go.Proofs.YtnapbfilkahobaaGreatDoor
open Go.RowKit

set_option maxHeartbeats 2000000 in
theorem ris_not {w : World} {pb k dp wr bd : Nat} {s p : ByteArray} (h : Rp w pb s k dp wr bd) (hs : s.size ≤ 120) (hl : k + p.size ≤ s.size) (hE : ((s.extract k (k + p.size)).toList == p.toList) = false) :
    Calls Tryz.prog 105 #[.pointer (some ⟨pb, 0, none⟩), .string p] w fun e w' => e = .returned (.bool false) ∧ Rp w' pb s k dp wr bd ∧ Fr [pb] w w' := by
  have h0 := h.c0
  have h1 := h.c1
  have hq : decide ((k : Int) + (p.size : Int) ≤ (s.size : Int)) = true := by simp; omega
  have hq2 : (k : Int) + (p.size : Int) ≤ (s.size : Int) := by omega
  have hw : IntKind.i64.wrap ((k : Int) + (p.size : Int)) = (k : Int) + (p.size : Int) := by rw [IntKind.wrap_i64]; omega
  have b1 : (0 : Int) ≤ (k : Int) := by omega
  have b2 : (k : Int) ≤ (k : Int) + (p.size : Int) := by omega
  have b3 : ((k : Int) + (p.size : Int)).toNat = k + p.size := by omega
  have b4 : (0 : Int) ≤ (k : Int) + (p.size : Int) := by omega
  have b5 : ¬ (s.size : Int) < (k : Int) + (p.size : Int) := by omega
  have b6 : ¬ (k : Int) + (p.size : Int) < (k : Int) := by omega
  have b7 : ¬ (k : Int) + (p.size : Int) < 0 := by omega
  go_enter Tryz.func105, Tryz.ntmps105
  go_wp2_with fail
  go_quiet (fail)
  go_wp2_with fail
  go_ret
  exact ⟨rfl, h, (Fr.refl _ _).drewN _⟩

set_option maxHeartbeats 2000000 in
theorem ris_yes {w : World} {pb k dp wr bd : Nat} {s p : ByteArray} (h : Rp w pb s k dp wr bd) (hs : s.size ≤ 120) (hl : k + p.size ≤ s.size) (hE : ((s.extract k (k + p.size)).toList == p.toList) = true) :
    Calls Tryz.prog 105 #[.pointer (some ⟨pb, 0, none⟩), .string p] w fun e w' => e = .returned (.bool true) ∧ Rp w' pb s (k + p.size) dp wr bd ∧ Fr [pb] w w' := by
  have h0 := h.c0
  have h1 := h.c1
  have hq : decide ((k : Int) + (p.size : Int) ≤ (s.size : Int)) = true := by simp; omega
  have hq2 : (k : Int) + (p.size : Int) ≤ (s.size : Int) := by omega
  have hw : IntKind.i64.wrap ((k : Int) + (p.size : Int)) = (k : Int) + (p.size : Int) := by rw [IntKind.wrap_i64]; omega
  have b1 : (0 : Int) ≤ (k : Int) := by omega
  have b2 : (k : Int) ≤ (k : Int) + (p.size : Int) := by omega
  have b3 : ((k : Int) + (p.size : Int)).toNat = k + p.size := by omega
  have b4 : (0 : Int) ≤ (k : Int) + (p.size : Int) := by omega
  have b5 : ¬ (s.size : Int) < (k : Int) + (p.size : Int) := by omega
  have b6 : ¬ (k : Int) + (p.size : Int) < (k : Int) := by omega
  have b7 : ¬ (k : Int) + (p.size : Int) < 0 := by omega
  have f1 := h.fz 1
  go_enter Tryz.func105, Tryz.ntmps105
  go_wp2_with fail
  go_quiet (fail)
  go_wp2_with fail
  go_ret
  exact ⟨rfl, (h.drewN _).set1 (k + p.size), ((Fr.refl _ _).drewN _).setCell (.inl (by simp)) _⟩
end Go.Proofs.YtnapbfilkahobaaGreatDoor
