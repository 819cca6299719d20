/- The document's reader: a text that comes next, by its bytes; a text that must come. -/
import Derived.Test.YtnapbfilkahobaaGreatDoorSb
import Derived.Test.YtnapbfilkahobaaGreatDoorPureT
namespace Go.Proofs.YtnapbfilkahobaaGreatDoor
open Go.RowKit

theorem next_iff (s p : ByteArray) (k : Nat) : ((s.extract k (k + p.size)).toList == p.toList) = decide (p.data.toList <+: s.data.toList.drop k) := by
  rw [toList_eq, toList_eq]
  have e : (s.extract k (k + p.size)).data.toList = (s.data.toList.drop k).take p.size := by
    simp
  rw [e]
  have hp : p.data.toList.length = p.size := by simp
  rw [Bool.eq_iff_iff]
  simp only [beq_iff_eq, decide_eq_true_eq]
  rw [List.prefix_iff_eq_take, hp]
  exact eq_comm

section
variable {w : World} {pb k dp wr bd : Nat} {s p : ByteArray}
theorem ris_take (h : Rp w pb s k dp wr bd) (hs : s.size ≤ 120) (hp : p.data.toList <+: s.data.toList.drop k) (hpos : 0 < p.size) :
    Calls Tryz.prog 105 #[.pointer (some ⟨pb, 0, none⟩), .string p] w fun e w' => e = .returned (.bool true) ∧ Rp w' pb s (k + p.size) dp wr bd ∧ Fr [pb] w w' := by
  have hl : k + p.size ≤ s.size := by
    have := hp.length_le
    simp at this
    have e1 : p.data.size = p.size := rfl
    have e2 : s.data.size = s.size := rfl
    omega
  exact ris_yes h hs hl (by rw [next_iff]; simpa using hp)
theorem ris_none (h : Rp w pb s k dp wr bd) (hk : k ≤ s.size) (hs : s.size ≤ 120) (h4 : p.size ≤ 4) (hp : ¬ p.data.toList <+: s.data.toList.drop k) :
    Calls Tryz.prog 105 #[.pointer (some ⟨pb, 0, none⟩), .string p] w fun e w' => e = .returned (.bool false) ∧ Rp w' pb s k dp wr bd ∧ Fr [pb] w w' := by
  by_cases hl : k + p.size ≤ s.size
  · exact ris_not h hs hl (by rw [next_iff]; simpa using hp)
  · exact ris_long h hk hs h4 (by omega)
theorem rwant_yes (h : Rp w pb s k dp wr bd) (hs : s.size ≤ 120) (hp : p.data.toList <+: s.data.toList.drop k) (hpos : 0 < p.size) :
    Calls Tryz.prog 66 #[.pointer (some ⟨pb, 0, none⟩), .string p] w fun e w' => e = .returned (.tuple #[]) ∧ Rp w' pb s (k + p.size) dp wr bd ∧ Fr [pb] w w' := by
  go_enter Tryz.func66, Tryz.ntmps66
  go_wp2_with (go_at_call 105; refine (ris_take h hs hp hpos).mono ?_; rintro e w' ⟨rfl, hr, hf⟩)
  go_end0
  exact ⟨rfl, hr, hf⟩
theorem rwant_no (h : Rp w pb s k dp wr 0) (hk : k ≤ s.size) (hs : s.size ≤ 120) (h4 : p.size ≤ 4) (hp : ¬ p.data.toList <+: s.data.toList.drop k) :
    Calls Tryz.prog 66 #[.pointer (some ⟨pb, 0, none⟩), .string p] w fun e w' => e = .returned (.tuple #[]) ∧ Rp w' pb s k dp k 2 ∧ Fr [pb] w w' := by
  go_enter Tryz.func66, Tryz.ntmps66
  go_wp2_with (first | (go_at_call 105; refine (ris_none h hk hs h4 hp).mono ?_; rintro e w1 ⟨rfl, hr, hf⟩; have c1 := hr.c1) | (go_at_call 30; refine (rfail_any hr k 2).mono ?_; rintro e w2 ⟨rfl, hr2, hf2⟩))
  go_end0
  exact ⟨rfl, hr2, hf.trans hf2⟩
end
end Go.Proofs.YtnapbfilkahobaaGreatDoor
