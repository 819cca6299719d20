/- The document's record; two rows of numbers that are the same. -/
import Derived.Test.YtfpfaekbakilpaaDoorWc
namespace Go.Proofs.YtfpfaekbakilpaaDoor
open Go.RowKit
set_option linter.unusedVariables false

set_option maxHeartbeats 1000000 in
theorem srec_any (r : Rg) (w : World) (hk : r.key.size ≤ 9223372036854775807) : Calls Tryd.prog 16 #[rV r] w fun e w' => e = .returned (.bool (!badR r)) ∧ Below w.heap.size w w' := by
  obtain ⟨key, num, tm⟩ := r
  simp only [rV, badR, Bool.not_not] at hk ⊢
  by_cases h1 : (key.size : Int) ≤ 40
  · have e1 : decide (key.size ≤ 40) = true := by simp; omega
    by_cases h2 : 0 ≤ tm
    · rw [e1, decide_eq_true h2]
      clear e1
      go_enter Tryd.func16, Tryd.ntmps16
      go_wp2_with fail
      go_ret
      exact ⟨ret_bool (by simp), (Below.refl _ _).alloc (Nat.le_refl _) _⟩
    · rw [e1, decide_eq_false h2]
      clear e1
      go_enter Tryd.func16, Tryd.ntmps16
      go_wp2_with fail
      go_ret
      exact ⟨ret_bool (by simp), (Below.refl _ _).alloc (Nat.le_refl _) _⟩
  · have e1 : decide (key.size ≤ 40) = false := by simp; omega
    rw [e1]
    clear e1
    go_enter Tryd.func16, Tryd.ntmps16
    go_wp2_with fail
    go_ret
    exact ⟨ret_bool (by simp), (Below.refl _ _).alloc (Nat.le_refl _) _⟩
theorem ints_at {w : World} {la : Option Addr} {L : List Int} (h : CsAt w la (L.map (Value.int .i64))) (k : Nat) (hk : k < L.length) : ∃ b o, la = some ⟨b, o, none⟩ ∧ w.cell? ⟨b, o + k, none⟩ = some (.int .i64 L[k]) := by
  obtain ⟨b, o, rfl, hc⟩ := h.at (by intro e; have := congrArg List.length e; simp at this; subst this; simp at hk)
  exact ⟨b, o, rfl, hc k _ (by simp [hk])⟩
set_option maxRecDepth 100000 in
set_option maxHeartbeats 1000000 in
theorem isame_any (w : World) (A1 A2 : Option Addr) (c1 c2 : Nat) (L : List Int) (h1 : CsAt w A1 (L.map (Value.int .i64))) (h2 : CsAt w A2 (L.map (Value.int .i64))) (hL : L.length ≤ 9223372036854775807) :
    Calls Tryd.prog 15 #[.slice A1 L.length c1, .slice A2 L.length c2] w fun e w' => e = .returned (.bool true) ∧ Below w.heap.size w w' := by
  have hb0 : ((L.length : Int) == (L.length : Int)) = true := by simp
  go_enter Tryd.func15, Tryd.ntmps15
  go_wp2_with fail
  go_loopw [5] (fun i wr => ∃ k : Nat, k ≤ L.length ∧ i = .int .i64 k ∧ Below w.heap.size w wr) (fun i _ => L.length - (intOf i).toNat)
  case atStart => exact ⟨0, by omega, rfl, Below.refl _ _⟩
  case round =>
    obtain ⟨k, hk, rfl, hb⟩ := hrel
    by_cases hlt : k < L.length
    · obtain ⟨b, o, rfl, p0⟩ := ints_at (h1.keep hb) k hlt
      obtain ⟨b', o', rfl, q0⟩ := ints_at (h2.keep hb) k hlt
      generalize L[k] = x at *
      go_wp2_with fail
      try go_quiet (fail)
      try go_wp2_with fail
      go_roundw
      case rel => exact ⟨k + 1, by omega, by go_num, ⟨hb.os, hb.tape, hb.output, hb.size, hb.block⟩⟩
      case measure => simp [intOf]; omega
    · go_wp2_with fail
      go_ret
      exact ⟨rfl, hb⟩
end Go.Proofs.YtfpfaekbakilpaaDoor
