/- A row of panes cut in two: what the two ends are. -/
import Derived.Test.YtfpfaekbakilpaaDoorOa
namespace Go.Proofs.YtfpfaekbakilpaaDoor
open Go.RowKit
set_option linter.unusedVariables false

theorem pn_none {w : World} {n c : Nat} {L : List Pn} (h : PnR w (.slice none n c) L) : L = [] ∧ n = 0 ∧ c = 0 := by
  have hs := h.slice
  rcases h.2 with ⟨h0, h1⟩ | ⟨g, o, cap, cur, hv, _⟩
  · simp at h0
    exact ⟨List.length_eq_zero_iff.1 h1, h0⟩
  · cases hv
set_option maxRecDepth 100000 in
theorem run_lo {w : World} {A : Option Addr} {n c : Nat} {L : List Pn} (h : PnR w (.slice A n c) L) {N : Nat} (hN : N ≤ L.length) (u : World) : (Instr.slice 23 (.slice A n c) none (some (.int .i64 (N : Int))) none).run Tryd.prog u = .ok (.slice A N c) u := by
  have hu := Tryd.underlying23
  have hz := Tryd.sizeOf49
  obtain ⟨A', c', e, hle, -⟩ := h.slice
  injection e with e1 e2 e3
  subst e1 e2 e3
  have h4 : N ≤ c := by omega
  cases A with
  | none =>
    obtain ⟨h1, h2, rfl⟩ := pn_none h
    obtain rfl : N = 0 := by omega
    simp [Instr.slice, Instr.sliceBounds, Instr.sliceBound, asIntOf, run_underlying hu, hz, go_sem]
  | some a =>
    simp [Instr.slice, Instr.sliceBounds, Instr.sliceBound, asIntOf, run_underlying hu, hz, h4, go_sem]
set_option maxRecDepth 100000 in
theorem run_hi {w : World} {A : Option Addr} {n c : Nat} {L : List Pn} (h : PnR w (.slice A n c) L) {N : Nat} (hN : N ≤ L.length) : ∃ x3, (∀ u : World, (Instr.slice 23 (.slice A n c) (some (.int .i64 (N : Int))) none none).run Tryd.prog u = .ok x3 u) ∧
    ∀ u, Below w.heap.size w u → Src Tryd.prog 6 23 x3 (L.drop N).length (pcells (L.drop N)) u := by
  have hu := Tryd.underlying23
  have hz := Tryd.sizeOf49
  obtain ⟨A', c', e, hle, -⟩ := h.slice
  injection e with e1 e2 e3
  subst e1 e2 e3
  cases A with
  | none =>
    obtain ⟨rfl, h2, rfl⟩ := pn_none h
    obtain rfl : N = 0 := by simpa using hN
    refine ⟨.slice none 0 0, fun u => ?_, fun u _ => Src.ofNil u hu 0⟩
    simp [Instr.slice, Instr.sliceBounds, Instr.sliceBound, asIntOf, run_underlying hu, hz, go_sem]
  | some a =>
    obtain ⟨g, o, rfl⟩ : ∃ g o, a = ⟨g, o, none⟩ := by
      rcases h.2 with ⟨h0, -⟩ | ⟨g, o, cap, cur, hv, _⟩
      · cases h0
      · injection hv with e1 e2 e3; injection e1 with e1; exact ⟨g, o, e1⟩
    refine ⟨.slice (some (if c = N then ⟨g, o, none⟩ else ⟨g, o + N * 6, none⟩)) (L.length - N) (c - N), fun u => ?_, fun u hb => pn_drop (h.keep hb) hN⟩

    by_cases hc : c = N
    · simp [Instr.slice, Instr.sliceBounds, Instr.sliceBound, asIntOf, run_underlying hu, hz, hN, hc, go_sem]
    · simp [Instr.slice, Instr.sliceBounds, Instr.sliceBound, asIntOf, run_underlying hu, hz, hN, hc, go_sem]
end Go.Proofs.YtfpfaekbakilpaaDoor
