/- Session. -/
import Derived.Test.YtfpfaekbakilpaaDoorWs
import Derived.Laws.OwnMore
namespace Go.Proofs.YtfpfaekbakilpaaDoor
open Go.RowKit
set_option linter.unusedVariables false

theorem pc_snoc (X : List Pn) (q : Pn) : pcells (X ++ [q]) = pcells X ++ [.string q.key, .int .i64 q.fr, .int .i64 q.to, .int .i64 q.mn, .int .i64 q.sm, .int .i64 q.lt] := by
  rw [pcells_append]; rfl
/-- The last pane of a row of one's own. -/
theorem se_last {w : World} {B d : Nat} {v : Value} {X : List Pn} {q : Pn} (h : w.ownsRow B 49 6 v (d + 1) (pcells (X ++ [q]))) (hX : X.length = d) :
    ∃ g cap cur, v = .slice (some ⟨g, 0, none⟩) (d + 1) cap ∧ B ≤ g ∧ d + 1 ≤ cap ∧ w.heap[g]? = some (.cells cur 49 (0, 0)) ∧ w.cell? ⟨g, d * 6, none⟩ = some (.string q.key) ∧ w.cell? ⟨g, d * 6 + 1, none⟩ = some (.int .i64 q.fr) ∧ w.cell? ⟨g, d * 6 + 2, none⟩ = some (.int .i64 q.to) ∧ w.cell? ⟨g, d * 6 + 3, none⟩ = some (.int .i64 q.mn) ∧ w.cell? ⟨g, d * 6 + 4, none⟩ = some (.int .i64 q.sm) ∧ w.cell? ⟨g, d * 6 + 5, none⟩ = some (.int .i64 q.lt) := by
  obtain ⟨l0, l1, l2, l3, l4, l5⟩ := pcells_at (X ++ [q]) d (by simp [hX])
  have e : (X ++ [q])[d]'(by simp [hX]) = q := by subst hX; simp
  rw [e] at l0 l1 l2 l3 l4 l5
  have h' := h
  rcases h.2 with ⟨-, h0⟩ | ⟨g, cap, cur, rfl, h1, h2, h3, h4, h5, h6⟩
  · omega
  · refine ⟨g, cap, cur, rfl, h1, h3, h2, ?_, ?_, ?_, ?_, ?_, ?_⟩
    · rw [h'.cellAt _ (by omega)]; exact l0
    · rw [h'.cellAt _ (by omega)]; exact l1
    · rw [h'.cellAt _ (by omega)]; exact l2
    · rw [h'.cellAt _ (by omega)]; exact l3
    · rw [h'.cellAt _ (by omega)]; exact l4
    · rw [h'.cellAt _ (by omega)]; exact l5
/-- It counts one record more. -/
theorem se_end {w u : World} {B d g cap : Nat} {X : List Pn} {q : Pn} {cur : Array Value} {to num : Int} (h : w.ownsRow B 49 6 (.slice (some ⟨g, 0, none⟩) (d + 1) cap) (d + 1) (pcells (X ++ [q]))) (hX : X.length = d) (hw : w.heap[g]? = some (.cells cur 49 (0, 0)))
    (hu : u.heap[g]? = some (.cells (cntA (cur.setIfInBounds (d * 6 + 2) (.int .i64 to)) (d * 6) q.mn q.sm num) 49 (0, 0))) :
    u.ownsRow B 49 6 (.slice (some ⟨g, 0, none⟩) (d + 1) cap) (d + 1) (pcells (X ++ [⟨q.key, q.fr, to, w64 (q.mn + 1), w64 (q.sm + num), q.lt⟩])) := by
  rcases h.2 with ⟨h0, -⟩ | ⟨g', cap', cur', h0, h1, h2, h3, h4, h5, h6⟩
  · simp at h0
  · simp only [Value.slice.injEq, Option.some.injEq, Addr.mk.injEq, and_true, true_and] at h0
    obtain ⟨rfl, rfl⟩ := h0
    rw [hw] at h2
    simp only [Option.some.injEq, Obj.cells.injEq, and_true] at h2
    subst h2
    refine ⟨by rw [pcells_len, List.length_append]; simp [hX], .inr ⟨g, cap, _, rfl, h1, hu, h3, h4, ?_, ?_⟩⟩
    · simp [cntA, h5]
    · unfold cntA
      rw [Array.toList_setIfInBounds, Array.toList_setIfInBounds, Array.toList_setIfInBounds, List.take_set, List.take_set, List.take_set, h6, pc_snoc, pc_snoc]
      have hl : (pcells X).length = d * 6 := by rw [pcells_len, hX]
      rw [List.set_append_right _ _ (by omega), List.set_append_right _ _ (by omega), List.set_append_right _ _ (by omega)]
      simp [hl]
end Go.Proofs.YtfpfaekbakilpaaDoor
