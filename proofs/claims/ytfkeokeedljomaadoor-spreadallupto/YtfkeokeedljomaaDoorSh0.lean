/- Rows of numbers that are made, and written. -/
import Derived.Test.YtfkeokeedljomaaDoorSc
import Derived.Laws.MakeOwn
namespace Go.Proofs.YtfkeokeedljomaaDoor
open Go.RowKit
set_option linter.unusedVariables false

theorem infoZ : (Tryd.prog.info? 3).map (fun i => (i.zero, i.size, i.bytes)) = some (some (.int .i64 0), 1, 8) := by kernel_rfl
theorem make_i (n : Nat) (hn : n ≤ 400) (w : World) : (Instr.makeSlice 33 (.int .i64 (n : Int)) (.int .i64 (n : Int))).run Tryd.prog w = .ok (.slice (some ⟨w.heap.size, 0, none⟩) n n) (w.alloc (.cells (madeCells #[.int .i64 0] n) 3)) := by
  obtain ⟨i0, hi, hz0, hz1, hz2⟩ := info_parts infoZ
  have := run_make (P := Tryd.prog) w 33 3 i0 (.int .i64 0) Tryd.underlying33 hi hz0 .i64 .i64 n n (by omega) (by omega) (by rw [hz2]; omega) (by omega)
  rw [hz1] at this
  simpa [Value.cells] using this
/-- A row of numbers of either sign. -/
def ZR (w : World) (b : Nat) (L : List Int) : Prop := ∀ (k : Nat) (x : Int), L[k]? = some x → w.cell? ⟨b, k, none⟩ = some (.int .i64 x) ∧ w.frozen? ⟨b, k, none⟩ = false
theorem ZR.fr {w w' : World} {b : Nat} {L : List Int} {xs : List Nat} (h : ZR w b L) (hx : b ∉ xs) (f : Fr xs w w') : ZR w' b L := fun k x hk => by
  obtain ⟨h1, h2⟩ := h k x hk
  exact ⟨by rw [f.cell (p := ⟨b, k, none⟩) (cell_lt h1) hx]; exact h1, by rw [f.frozen (p := ⟨b, k, none⟩) (cell_lt h1) hx]; exact h2⟩
theorem ZR.set {w : World} {b : Nat} {L : List Int} (h : ZR w b L) (p : Nat) (v : Int) : ZR (w.setCell ⟨b, p, none⟩ (.int .i64 v)) b (L.set p v) := fun k x hk => by
  by_cases hp : p = k
  · subst hp
    rw [List.getElem?_set] at hk
    simp only [if_true] at hk
    split at hk
    · rename_i hlt
      injection hk with hk
      subst hk
      obtain ⟨h1, h2⟩ := h p L[p] (List.getElem?_eq_getElem hlt)
      exact ⟨World.cell?_setCell_same _ _ _ h1, by rw [World.frozen?_setCell]; exact h2⟩
    · cases hk
  · rw [List.getElem?_set_ne hp] at hk
    obtain ⟨h1, h2⟩ := h k x hk
    exact ⟨by rw [World.cell?_setCell_other (h := by intro e; injection e with _ e2 _; exact hp e2)]; exact h1, by rw [World.frozen?_setCell]; exact h2⟩
theorem made_cell (w : World) (n k : Nat) (hk : k < n) : (w.alloc (.cells (madeCells #[.int .i64 0] n) 3)).cell? ⟨w.heap.size, k, none⟩ = some (.int .i64 0) ∧ (w.alloc (.cells (madeCells #[.int .i64 0] n) 3)).frozen? ⟨w.heap.size, k, none⟩ = false := by
  have h1 : (madeCells #[.int .i64 0] n)[k]? = some (.int .i64 0) := by
    rw [Array.getElem?_eq_getElem (by rw [size_madeCells]; exact hk)]
    simp [madeCells, Nat.mod_one]
  have h2 := heap_alloc_new w (.cells (madeCells #[.int .i64 0] n) 3)
  constructor
  · simp only [World.cell?, h2]; exact h1
  · simp only [World.frozen?, h2]; simp
theorem ZR.made (w : World) (n : Nat) : ZR (w.alloc (.cells (madeCells #[.int .i64 0] n) 3)) w.heap.size (List.replicate n 0) := fun k x hk => by
  obtain ⟨hl, rfl⟩ := List.getElem?_eq_some_iff.1 hk
  rw [List.length_replicate] at hl
  rw [List.getElem_replicate]
  exact made_cell w n k hl
theorem IR.made (w : World) (n : Nat) : IR (w.alloc (.cells (madeCells #[.int .i64 0] n) 3)) w.heap.size (List.replicate n 0) := fun k x hk => by
  obtain ⟨hl, rfl⟩ := List.getElem?_eq_some_iff.1 hk
  rw [List.length_replicate] at hl
  rw [List.getElem_replicate]
  exact made_cell w n k hl
end Go.Proofs.YtfkeokeedljomaaDoor
