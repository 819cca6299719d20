/- A row of truths. -/
import Derived.Test.YtfkeokeedljomaaDoorSk
import Derived.Test.YtfkeokeedljomaaDoorPureSx
import Derived.Test.YtfkeokeedljomaaDoorErr
namespace Go.Proofs.YtfkeokeedljomaaDoor
open Go.RowKit
set_option linter.unusedVariables false

/-- A row of truths. -/
def BR (w : World) (b : Nat) (L : List Bool) : Prop := ∀ (k : Nat) (x : Bool), L[k]? = some x → w.cell? ⟨b, k, none⟩ = some (.bool x) ∧ w.frozen? ⟨b, k, none⟩ = false
theorem BR.fr {w w' : World} {b : Nat} {L : List Bool} {xs : List Nat} (h : BR w b L) (hx : b ∉ xs) (f : Fr xs w w') : BR w' b L := fun k x hk => by
  obtain ⟨h1, h2⟩ := h k x hk
  exact ⟨by rw [f.cell (p := ⟨b, k, none⟩) (cell_lt h1) hx]; exact h1, by rw [f.frozen (p := ⟨b, k, none⟩) (cell_lt h1) hx]; exact h2⟩
theorem BR.set {w : World} {b : Nat} {L : List Bool} (h : BR w b L) (p : Nat) (v : Bool) : BR (w.setCell ⟨b, p, none⟩ (.bool v)) b (L.set p v) := fun k x hk => by
  by_cases hp : p = k
  · subst hp
    rw [List.getElem?_set] at hk
    simp only [if_true] at hk
    split at hk
    · rename_i hlt
      injection hk with hk
      subst hk
      obtain ⟨h1, h2⟩ := h p L[p] (List.getElem?_eq_getElem hlt)
      exact ⟨World.cell?_setCell_same _ _ _ h1, by rw [World.frozen?_setCell]; exact h2⟩
    · cases hk
  · rw [List.getElem?_set_ne hp] at hk
    obtain ⟨h1, h2⟩ := h k x hk
    exact ⟨by rw [World.cell?_setCell_other (h := by intro e; injection e with _ e2 _; exact hp e2)]; exact h1, by rw [World.frozen?_setCell]; exact h2⟩
theorem infoB : (Tryd.prog.info? 4).map (fun i => (i.zero, i.size, i.bytes)) = some (some (.bool false), 1, 1) := by kernel_rfl
theorem make_b (n : Nat) (hn : n ≤ 400) (w : World) : (Instr.makeSlice 36 (.int .i64 (n : Int)) (.int .i64 (n : Int))).run Tryd.prog w = .ok (.slice (some ⟨w.heap.size, 0, none⟩) n n) (w.alloc (.cells (madeCells #[.bool false] n) 4)) := by
  obtain ⟨i0, hi, hz0, hz1, hz2⟩ := info_parts infoB
  have := run_make (P := Tryd.prog) w 36 4 i0 (.bool false) Tryd.underlying36 hi hz0 .i64 .i64 n n (by omega) (by omega) (by rw [hz2]; omega) (by omega)
  rw [hz1] at this
  simpa [Value.cells] using this
theorem BR.made (w : World) (n : Nat) : BR (w.alloc (.cells (madeCells #[.bool false] n) 4)) w.heap.size (List.replicate n false) := fun k x hk => by
  obtain ⟨hl, rfl⟩ := List.getElem?_eq_some_iff.1 hk
  rw [List.length_replicate] at hl
  rw [List.getElem_replicate]
  have h1 : (madeCells #[.bool false] n)[k]? = some (.bool false) := by
    rw [Array.getElem?_eq_getElem (by rw [size_madeCells]; exact hl)]
    simp [madeCells, Nat.mod_one]
  have h2 := heap_alloc_new w (.cells (madeCells #[.bool false] n) 4)
  constructor
  · simp only [World.cell?, h2]; exact h1
  · simp only [World.frozen?, h2]; simp
end Go.Proofs.YtfkeokeedljomaaDoor
