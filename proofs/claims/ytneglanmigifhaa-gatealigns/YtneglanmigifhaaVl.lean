/- GateAligns's walk: the inputs are filled. -/
import Derived.Test.YtneglanmigifhaaVi
import Derived.Test.YtneglanmigifhaaVk
namespace Go.Proofs.Ytneglanmigifhaa
open Go.ChangeShapes Go.WideShapes Go.RowKit
set_option linter.unusedVariables false
/-- A row of numbers of our own. -/
def SiAt (w : World) (S n : Nat) (s : Nat → Nat) : Prop := ∃ cur : Array Value, w.heap[S]? = some (.cells cur 3 (0, 0)) ∧ ∀ j, j < n → cur[j]? = some (.int .i64 (s j : Nat))
section
variable {lo : Nat} {w w' : World} {S n : Nat} {s : Nat → Nat}
theorem SiAt.made (w : World) (n : Nat) : SiAt (w.alloc (.cells (madeCells #[.int .i64 0] n) 3)) w.heap.size n (fun _ => 0) := by
  refine ⟨_, heap_alloc_new w _, fun j hj => ?_⟩
  rw [Array.getElem?_eq_getElem (by rw [size_madeCells]; exact hj)]
  simp [madeCells, Nat.mod_one]
theorem SiAt.cell (h : SiAt w S n s) {j : Nat} (hj : j < n) : w.cell? ⟨S, j, none⟩ = some (.int .i64 (s j : Nat)) := by
  obtain ⟨cur, h1, h2⟩ := h
  simp only [World.cell?, h1]; exact h2 j hj
theorem SiAt.fz (h : SiAt w S n s) (j : Nat) : w.frozen? ⟨S, j, none⟩ = false := by
  obtain ⟨cur, h1, h2⟩ := h
  simp [World.frozen?, h1]
theorem SiAt.lt (h : SiAt w S n s) : S < w.heap.size := by obtain ⟨cur, h1, h2⟩ := h; exact some_lt h1
theorem SiAt.set (h : SiAt w S n s) {i : Nat} (hi : i < n) : SiAt (w.setCell ⟨S, i, none⟩ (.int .i64 ((s i : Nat) + 1))) S n (upN s i) := by
  obtain ⟨cur, h1, h2⟩ := h
  refine ⟨_, heap_setCell_same w S i _ _ _ h1, fun j hj => ?_⟩
  have hlt := (Array.getElem?_eq_some_iff.1 (h2 i hi)).1
  unfold upN
  by_cases e : j = i
  · subst e; simp [hlt]
  · rw [Array.getElem?_setIfInBounds_ne (by omega), h2 j hj, if_neg e]
theorem SiAt.frg (h : SiAt w S n s) (f : FrG lo w w') : SiAt w' S n s := by
  obtain ⟨cur, h1, h2⟩ := h
  exact ⟨cur, f.kept _ _ h1 (notTurns (by decide)), h2⟩
theorem SiAt.keep (h : SiAt w S n s) (f : Below w.heap.size w w') : SiAt w' S n s := by
  obtain ⟨cur, h1, h2⟩ := h
  exact ⟨cur, (f.block _ (some_lt h1)).trans h1, h2⟩
theorem GX.setI {B j : Nat} {g : Gt Rg} (h : GX lo w B g) (hs : SiAt w S n s) (v : Value) : GX lo (w.setCell ⟨S, j, none⟩ v) B g := by
  obtain ⟨cur, h1, -⟩ := hs
  refine h.stays (fun k o hk ho => ?_)
  rw [Below.heap_setCell _ _ _ _ (fun e => by subst e; rw [h1] at hk; injection hk with hk; subst hk; exact notTurns (by decide) ho)]; exact hk
/-- What the row sums up to, read off the memory. -/
def mS (S n : Nat) (w : World) : Nat := sumN n (fun j => match w.cell? ⟨S, j, none⟩ with | some (.int _ z) => z.toNat | _ => 0)
theorem sumN_ext {f g : Nat → Nat} : ∀ n, (∀ j, j < n → f j = g j) → sumN n f = sumN n g
  | 0, _ => rfl
  | n + 1, h => by rw [sumN_succ, sumN_succ, sumN_ext n (fun j hj => h j (by omega)), h n (by omega)]
theorem SiAt.sum (h : SiAt w S n s) : mS S n w = sumN n s := by
  unfold mS
  refine sumN_ext n (fun j hj => ?_)
  rw [h.cell hj]; simp
end
theorem infoZ : (Try.prog.info? 3).map (fun i => (i.zero, i.size, i.bytes)) = some (some (.int .i64 0), 1, 8) := by kernel_rfl
theorem make_i (w : World) (n : Nat) (hn : n ≤ 64) : (Instr.makeSlice 22 (.int .i64 (n : Int)) (.int .i64 (n : Int))).run Try.prog w = .ok (.slice (some ⟨w.heap.size, 0, none⟩) n n) (w.alloc (.cells (madeCells #[.int .i64 0] n) 3)) := by
  obtain ⟨i0, hi, hz0, hz1, hz2⟩ := info_parts infoZ
  have := run_make (P := Try.prog) w 22 3 i0 (.int .i64 0) Try.underlying22 hi hz0 .i64 .i64 n n (by omega) (by omega) (by rw [hz2]; omega) (by omega)
  rw [hz1] at this
  simpa [Value.cells] using this
theorem fact_bound : (lastG (putG (newG 1) 0 (.bar 7)) 0 7 : Gt Rg).ws.length = 1 ∧ ∃ g', boundG (lastG (putG (newG 1) 0 (.bar 7)) 0 7 : Gt Rg) = some (7, g') := ⟨rfl, _, by simp [boundG, leastG, lastG, putG, newG, hBar]; rfl⟩
theorem sumN_up {f : Nat → Nat} {c : Nat} : ∀ n, (∀ j, j < n → f j ≤ c) → sumN n f ≤ c * n
  | 0, _ => by simp [sumN]
  | n + 1, h => by rw [sumN_succ, Nat.mul_succ]; exact Nat.add_le_add (sumN_up n (fun j hj => h j (by omega))) (h n (by omega))
end Go.Proofs.Ytneglanmigifhaa
