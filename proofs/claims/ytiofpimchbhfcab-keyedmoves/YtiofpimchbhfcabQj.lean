/- States struck from a row: slices.DeleteFunc; within. -/
import Derived.Test.YtiofpimchbhfcabQi
import Derived.Lib.SliceRun
namespace Go.Proofs.Ytiofpimchbhfcab
open Go.RowKit
set_option linter.unusedVariables false

theorem idxP_all {p : Hd → Bool} : ∀ {l : List Hd}, idxP p l = none → l.filter p = l
  | [], _ => rfl
  | x :: l, h => by
    unfold idxP at h
    split at h
    · rename_i hx
      rw [List.filter_cons, if_pos hx, idxP_all (by simpa using h)]
    · cases h
theorem idxP_at {p : Hd → Bool} : ∀ {l : List Hd} {k : Nat}, idxP p l = some k → ∃ hk : k < l.length, (∀ x ∈ l.take k, p x = true) ∧ p l[k] = false
  | [], k, h => by cases h
  | x :: l, k, h => by
    unfold idxP at h
    split at h
    · rename_i hx
      cases hi : idxP p l with
      | none => rw [hi] at h; cases h
      | some j =>
        rw [hi] at h
        simp at h
        subst h
        obtain ⟨hk, h1, h2⟩ := idxP_at hi
        refine ⟨by simpa using hk, fun y hy => ?_, by simpa using h2⟩
        simp at hy
        rcases hy with rfl | hy
        · exact hx
        · exact h1 y hy
    · rename_i hx
      injection h with h
      subst h
      exact ⟨by simp, by simp, by simpa using hx⟩
theorem zc_len (z : Array Value) (n : Nat) : (Builtin.zeroCells z n).toList.length = n * z.size := by
  simp [Builtin.zeroCells]
theorem zc_mem {z : Array Value} {n : Nat} (hz : ∀ v ∈ z.toList, v.oneCell' = true) (hs : 0 < z.size) : ∀ v ∈ (Builtin.zeroCells z n).toList, v.oneCell' = true := by
  intro v hv
  simp only [Builtin.zeroCells] at hv
  obtain ⟨i, hi, rfl⟩ := List.getElem_of_mem hv
  simp only [Array.getElem_toList]
  have hm : i % z.size < z.size := Nat.mod_lt _ hs
  first
    | exact hz _ (by simp [hm])
    | (simp only [Array.getD_eq_getD_getElem?, Array.getElem?_eq_getElem hm, Option.getD_some]; exact hz _ (by simp))
theorem clear_hds (u : World) (ty : TypeId) (g o n c : Nat) (hn : 0 < n) (hc : ∀ j, j < n * 4 → (u.cell? ⟨g, o + j, none⟩).isSome = true) (hf : ∀ j, j < n * 4 → u.frozen? ⟨g, o + j, none⟩ = false) :
    ∃ vs : List Value, vs.length = n * 4 ∧ (Builtin.clear_ #[22] ty #[.slice (some ⟨g, o, none⟩) n c]).run Try.prog u = .ok (.tuple #[]) (u.setCells g o vs) := by
  have hl := zc_len #[.int .i64 0, .string ⟨#[]⟩, .int .i64 0, .int .i64 0] n
  have h1 := zc_mem (z := #[.int .i64 0, .string ⟨#[]⟩, .int .i64 0, .int .i64 0]) (n := n) (by intro v hv; simp at hv; rcases hv with rfl | rfl | rfl <;> rfl) (by simp)
  refine ⟨(Builtin.zeroCells #[.int .i64 0, .string ⟨#[]⟩, .int .i64 0, .int .i64 0] n).toList, hl, ?_⟩
  have hst := run_storeCells_cells (P := Try.prog) g o (Builtin.zeroCells #[.int .i64 0, .string ⟨#[]⟩, .int .i64 0, .int .i64 0] n).toList 0 u (by intro j hj; rw [hl] at hj; simpa using hc j hj) (by intro j hj; rw [hl] at hj; simpa using hf j hj) h1
  simp only [Nat.add_zero] at hst
  obtain ⟨m, rfl⟩ : ∃ m, n = m + 1 := ⟨n - 1, by omega⟩
  have hz := Try.zeroValue29 u
  simp [Builtin.clear_, run_underlying Try.underlying22, hz, hst, Value.cells]

/-- A row under way: what is left stands ahead, what is to be looked at behind. -/
structure Mid (u : World) (g n : Nat) (ys : List Hd) (j : Nat) (zs : List Hd) : Prop where
  fst : CsAt u (some ⟨g, 0, none⟩) (hcells ys)
  rst : CsAt u (some ⟨g, j * 4, none⟩) (hcells zs)
  som : ∀ i, i < n * 4 → (u.cell? ⟨g, i, none⟩).isSome = true
  fz : ∀ i, i < n * 4 → u.frozen? ⟨g, i, none⟩ = false
theorem Mid.below {u u' : World} {g n j : Nat} {ys zs : List Hd} (h : Mid u g n ys j zs) (hg : g < u.heap.size) (b : Below u.heap.size u u') : Mid u' g n ys j zs :=
  ⟨h.fst.keep b, h.rst.keep b, fun i hi => by rw [b.cell (p := ⟨g, i, none⟩) hg]; exact h.som i hi, fun i hi => by rw [World.frozen?_of_block (w := u) (b.block g hg)]; exact h.fz i hi⟩
theorem Mid.next {u : World} {g n j : Nat} {ys zs : List Hd} {v : Hd} (h : Mid u g n ys j (v :: zs)) : Mid u g n ys (j + 1) zs := by
  refine ⟨h.fst, ?_, h.som, h.fz⟩
  obtain ⟨b, o, e, hc⟩ := h.rst.at (by simp [hcells])
  simp only [Option.some.injEq, Addr.mk.injEq, and_true] at e
  obtain ⟨rfl, rfl⟩ := e
  refine .inr ⟨g, (j + 1) * 4, rfl, fun t x hx => ?_⟩
  have := hc (t + 4) x (by simpa [hcells] using hx)
  rw [show (j + 1) * 4 + t = j * 4 + (t + 4) from by omega]
  exact this
/-- The world behind a state that is written into a row. -/
def set4 (u : World) (g i : Nat) (v : Hd) : World := (((u.setCell ⟨g, i * 4, none⟩ (.int .i64 v.nd)).setCell ⟨g, i * 4 + 1, none⟩ (.string v.key)).setCell ⟨g, i * 4 + 2, none⟩ (.int .i64 v.a)).setCell ⟨g, i * 4 + 3, none⟩ (.int .i64 v.b)
theorem cell_far {w : World} {g o o' : Nat} {x : Value} (h : o ≠ o') : (w.setCell ⟨g, o, none⟩ x).cell? ⟨g, o', none⟩ = w.cell? ⟨g, o', none⟩ := by
  have := World.cell?_setCells_out g [x] o w ⟨g, o', none⟩ (fun _ _ => by simp only [List.length_singleton]; omega)
  simpa [World.setCells] using this
theorem set4_out {u : World} {g i o : Nat} {v : Hd} (h : o < i * 4 ∨ i * 4 + 4 ≤ o) : (set4 u g i v).cell? ⟨g, o, none⟩ = u.cell? ⟨g, o, none⟩ := by
  unfold set4
  rw [cell_far (by omega), cell_far (by omega), cell_far (by omega), cell_far (by omega)]
theorem set4_in {u : World} {g i : Nat} {v : Hd} (h : ∀ t, t < 4 → (u.cell? ⟨g, i * 4 + t, none⟩).isSome = true) :
    (set4 u g i v).cell? ⟨g, i * 4, none⟩ = some (.int .i64 v.nd) ∧ (set4 u g i v).cell? ⟨g, i * 4 + 1, none⟩ = some (.string v.key) ∧ (set4 u g i v).cell? ⟨g, i * 4 + 2, none⟩ = some (.int .i64 v.a) ∧ (set4 u g i v).cell? ⟨g, i * 4 + 3, none⟩ = some (.int .i64 v.b) := by
  have h0 := h 0 (by omega)
  have h1 := h 1 (by omega)
  have h2 := h 2 (by omega)
  have h3 := h 3 (by omega)
  simp only [Nat.add_zero] at h0
  unfold set4
  refine ⟨?_, ?_, ?_, ?_⟩
  · rw [cell_far (by omega), cell_far (by omega), cell_far (by omega)]; exact World.cell?_setCell_same' _ _ _ h0
  · rw [cell_far (by omega), cell_far (by omega)]; exact World.cell?_setCell_same' _ _ _ (by rw [cell_far (by omega)]; exact h1)
  · rw [cell_far (by omega)]; exact World.cell?_setCell_same' _ _ _ (by rw [cell_far (by omega), cell_far (by omega)]; exact h2)
  · exact World.cell?_setCell_same' _ _ _ (by rw [cell_far (by omega), cell_far (by omega), cell_far (by omega)]; exact h3)
theorem Mid.store {u : World} {g n j : Nat} {ys zs : List Hd} (h : Mid u g n ys j zs) (v : Hd) (hi : ys.length < j) (hj : j ≤ n) : Mid (set4 u g ys.length v) g n (ys ++ [v]) j zs := by
  have hin := set4_in (u := u) (g := g) (i := ys.length) (v := v) (fun t ht => h.som _ (by omega))
  refine ⟨?_, ?_, fun i hi' => ?_, fun i hi' => ?_⟩
  · refine .inr ⟨g, 0, rfl, fun t x hx => ?_⟩
    rw [hcells_append] at hx
    have hl := hcells_len ys
    rw [Nat.zero_add]
    by_cases ht : t < ys.length * 4
    · rw [List.getElem?_append_left (by omega)] at hx
      rw [set4_out (by omega)]
      obtain ⟨b, o, e, hc⟩ := h.fst.at (by intro e; rw [e] at hx; simp at hx)
      simp only [Option.some.injEq, Addr.mk.injEq, and_true] at e
      obtain ⟨rfl, rfl⟩ := e
      have := hc t x hx
      rwa [Nat.zero_add] at this
    · rw [List.getElem?_append_right (by omega), hl] at hx
      obtain ⟨m, rfl⟩ : ∃ m, t = ys.length * 4 + m := ⟨t - ys.length * 4, by omega⟩
      rw [Nat.add_sub_cancel_left] at hx
      match m, hx with
      | 0, hx => simp [hcells] at hx; subst hx; exact hin.1
      | 1, hx => simp [hcells] at hx; subst hx; exact hin.2.1
      | 2, hx => simp [hcells] at hx; subst hx; exact hin.2.2.1
      | 3, hx => simp [hcells] at hx; subst hx; exact hin.2.2.2
  · rcases h.rst with hz | ⟨b, o, e, hc⟩
    · exact .inl hz
    · simp only [Option.some.injEq, Addr.mk.injEq, and_true] at e
      obtain ⟨rfl, rfl⟩ := e
      refine .inr ⟨g, j * 4, rfl, fun t x hx => ?_⟩
      rw [set4_out (by omega)]
      exact hc t x hx
  · by_cases ho : i < ys.length * 4 ∨ ys.length * 4 + 4 ≤ i
    · rw [set4_out ho]; exact h.som i hi'
    · have : i = ys.length * 4 ∨ i = ys.length * 4 + 1 ∨ i = ys.length * 4 + 2 ∨ i = ys.length * 4 + 3 := by omega
      rcases this with rfl | rfl | rfl | rfl
      · rw [hin.1]; rfl
      · rw [hin.2.1]; rfl
      · rw [hin.2.2.1]; rfl
      · rw [hin.2.2.2]; rfl
  · unfold set4
    simp only [World.frozen?_setCell]
    exact h.fz i hi'
theorem Mid.clear {u : World} {g n j : Nat} {ys zs : List Hd} (h : Mid u g n ys j zs) (vs : List Value) : CsAt (u.setCells g (ys.length * 4) vs) (some ⟨g, 0, none⟩) (hcells ys) := by
  rcases h.fst with hz | ⟨b, o, e, hc⟩
  · exact .inl hz
  · simp only [Option.some.injEq, Addr.mk.injEq, and_true] at e
    obtain ⟨rfl, rfl⟩ := e
    refine .inr ⟨g, 0, rfl, fun t x hx => ?_⟩
    have ht : t < ys.length * 4 := by rw [← hcells_len]; exact (List.getElem?_eq_some_iff.1 hx).1
    rw [World.cell?_setCells_out g vs _ u ⟨g, 0 + t, none⟩ (fun _ _ => .inl (by simpa using ht))]
    exact hc t x hx
theorem below_cells {B g : Nat} {a w : World} (h : Below B a w) (hg : B ≤ g) : ∀ (vs : List Value) (o : Nat), Below B a (w.setCells g o vs)
  | [], o => h
  | v :: vs, o => by
    unfold World.setCells
    exact below_cells (h.setCell (p := ⟨g, o, none⟩) hg v) hg vs (o + 1)
end Go.Proofs.Ytiofpimchbhfcab
