/- Merge. -/
import Derived.Test.YthcgjbpiiodlgaaDoorAo
namespace Go.Proofs.YthcgjbpiiodlgaaDoor
open Go.RowKit Mp
set_option linter.unusedVariables false

def icells (l : List Int) : List Value := l.map fun n => .int .i64 n
theorem ints_cs {w : World} {la : Option Addr} {z : List Int} (h : IntsAt w la z) : CsAt w la (icells z) := by
  rcases h with h | ⟨b, o, rfl, hc⟩
  · subst h; exact .inl rfl
  · refine .inr ⟨b, o, rfl, fun j u hu => ?_⟩
    unfold icells at hu
    rw [List.getElem?_map] at hu
    cases hz : z[j]? with
    | none => rw [hz] at hu; cases hu
    | some x =>
      rw [hz] at hu
      injection hu with hu
      subst hu
      obtain ⟨hj, hz⟩ := List.getElem?_eq_some_iff.1 hz
      rw [hc j hj, hz]
theorem cs_ints {w : World} {la : Option Addr} {z : List Int} (h : CsAt w la (icells z)) : IntsAt w la z := by
  rcases h with h | ⟨b, o, rfl, hc⟩
  · left
    have : (icells z).length = 0 := by rw [h]; rfl
    simpa [icells] using this
  · exact .inr ⟨b, o, rfl, fun j hj => hc j _ (by simp [icells, hj])⟩
theorem icells_one (z : List Int) : ∀ u ∈ icells z, u.oneCell' = true := by
  intro u hu
  obtain ⟨x, -, rfl⟩ := List.mem_map.1 hu
  rfl
noncomputable def mgE (a b : List Ln) : Nat := if bothE a b = 0 then linesE (mergeP a b) else bothE a b
noncomputable def mgV (a b : List Ln) : List Ln := if mgE a b = 0 then mergeP a b else []
theorem merge_len (a b : List Ln) : (mergeP a b).length ≤ a.length + b.length := by
  induction a, b using mergeP.induct with
  | case1 b => simp [mergeP]
  | case2 x A => simp [mergeP]
  | case3 x A y B h ih => rw [mergeP, if_pos h]; simp at ih ⊢; omega
  | case4 x A y B h e ih => rw [mergeP, if_neg h, if_pos e]; simp at ih ⊢; omega
  | case5 x A y B h e ih => rw [mergeP, if_neg h, if_neg e]; simp at ih ⊢; omega
/-- Where a line's numbers lie, it is not the row's own block. -/
def NeO (w : World) (v : Value) (z : List Int) (fa : Option Addr) : Prop := z = [] ∨ ∃ b o, fa = some ⟨b, o, none⟩ ∧ b < w.heap.size ∧ v.ownBlock ≠ some b
/-- Rows of lines that a thing made. -/
def LxM (w0 w : World) (v : Value) (L : List Ln) : Prop := ∃ X : List Lx, Made w0 w 39 2 v L.length (lcells X) ∧ X.map Prod.fst = L ∧ ∀ x ∈ X, LxOk w x ∧ NeO w v x.1.2 x.2.1
theorem LxM.nil (w : World) : LxM w w (.slice none 0 0) [] := ⟨[], ⟨RwAt.nil _ _ _, by simp [Value.ownBlock], Below.refl _ _⟩, rfl, by simp⟩
theorem LxM.lines {w0 w : World} {A : Option Addr} {n c : Nat} {L : List Ln} (h : LxM w0 w (.slice A n c) L) (hn : n = L.length) : LnsAt w A L := by
  obtain ⟨X, h1, rfl, h3⟩ := h
  subst hn
  exact CsAt.lines h1.1.cells fun x hx => (h3 x hx).1
theorem LxM.keep {w0 w w' : World} {v : Value} {L : List Ln} (h : LxM w0 w v L) (hb : Below w.heap.size w w') : LxM w0 w' v L := by
  obtain ⟨X, h1, h2, h3⟩ := h
  refine ⟨X, ⟨h1.1.keep hb, h1.2.1, below_after hb h1.2.2⟩, h2, fun x hx => ⟨lx_b (h3 x hx).1 hb, ?_⟩⟩
  rcases (h3 x hx).2 with h | ⟨b, o, e1, e2, e3⟩
  · exact .inl h
  · exact .inr ⟨b, o, e1, Nat.lt_of_lt_of_le e2 hb.size, e3⟩
theorem LxM.below {w0 w : World} {v : Value} {L : List Ln} (h : LxM w0 w v L) : Below w0.heap.size w0 w := by
  obtain ⟨X, h1, h2, h3⟩ := h
  exact h1.2.2
theorem LxM.slice {w0 w : World} {v : Value} {L : List Ln} (h : LxM w0 w v L) : ∃ A c, v = .slice A L.length c ∧ L.length ≤ c ∧ c ≤ maxLen := by
  obtain ⟨X, h1, h2, h3⟩ := h
  exact h1.1.slice
theorem ln_src {u : World} {g : Nat} {s : ByteArray} {x : Value} (hg : u.heap[g]? = some (.cells #[.string s, x] 39 (0, 0))) (hx : x.oneCell' = true) : Src Tryd.prog 2 22 (.slice (some ⟨g, 0, none⟩) 1 1) 1 [.string s, x] u :=
  Src.ofSlice _ Tryd.underlying22 _ 1 1 [.string s, x] rfl (World.news_of_block (cs := #[.string s, x]) hg) (fun y hy => by simp at hy; rcases hy with rfl | rfl; rfl; exact hx)
theorem ints_blk {w w' : World} {z : List Int} {b o : Nat} (h : IntsAt w (some ⟨b, o, none⟩) z) (hb : w'.heap[b]? = w.heap[b]?) : IntsAt w' (some ⟨b, o, none⟩) z := by
  rcases h with h | ⟨b', o', e, hc⟩
  · exact .inl h
  · injection e with e
    injection e with e1 e2 _
    subst e1; subst e2
    exact .inr ⟨b, o, rfl, fun j hj => by rw [World.cell?_of_block (w := w) hb]; exact hc j hj⟩
/-- A line more. -/
theorem LxM.put {w0 w : World} {v : Value} {L : List Ln} (h : LxM w0 w v L) {l : Ln} {fa : Option Addr} {fc : Nat} (hl : IntsAt w fa l.2) (h1 : l.2.length ≤ fc) (h2 : fc ≤ 9223372036854775807) (h3 : l.1.size ≤ 9223372036854775807) (hn : L.length ≤ 100000) (hne : NeO w v l.2 fa) :
    ∃ A c w1, (Builtin.append_ #[22, 22] 22 #[v, .slice (some ⟨w.heap.size, 0, none⟩) 1 1]).run Tryd.prog (w.alloc (.cells #[.string l.1, .slice fa l.2.length fc] 39)) = .ok (.slice A (L.length + 1) c) w1 ∧ LxM w0 w1 (.slice A (L.length + 1) c) (L ++ [l]) ∧ L.length + 1 ≤ c := by
  obtain ⟨X, m1, m2, m3⟩ := h
  have hb : Below w.heap.size w (w.alloc (.cells #[.string l.1, .slice fa l.2.length fc] 39)) := (Below.refl _ _).alloc (Nat.le_refl _) _
  obtain ⟨A, c, w1, hrun, k1, k2, k3⟩ := ln_app (m1.1.keep hb) (ln_src (g := w.heap.size) (s := l.1) (x := .slice fa l.2.length fc) (heap_alloc_new _ _) rfl) (by omega)
  obtain ⟨_, _, e, hc, _⟩ := k1.slice
  injection e with _ _ e
  have hsz : w.heap.size < w1.heap.size := by have := k2.size; simp at this; omega
  have hall : ∀ (z : List Int) (f : Option Addr), IntsAt w f z → NeO w v z f → IntsAt w1 f z ∧ NeO w1 (.slice A (L.length + 1) c) z f := by
    intro z f hz hn
    rcases hn with rfl | ⟨b, o, rfl, e2, e3⟩
    · exact ⟨.inl rfl, .inl rfl⟩
    · refine ⟨ints_blk hz ((k2.block b (by simp; omega) (fun e => e3 e.symm)).trans (hb.block b e2)), .inr ⟨b, o, rfl, by omega, fun e4 => ?_⟩⟩
      rcases k3 b e4 with h | h
      · exact e3 h
      · simp at h; omega
  refine ⟨A, c, w1, hrun, ⟨X ++ [(l, fa, fc)], ⟨?_, fun b hb' => ?_, below_grown (below_after hb m1.2.2) k2 m1.2.1⟩, ?_, ?_⟩, by rw [e]; exact hc⟩
  · rw [lcells_append, List.length_append]; exact k1
  · rcases k3 b hb' with h | h
    · exact m1.2.1 b h
    · exact Nat.le_trans m1.2.2.size (Nat.le_trans hb.size h)
  · rw [List.map_append, m2]; rfl
  · intro x hx
    rcases List.mem_append.1 hx with hx | hx
    · obtain ⟨⟨q1, q2⟩, q3⟩ := m3 x hx
      obtain ⟨r1, r2⟩ := hall _ _ q1 q3
      exact ⟨⟨r1, q2⟩, r2⟩
    · simp only [List.mem_singleton] at hx
      subst hx
      obtain ⟨r1, r2⟩ := hall _ _ hl hne
      exact ⟨⟨r1, h1, h2, h3⟩, r2⟩
end Go.Proofs.YthcgjbpiiodlgaaDoor
