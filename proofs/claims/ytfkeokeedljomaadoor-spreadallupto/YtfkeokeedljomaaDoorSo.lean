/- Rows of texts side by side; Again, Even, Every. -/
import Derived.Test.YtfkeokeedljomaaDoorSn
namespace Go.Proofs.YtfkeokeedljomaaDoor
open Go.RowKit
set_option linter.unusedVariables false

theorem some_heap {w : World} {k : Nat} {o : Obj} (h : w.heap[k]? = some o) : k < w.heap.size := (Array.getElem?_eq_some_iff.1 h).1
/-- Rows side by side, each in a block of its own. -/
structure LB (w : World) (B lo : Nat) (rows : List (List ByteArray)) (vs : List Value) : Prop where
  blk : ∃ cur, w.heap[B]? = some (.cells cur 22 (0, 0)) ∧ ∀ (j : Nat) (v : Value), vs[j]? = some v → cur[j]? = some v
  own : ∀ (j : Nat) (v : Value) (r : List ByteArray), vs[j]? = some v → rows[j]? = some r → TxR w v r
  len : vs.length = rows.length
  far : ∀ (j : Nat) (v : Value) (b : Nat), vs[j]? = some v → v.ownBlock = some b → lo ≤ b ∧ b ≠ B
  dis : ∀ (j k : Nat) (v u : Value) (b : Nat), j ≠ k → vs[j]? = some v → vs[k]? = some u → v.ownBlock = some b → u.ownBlock ≠ some b
theorem LB.ltB {w : World} {B lo : Nat} {rows : List (List ByteArray)} {vs : List Value} (h : LB w B lo rows vs) : B < w.heap.size := by
  obtain ⟨cur, h1, -⟩ := h.blk
  exact some_heap h1
theorem LB.cell {w : World} {B lo : Nat} {rows : List (List ByteArray)} {vs : List Value} (h : LB w B lo rows vs) {j : Nat} {v : Value} (hj : vs[j]? = some v) : w.cell? ⟨B, j, none⟩ = some v ∧ w.frozen? ⟨B, j, none⟩ = false := by
  obtain ⟨cur, h1, h2⟩ := h.blk
  constructor
  · simp only [World.cell?, h1]; exact h2 j v hj
  · simp only [World.frozen?, h1]; simp
theorem LB.keep {w w' : World} {B lo : Nat} {rows : List (List ByteArray)} {vs : List Value} (h : LB w B lo rows vs) (hb : Below w.heap.size w w') : LB w' B lo rows vs := by
  obtain ⟨cur, h1, h2⟩ := h.blk
  exact ⟨⟨cur, by rw [hb.block _ (some_heap h1)]; exact h1, h2⟩, fun j v r hj hr => (h.own j v r hj hr).keep hb, h.len, h.far, h.dis⟩
/-- One of them anew. -/
theorem LB.put {w w2 w1 : World} {B lo j : Nat} {rows : List (List ByteArray)} {vs : List Value} {v v' : Value} {r' : List ByteArray} (h : LB w B lo rows vs) (hb : Below w.heap.size w w2) (hlo : lo ≤ w.heap.size) (hj : vs[j]? = some v)
    (hg : w2.grownBy w1 v.ownBlock) (hT : TxR w1 v' r') (ho : ∀ b, v'.ownBlock = some b → v.ownBlock = some b ∨ w.heap.size ≤ b) : LB (w1.setCell ⟨B, j, none⟩ v') B lo (rows.set j r') (vs.set j v') ∧ (∀ B0, B0 ≤ lo → B0 ≤ B → Below B0 w (w1.setCell ⟨B, j, none⟩ v')) ∧ ∀ u : World, u.heap.size = lo → Fr [B] u w → Fr [B] u (w1.setCell ⟨B, j, none⟩ v') := by
  obtain ⟨cur, h1, h2⟩ := h.blk
  have hB := some_heap h1
  have hBv : some B ≠ v.ownBlock := fun e => (h.far j v B hj e.symm).2 rfl
  have hw1 : w1.heap[B]? = some (.cells cur 22 (0, 0)) := by rw [hg.block B (Nat.lt_of_lt_of_le hB hb.size) hBv, hb.block B hB]; exact h1
  have hnB : ∀ b, v'.ownBlock = some b → b ≠ B := fun b hbb e => by
    subst e
    rcases ho b hbb with k | k
    · exact (h.far j v b hj k).2 rfl
    · omega
  have hst : ∀ b, b ≠ B → (w1.setCell ⟨B, j, none⟩ v').heap[b]? = w1.heap[b]? := fun b hb' => Below.heap_setCell _ _ _ _ hb'
  have hset : ∀ (i : Nat) (u : Value), (vs.set j v')[i]? = some u → (i = j ∧ u = v') ∨ (i ≠ j ∧ vs[i]? = some u) := fun i u hu => by
    by_cases e : j = i
    · subst e
      rw [List.getElem?_set] at hu
      simp only [if_true] at hu
      split at hu
      · injection hu with hu; exact .inl ⟨rfl, hu.symm⟩
      · cases hu
    · rw [List.getElem?_set_ne e] at hu; exact .inr ⟨fun x => e x.symm, hu⟩
  refine ⟨⟨⟨cur.setIfInBounds j v', ?_, fun i u hu => ?_⟩, fun i u r hu hr => ?_, by rw [List.length_set, List.length_set]; exact h.len, fun i u b hu hbb => ?_, fun i k u x b hik hu hx hbb => ?_⟩, fun B0 hB0 hB1 => ?_, fun u hu f => ?_⟩
  · exact heap_setCell_same w1 B j _ _ _ hw1
  · rcases hset i u hu with ⟨rfl, rfl⟩ | ⟨hne, hu⟩
    · have := h2 i v hj
      rw [Array.getElem?_setIfInBounds, if_pos rfl, if_pos (Array.getElem?_eq_some_iff.1 this).1]
    · rw [Array.getElem?_setIfInBounds, if_neg (fun e => hne e.symm)]; exact h2 i u hu
  · rcases hset i u hu with ⟨rfl, rfl⟩ | ⟨hne, hu⟩
    · have hr : r = r' := by
        have hl : i < rows.length := by rw [← h.len]; exact (List.getElem?_eq_some_iff.1 hj).1
        rw [List.getElem?_set] at hr
        simp [hl] at hr
        exact hr.symm
      subst hr
      exact hT.block fun b hbb => hst b (hnB b hbb)
    · rw [List.getElem?_set_ne (fun e => hne e.symm)] at hr
      have hT2 := (h.own i u r hu hr).keep hb
      refine hT2.block fun b hbb => ?_
      rw [hst b (h.far i u b hu hbb).2, hg.block b (hT2.lt hbb).1 (fun e => h.dis i j u v b hne hu hj hbb e.symm)]
  · rcases hset i u hu with ⟨rfl, rfl⟩ | ⟨hne, hu⟩
    · refine ⟨?_, hnB b hbb⟩
      rcases ho b hbb with k | k
      · exact (h.far i v b hj k).1
      · omega
    · exact h.far i u b hu hbb
  · rcases hset i u hu with ⟨e1, e2⟩ | ⟨hne, hu2⟩
    · subst e2
      rcases hset k x hx with ⟨e3, e4⟩ | ⟨hne2, hx2⟩
      · exact absurd (e1.trans e3.symm) hik
      · intro e
        rcases ho b hbb with kk | kk
        · exact h.dis j k v x b (fun e5 => hne2 e5.symm) hj hx2 kk e
        · have hkl : k < rows.length := by rw [← h.len]; exact (List.getElem?_eq_some_iff.1 hx2).1
          have := ((h.own k x _ hx2 (List.getElem?_eq_getElem hkl)).lt e).1
          omega
    · rcases hset k x hx with ⟨e3, e4⟩ | ⟨hne2, hx2⟩
      · subst e4
        intro e
        rcases ho b e with kk | kk
        · exact h.dis i j u v b hne hu2 hj hbb kk
        · have hil : i < rows.length := by rw [← h.len]; exact (List.getElem?_eq_some_iff.1 hu2).1
          have := ((h.own i u _ hu2 (List.getElem?_eq_getElem hil)).lt hbb).1
          omega
      · exact h.dis i k u x b hik hu2 hx2 hbb
  · have hb0 : Below B0 w w2 := hb.mono (by omega)
    have : Below B0 w w1 := hb0.trans ⟨hg.os, hg.tape, hg.output, hg.size, fun k hk => hg.block k (by have := hb.size; omega) (fun e => by have := (h.far j v k hj e.symm).1; omega)⟩
    exact this.setCell (by show B0 ≤ B; exact hB1) _
  · have hf : Fr [B] u w1 := ⟨by rw [hg.os, hb.os, f.os], by rw [hg.tape, hb.tape, f.tape], by rw [hg.output, hb.output, f.output], Nat.le_trans f.size (Nat.le_trans hb.size hg.size), fun k hk hx => by
      have hk2 : k < w.heap.size := Nat.lt_of_lt_of_le hk f.size
      rw [hg.block k (Nat.lt_of_lt_of_le hk2 hb.size) (fun e => by have := (h.far j v k hj e.symm).1; omega), hb.block k hk2, f.block k hk hx]⟩
    exact hf.setCell (.inl (by simp)) _
theorem LB.mono {w : World} {B lo lo' : Nat} {rows : List (List ByteArray)} {vs : List Value} (h : LB w B lo rows vs) (hl : lo' ≤ lo) : LB w B lo' rows vs := ⟨h.blk, h.own, h.len, fun j v b hj hb => ⟨Nat.le_trans hl (h.far j v b hj hb).1, (h.far j v b hj hb).2⟩, h.dis⟩
theorem infoL : (Tryd.prog.info? 22).map (fun i => (i.zero, i.size, i.bytes)) = some (some (.slice none 0 0), 1, 24) := by kernel_rfl
theorem make_l (m : Nat) (hm : m ≤ 16) (w : World) : (Instr.makeSlice 23 (.int .i64 (m : Int)) (.int .i64 (m : Int))).run Tryd.prog w = .ok (.slice (some ⟨w.heap.size, 0, none⟩) m m) (w.alloc (.cells (madeCells #[.slice none 0 0] m) 22)) := by
  obtain ⟨i0, hi, hz0, hz1, hz2⟩ := info_parts infoL
  have := run_make (P := Tryd.prog) w 23 22 i0 (.slice none 0 0) Tryd.underlying23 hi hz0 .i64 .i64 m m (by omega) (by omega) (by rw [hz2]; omega) (by omega)
  rw [hz1] at this
  simpa [Value.cells] using this
theorem LB.made (w : World) (m lo : Nat) : LB (w.alloc (.cells (madeCells #[.slice none 0 0] m) 22)) w.heap.size lo (List.replicate m []) (List.replicate m (.slice none 0 0)) := by
  refine ⟨⟨_, heap_alloc_new w _, fun j v hj => ?_⟩, fun j v r hj hr => ?_, by simp, fun j v b hj hb => ?_, fun j k v u b _ hj _ hb => ?_⟩
  · obtain ⟨hl, rfl⟩ := List.getElem?_eq_some_iff.1 hj
    rw [List.length_replicate] at hl
    rw [List.getElem_replicate, Array.getElem?_eq_getElem (by rw [size_madeCells]; exact hl)]
    simp [madeCells, Nat.mod_one]
  · obtain ⟨hl, rfl⟩ := List.getElem?_eq_some_iff.1 hj
    obtain ⟨hl2, rfl⟩ := List.getElem?_eq_some_iff.1 hr
    rw [List.getElem_replicate, List.getElem_replicate]
    exact RwAt.nil _ _ _
  · obtain ⟨hl, rfl⟩ := List.getElem?_eq_some_iff.1 hj
    rw [List.getElem_replicate] at hb; simp [Value.ownBlock] at hb
  · obtain ⟨hl, rfl⟩ := List.getElem?_eq_some_iff.1 hj
    rw [List.getElem_replicate] at hb; simp [Value.ownBlock] at hb
/-- Rows of things in turn. -/
def rowsP (m : Nat) (l : List ByteArray) : List (List ByteArray) := (List.range m).map (rowP m l)
theorem rowsP_nil (m : Nat) : rowsP m [] = List.replicate m [] := by
  unfold rowsP
  rw [List.eq_replicate_iff]
  refine ⟨by simp, fun x hx => ?_⟩
  obtain ⟨j, -, rfl⟩ := List.mem_map.1 hx
  exact rowP_nil m j
theorem rowsP_len (m : Nat) (l : List ByteArray) : (rowsP m l).length = m := by simp [rowsP]
theorem rowsP_at (m : Nat) (l : List ByteArray) (j : Nat) (hj : j < m) : (rowsP m l)[j]? = some (rowP m l j) := by simp [rowsP, hj]
theorem rowsP_snoc (m : Nat) (hm : 0 < m) (l : List ByteArray) (x : ByteArray) : (rowsP m l).set (l.length % m) (rowP m l (l.length % m) ++ [x]) = rowsP m (l ++ [x]) := by
  apply List.ext_getElem?
  intro j
  have hlt := Nat.mod_lt l.length hm
  by_cases hj : j < m
  · rw [rowsP_at m _ j hj, rowP_snoc]
    by_cases e : l.length % m = j
    · subst e
      rw [if_pos rfl, List.getElem?_set]
      simp [rowsP_len, hlt]
    · rw [if_neg e, List.append_nil, List.getElem?_set_ne e, rowsP_at m _ j hj]
  · rw [List.getElem?_eq_none (by rw [List.length_set, rowsP_len]; omega), List.getElem?_eq_none (by rw [rowsP_len]; omega)]
end Go.Proofs.YtfkeokeedljomaaDoor
