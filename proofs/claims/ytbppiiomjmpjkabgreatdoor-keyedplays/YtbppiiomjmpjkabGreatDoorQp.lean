import Derived.Test.YtbppiiomjmpjkabGreatDoorQi
import Derived.Lib.SliceRun
import Derived.OneCell
import Derived.Test.YtbppiiomjmpjkabGreatDoorQf
import Derived.Laws.StructEq
import Derived.Sort.Walk0
import Derived.Test.YtbppiiomjmpjkabGreatDoorGz
import Derived.Test.YtbppiiomjmpjkabGreatDoorErr
import Derived.Test.YtbppiiomjmpjkabGreatDoorQr
/- States struck from a row: slices.DeleteFunc; within. -/
namespace Go.Proofs.YtbppiiomjmpjkabGreatDoor
open Go.RowKit
set_option linter.unusedVariables false

theorem idxP_all {p : Hd → Bool} : ∀ {l : List Hd}, idxP p l = none → l.filter p = l
  | [], _ => rfl
  | x :: l, h => by
    unfold idxP at h
    split at h
    · rename_i hx
      rw [List.filter_cons, if_pos hx, idxP_all (by simpa using h)]
    · cases h
theorem idxP_at {p : Hd → Bool} : ∀ {l : List Hd} {k : Nat}, idxP p l = some k → ∃ hk : k < l.length, (∀ x ∈ l.take k, p x = true) ∧ p l[k] = false
  | [], k, h => by cases h
  | x :: l, k, h => by
    unfold idxP at h
    split at h
    · rename_i hx
      cases hi : idxP p l with
      | none => rw [hi] at h; cases h
      | some j =>
        rw [hi] at h
        simp at h
        subst h
        obtain ⟨hk, h1, h2⟩ := idxP_at hi
        refine ⟨by simpa using hk, fun y hy => ?_, by simpa using h2⟩
        simp at hy
        rcases hy with rfl | hy
        · exact hx
        · exact h1 y hy
    · rename_i hx
      injection h with h
      subst h
      exact ⟨by simp, by simp, by simpa using hx⟩
theorem zc_len (z : Array Value) (n : Nat) : (Builtin.zeroCells z n).toList.length = n * z.size := by
  simp [Builtin.zeroCells]
theorem zc_mem {z : Array Value} {n : Nat} (hz : ∀ v ∈ z.toList, v.oneCell' = true) (hs : 0 < z.size) : ∀ v ∈ (Builtin.zeroCells z n).toList, v.oneCell' = true := by
  intro v hv
  simp only [Builtin.zeroCells] at hv
  obtain ⟨i, hi, rfl⟩ := List.getElem_of_mem hv
  simp only [Array.getElem_toList]
  have hm : i % z.size < z.size := Nat.mod_lt _ hs
  first
    | exact hz _ (by simp [hm])
    | (simp only [Array.getD_eq_getD_getElem?, Array.getElem?_eq_getElem hm, Option.getD_some]; exact hz _ (by simp))
theorem clear_hds (u : World) (ty : TypeId) (g o n c : Nat) (hn : 0 < n) (hc : ∀ j, j < n * 4 → (u.cell? ⟨g, o + j, none⟩).isSome = true) (hf : ∀ j, j < n * 4 → u.frozen? ⟨g, o + j, none⟩ = false) :
    ∃ vs : List Value, vs.length = n * 4 ∧ (Builtin.clear_ #[22] ty #[.slice (some ⟨g, o, none⟩) n c]).run Tryz.prog u = .ok (.tuple #[]) (u.setCells g o vs) := by
  have hl := zc_len #[.int .i64 0, .string ⟨#[]⟩, .int .i64 0, .int .i64 0] n
  have h1 := zc_mem (z := #[.int .i64 0, .string ⟨#[]⟩, .int .i64 0, .int .i64 0]) (n := n) (by intro v hv; simp at hv; rcases hv with rfl | rfl | rfl <;> rfl) (by simp)
  refine ⟨(Builtin.zeroCells #[.int .i64 0, .string ⟨#[]⟩, .int .i64 0, .int .i64 0] n).toList, hl, ?_⟩
  have hst := run_storeCells_cells (P := Tryz.prog) g o (Builtin.zeroCells #[.int .i64 0, .string ⟨#[]⟩, .int .i64 0, .int .i64 0] n).toList 0 u (by intro j hj; rw [hl] at hj; simpa using hc j hj) (by intro j hj; rw [hl] at hj; simpa using hf j hj) h1
  simp only [Nat.add_zero] at hst
  obtain ⟨m, rfl⟩ : ∃ m, n = m + 1 := ⟨n - 1, by omega⟩
  have hz := Tryz.zeroValue27 u
  simp [Builtin.clear_, run_underlying Tryz.underlying22, hz, hst, Value.cells]

/-- A row under way: what is left stands ahead, what is to be looked at behind. -/
structure Mid (u : World) (g n : Nat) (ys : List Hd) (j : Nat) (zs : List Hd) : Prop where
  fst : CsAt u (some ⟨g, 0, none⟩) (hcells ys)
  rst : CsAt u (some ⟨g, j * 4, none⟩) (hcells zs)
  som : ∀ i, i < n * 4 → (u.cell? ⟨g, i, none⟩).isSome = true
  fz : ∀ i, i < n * 4 → u.frozen? ⟨g, i, none⟩ = false
theorem Mid.below {u u' : World} {g n j : Nat} {ys zs : List Hd} (h : Mid u g n ys j zs) (hg : g < u.heap.size) (b : Below u.heap.size u u') : Mid u' g n ys j zs :=
  ⟨h.fst.keep b, h.rst.keep b, fun i hi => by rw [b.cell (p := ⟨g, i, none⟩) hg]; exact h.som i hi, fun i hi => by rw [World.frozen?_of_block (w := u) (b.block g hg)]; exact h.fz i hi⟩
theorem Mid.next {u : World} {g n j : Nat} {ys zs : List Hd} {v : Hd} (h : Mid u g n ys j (v :: zs)) : Mid u g n ys (j + 1) zs := by
  refine ⟨h.fst, ?_, h.som, h.fz⟩
  obtain ⟨b, o, e, hc⟩ := h.rst.at (by simp [hcells])
  simp only [Option.some.injEq, Addr.mk.injEq, and_true] at e
  obtain ⟨rfl, rfl⟩ := e
  refine .inr ⟨g, (j + 1) * 4, rfl, fun t x hx => ?_⟩
  have := hc (t + 4) x (by simpa [hcells] using hx)
  rw [show (j + 1) * 4 + t = j * 4 + (t + 4) from by omega]
  exact this
/-- The world behind a state that is written into a row. -/
def set4 (u : World) (g i : Nat) (v : Hd) : World := (((u.setCell ⟨g, i * 4, none⟩ (.int .i64 v.nd)).setCell ⟨g, i * 4 + 1, none⟩ (.string v.key)).setCell ⟨g, i * 4 + 2, none⟩ (.int .i64 v.a)).setCell ⟨g, i * 4 + 3, none⟩ (.int .i64 v.b)
theorem cell_far {w : World} {g o o' : Nat} {x : Value} (h : o ≠ o') : (w.setCell ⟨g, o, none⟩ x).cell? ⟨g, o', none⟩ = w.cell? ⟨g, o', none⟩ := by
  have := World.cell?_setCells_out g [x] o w ⟨g, o', none⟩ (fun _ _ => by simp only [List.length_singleton]; omega)
  simpa [World.setCells] using this
theorem set4_out {u : World} {g i o : Nat} {v : Hd} (h : o < i * 4 ∨ i * 4 + 4 ≤ o) : (set4 u g i v).cell? ⟨g, o, none⟩ = u.cell? ⟨g, o, none⟩ := by
  unfold set4
  rw [cell_far (by omega), cell_far (by omega), cell_far (by omega), cell_far (by omega)]
theorem set4_in {u : World} {g i : Nat} {v : Hd} (h : ∀ t, t < 4 → (u.cell? ⟨g, i * 4 + t, none⟩).isSome = true) :
    (set4 u g i v).cell? ⟨g, i * 4, none⟩ = some (.int .i64 v.nd) ∧ (set4 u g i v).cell? ⟨g, i * 4 + 1, none⟩ = some (.string v.key) ∧ (set4 u g i v).cell? ⟨g, i * 4 + 2, none⟩ = some (.int .i64 v.a) ∧ (set4 u g i v).cell? ⟨g, i * 4 + 3, none⟩ = some (.int .i64 v.b) := by
  have h0 := h 0 (by omega)
  have h1 := h 1 (by omega)
  have h2 := h 2 (by omega)
  have h3 := h 3 (by omega)
  simp only [Nat.add_zero] at h0
  unfold set4
  refine ⟨?_, ?_, ?_, ?_⟩
  · rw [cell_far (by omega), cell_far (by omega), cell_far (by omega)]; exact World.cell?_setCell_same' _ _ _ h0
  · rw [cell_far (by omega), cell_far (by omega)]; exact World.cell?_setCell_same' _ _ _ (by rw [cell_far (by omega)]; exact h1)
  · rw [cell_far (by omega)]; exact World.cell?_setCell_same' _ _ _ (by rw [cell_far (by omega), cell_far (by omega)]; exact h2)
  · exact World.cell?_setCell_same' _ _ _ (by rw [cell_far (by omega), cell_far (by omega), cell_far (by omega)]; exact h3)
theorem Mid.store {u : World} {g n j : Nat} {ys zs : List Hd} (h : Mid u g n ys j zs) (v : Hd) (hi : ys.length < j) (hj : j ≤ n) : Mid (set4 u g ys.length v) g n (ys ++ [v]) j zs := by
  have hin := set4_in (u := u) (g := g) (i := ys.length) (v := v) (fun t ht => h.som _ (by omega))
  refine ⟨?_, ?_, fun i hi' => ?_, fun i hi' => ?_⟩
  · refine .inr ⟨g, 0, rfl, fun t x hx => ?_⟩
    rw [hcells_append] at hx
    have hl := hcells_len ys
    rw [Nat.zero_add]
    by_cases ht : t < ys.length * 4
    · rw [List.getElem?_append_left (by omega)] at hx
      rw [set4_out (by omega)]
      obtain ⟨b, o, e, hc⟩ := h.fst.at (by intro e; rw [e] at hx; simp at hx)
      simp only [Option.some.injEq, Addr.mk.injEq, and_true] at e
      obtain ⟨rfl, rfl⟩ := e
      have := hc t x hx
      rwa [Nat.zero_add] at this
    · rw [List.getElem?_append_right (by omega), hl] at hx
      obtain ⟨m, rfl⟩ : ∃ m, t = ys.length * 4 + m := ⟨t - ys.length * 4, by omega⟩
      rw [Nat.add_sub_cancel_left] at hx
      match m, hx with
      | 0, hx => simp [hcells] at hx; subst hx; exact hin.1
      | 1, hx => simp [hcells] at hx; subst hx; exact hin.2.1
      | 2, hx => simp [hcells] at hx; subst hx; exact hin.2.2.1
      | 3, hx => simp [hcells] at hx; subst hx; exact hin.2.2.2
  · rcases h.rst with hz | ⟨b, o, e, hc⟩
    · exact .inl hz
    · simp only [Option.some.injEq, Addr.mk.injEq, and_true] at e
      obtain ⟨rfl, rfl⟩ := e
      refine .inr ⟨g, j * 4, rfl, fun t x hx => ?_⟩
      rw [set4_out (by omega)]
      exact hc t x hx
  · by_cases ho : i < ys.length * 4 ∨ ys.length * 4 + 4 ≤ i
    · rw [set4_out ho]; exact h.som i hi'
    · have : i = ys.length * 4 ∨ i = ys.length * 4 + 1 ∨ i = ys.length * 4 + 2 ∨ i = ys.length * 4 + 3 := by omega
      rcases this with rfl | rfl | rfl | rfl
      · rw [hin.1]; rfl
      · rw [hin.2.1]; rfl
      · rw [hin.2.2.1]; rfl
      · rw [hin.2.2.2]; rfl
  · unfold set4
    simp only [World.frozen?_setCell]
    exact h.fz i hi'
theorem Mid.clear {u : World} {g n j : Nat} {ys zs : List Hd} (h : Mid u g n ys j zs) (vs : List Value) : CsAt (u.setCells g (ys.length * 4) vs) (some ⟨g, 0, none⟩) (hcells ys) := by
  rcases h.fst with hz | ⟨b, o, e, hc⟩
  · exact .inl hz
  · simp only [Option.some.injEq, Addr.mk.injEq, and_true] at e
    obtain ⟨rfl, rfl⟩ := e
    refine .inr ⟨g, 0, rfl, fun t x hx => ?_⟩
    have ht : t < ys.length * 4 := by rw [← hcells_len]; exact (List.getElem?_eq_some_iff.1 hx).1
    rw [World.cell?_setCells_out g vs _ u ⟨g, 0 + t, none⟩ (fun _ _ => .inl (by simpa using ht))]
    exact hc t x hx
theorem below_cells {B g : Nat} {a w : World} (h : Below B a w) (hg : B ≤ g) : ∀ (vs : List Value) (o : Nat), Below B a (w.setCells g o vs)
  | [], o => h
  | v :: vs, o => by
    unfold World.setCells
    exact below_cells (h.setCell (p := ⟨g, o, none⟩) hg v) hg vs (o + 1)
end Go.Proofs.YtbppiiomjmpjkabGreatDoor

/- slices.DeleteFunc, within. -/
namespace Go.Proofs.YtbppiiomjmpjkabGreatDoor
open Go.RowKit
set_option linter.unusedVariables false

theorem fr_cells {xs : List Nat} {g : Nat} {a w : World} (h : Fr xs a w) (hg : g ∈ xs ∨ a.heap.size ≤ g) : ∀ (vs : List Value) (o : Nat), Fr xs a (w.setCells g o vs)
  | [], o => h
  | v :: vs, o => by
    unfold World.setCells
    exact fr_cells (h.setCell (p := ⟨g, o, none⟩) hg v) hg vs (o + 1)
set_option maxRecDepth 100000 in
set_option maxHeartbeats 1000000 in
theorem delf_none (low high : Int) (bl bh : Nat) (w : World) (A : Option Addr) (cap : Nat) (xs : List Hd) (hs : CsAt w A (hcells xs)) (hks : ∀ r ∈ xs, r.key.size ≤ maxLen) (hlen : xs.length ≤ 1000000) (hl : w.cell? ⟨bl, 0, none⟩ = some (.int .i64 low)) (hh : w.cell? ⟨bh, 0, none⟩ = some (.int .i64 high)) (hI : idxP (inR low high) xs = none) :
    Calls Tryz.prog 58 #[.slice A xs.length cap, .func (.func 59) #[] #[.pointer (some ⟨bl, 0, none⟩), .pointer (some ⟨bh, 0, none⟩)]] w fun e w' => e = .returned (.slice A xs.length cap) ∧ Below w.heap.size w w' := by
  have HI := idx_any low high bl bh w A cap xs hs hks hlen hl hh
  rw [hI] at HI
  simp only [idxV] at HI
  clear hs hI hl hh
  go_enter Tryz.func58, Tryz.ntmps58
  go_wp2_with (go_at_call 82; refine HI.mono ?_; rintro e u ⟨rfl, b1⟩)
  go_ret
  exact ⟨rfl, b1⟩
set_option maxRecDepth 100000 in
set_option maxHeartbeats 1000000 in
theorem delf_some (low high : Int) (bl bh : Nat) (w : World) (g : Nat) (cap : Nat) (xs : List Hd) (hs : CsAt w (some ⟨g, 0, none⟩) (hcells xs)) (hfz : ∀ i, i < xs.length * 4 → w.frozen? ⟨g, i, none⟩ = false) (hks : ∀ r ∈ xs, r.key.size ≤ maxLen) (hlen : xs.length ≤ 1000000) (hcap : xs.length ≤ cap) (hgl : g ≠ bl) (hgh : g ≠ bh)
    (hl : w.cell? ⟨bl, 0, none⟩ = some (.int .i64 low)) (hh : w.cell? ⟨bh, 0, none⟩ = some (.int .i64 high)) (k : Nat) (hI : idxP (inR low high) xs = some k) :
    Calls Tryz.prog 58 #[.slice (some ⟨g, 0, none⟩) xs.length cap, .func (.func 59) #[] #[.pointer (some ⟨bl, 0, none⟩), .pointer (some ⟨bh, 0, none⟩)]] w fun e w' => e = .returned (.slice (some ⟨g, 0, none⟩) (xs.filter (inR low high)).length cap) ∧ CsAt w' (some ⟨g, 0, none⟩) (hcells (xs.filter (inR low high))) ∧ Fr [g] w w' := by
  have HI := idx_any low high bl bh w (some ⟨g, 0, none⟩) cap xs hs hks hlen hl hh
  rw [hI] at HI
  simp only [idxV] at HI
  obtain ⟨hk, hpre, hat⟩ := idxP_at hI
  have hbl := cell_lt hl
  have hbh := cell_lt hh
  have hne : hcells xs ≠ [] := fun e => by have := hcells_len xs; rw [e] at this; simp at this; omega
  obtain ⟨b', o', eb, hc⟩ := hs.at hne
  simp only [Option.some.injEq, Addr.mk.injEq, and_true] at eb
  obtain ⟨rfl, rfl⟩ := eb
  have hgw : g < w.heap.size := by
    have := hc 0 _ (List.getElem?_eq_getElem (by rw [hcells_len]; omega))
    exact cell_lt this
  have hM0 : Mid w g xs.length (xs.take k) (k + 1) (xs.drop (k + 1)) := by
    refine ⟨.inr ⟨g, 0, rfl, fun t x hx => hc t x ?_⟩, .inr ⟨g, (k + 1) * 4, rfl, fun t x hx => ?_⟩, fun i hi => ?_, hfz⟩
    · have e : hcells xs = hcells (xs.take k) ++ hcells (xs.drop k) := by rw [← hcells_append, List.take_append_drop]
      rw [e, List.getElem?_append_left (List.getElem?_eq_some_iff.1 hx).1]; exact hx
    · have e : hcells xs = hcells (xs.take (k + 1)) ++ hcells (xs.drop (k + 1)) := by rw [← hcells_append, List.take_append_drop]
      have hl2 : (hcells (xs.take (k + 1))).length = (k + 1) * 4 := by rw [hcells_len, List.length_take]; congr 1; omega
      have := hc ((k + 1) * 4 + t) x (by rw [e, List.getElem?_append_right (by omega), hl2, Nat.add_sub_cancel_left]; exact hx)
      rwa [Nat.zero_add] at this
    · have := hc i _ (List.getElem?_eq_getElem (by rw [hcells_len]; exact hi))
      rw [Nat.zero_add] at this
      rw [this]; rfl
  have hf0 : (xs.take (k + 1)).filter (inR low high) = xs.take k := by
    rw [List.take_succ_eq_append_getElem hk, List.filter_append, List.filter_eq_self.2 hpre]
    simp [hat]
  have hkt : (xs.take k).length = k := by rw [List.length_take]; omega
  have H0 : Hid (∃ ys, ys = (xs.take (k + 1)).filter (inR low high) ∧ ys.length = k ∧ Mid w g xs.length ys (k + 1) (xs.drop (k + 1))) := Lib.hid ⟨xs.take k, hf0.symm, hkt, hM0⟩
  have hkm : ((k : Int) == -1) = false := by simp
  clear hs hfz hI hpre hat hne hc hM0 hf0 hkt
  go_enter Tryz.func58, Tryz.ntmps58
  go_wp2_with (go_at_call 82; refine HI.mono ?_; rintro e u ⟨rfl, b1⟩; refine Hid.out ?_)
  refine Lib.hid ?_
  clear HI
  go_wp2_with fail
  go_loopw [5, 6] (fun i j wr => ∃ (jj : Nat) (ys : List Hd), jj ≤ xs.length ∧ ys.length < jj ∧ i = .int .i64 ys.length ∧ j = .int .i64 jj ∧ ys = (xs.take jj).filter (inR low high) ∧ Mid wr g xs.length ys jj (xs.drop jj) ∧ Fr [g] w wr ∧ wr.cell? ⟨bl, 0, none⟩ = some (.int .i64 low) ∧ wr.cell? ⟨bh, 0, none⟩ = some (.int .i64 high) ∧ w.heap.size ≤ wr.heap.size) (fun _ j _ => xs.length - (intOf j).toNat)
  case atStart =>
    obtain ⟨ys, h1, h2, h3⟩ := H0.out
    exact ⟨k + 1, ys, by omega, by omega, by rw [h2], by go_num, h1, h3.below hgw b1, Fr.below b1, (b1.cell (p := ⟨bl, 0, none⟩) hbl).trans hl, (b1.cell (p := ⟨bh, 0, none⟩) hbh).trans hh, b1.size⟩
  case round =>
    clear H0 b1 hl hh
    obtain ⟨jj, ys, hj, hy, rfl, rfl, hys, hM, hb, hl, hh, hz⟩ := hrel
    have hyl : ((ys.length : Nat) : Int) < (xs.length : Int) := by omega
    by_cases hlt : jj < xs.length
    · have hlt' : (jj : Int) < xs.length := by omega
      have hdr : xs.drop jj = xs[jj] :: xs.drop (jj + 1) := (List.getElem_cons_drop (h := hlt)).symm
      rw [hdr] at hM
      have hM1 := hM.next
      obtain ⟨b0, o0, e0, hc0⟩ := hM.rst.at (by simp [hcells])
      simp only [Option.some.injEq, Addr.mk.injEq, and_true] at e0
      obtain ⟨rfl, rfl⟩ := e0
      have c0 := hc0 0 (.int .i64 xs[jj].nd) (by simp [hcells])
      have c1 := hc0 1 (.string xs[jj].key) (by simp [hcells])
      have c2 := hc0 2 (.int .i64 xs[jj].a) (by simp [hcells])
      have c3 := hc0 3 (.int .i64 xs[jj].b) (by simp [hcells])
      simp only [Nat.add_zero] at c0
      have hkk := hks _ (List.getElem_mem hlt)
      have hfl : (xs.take (jj + 1)).filter (inR low high) = if inR low high xs[jj] then ys ++ [xs[jj]] else ys := by
        rw [List.take_succ_eq_append_getElem hlt, List.filter_append, ← hys]
        cases hq : inR low high xs[jj] <;> simp [hq]
      have HW := fun u h1 h2 => wi1_any low high xs[jj] bl bh u h1 h2 hkk
      cases hp : inR low high xs[jj] with
      | false =>
        rw [hp] at hfl HW
        have HF := Lib.hid hfl
        have HM := Lib.hid hM1
        clear hM hM1 hc0 hdr hys hfl hp
        generalize xs[jj] = r at *
        obtain ⟨nd, key, a, bv⟩ := r
        simp only [hdV, Bool.not_false] at c0 c1 c2 c3 HW
        have HW1 := HW (wr.alloc (.cells #[.int .i64 nd, .string key, .int .i64 a, .int .i64 bv] 27)) (Lib.cell?_alloc_some _ hl) (Lib.cell?_alloc_some _ hh)
        clear HW
        go_wp2_with (go_at_call 59; refine HW1.mono ?_; rintro e u1 ⟨rfl, b1⟩; refine Hid.out ?_)
        refine Lib.hid ?_
        have bW : Below wr.heap.size wr u1 := below_after b1 ((Below.refl _ _).alloc (Nat.le_refl _) _)
        have hl1 := (bW.cell (p := ⟨bl, 0, none⟩) (cell_lt hl)).trans hl
        have hh1 := (bW.cell (p := ⟨bh, 0, none⟩) (cell_lt hh)).trans hh
        have hM2 := HM.out.below (by omega) bW
        have hb2 := hb.trans (Fr.below (xs := [g]) bW)
        have HM2 := Lib.hid hM2
        clear HW1 b1 c0 c1 c2 c3 hl hh HM hM2
        go_wp2_with fail
        go_roundw
        case rel => exact ⟨jj + 1, ys, by omega, by omega, rfl, by go_num, by rw [HF.out]; rfl, HM2.out, hb2, hl1, hh1, Nat.le_trans hz bW.size⟩
        case measure => simp [intOf]; omega
      | true =>
        rw [hp] at hfl HW
        have HF := Lib.hid hfl
        have HM := Lib.hid hM1
        clear hM hM1 hc0 hdr hys hfl hp
        generalize xs[jj] = r at *
        have hset := fun (u : World) (h : Mid u g xs.length ys (jj + 1) (xs.drop (jj + 1))) => h.store r (by omega) (by omega)
        obtain ⟨nd, key, a, bv⟩ := r
        simp only [hdV, Bool.not_true, set4] at c0 c1 c2 c3 HW hset
        have HW1 := HW (wr.alloc (.cells #[.int .i64 nd, .string key, .int .i64 a, .int .i64 bv] 27)) (Lib.cell?_alloc_some _ hl) (Lib.cell?_alloc_some _ hh)
        have HSE := Lib.hid hset
        clear HW hset
        go_wp2_with (go_at_call 59; refine HW1.mono ?_; rintro e u1 ⟨rfl, b1⟩; refine Hid.out ?_)
        refine Lib.hid ?_
        have bW : Below wr.heap.size wr u1 := below_after b1 ((Below.refl _ _).alloc (Nat.le_refl _) _)
        have hl1 := (bW.cell (p := ⟨bl, 0, none⟩) (cell_lt hl)).trans hl
        have hh1 := (bW.cell (p := ⟨bh, 0, none⟩) (cell_lt hh)).trans hh
        have hM2 := HM.out.below (by omega) bW
        have hb2 := hb.trans (Fr.below (xs := [g]) bW)
        have hzW : wr.heap.size < (wr.alloc (.cells #[.int .i64 nd, .string key, .int .i64 a, .int .i64 bv] 27)).heap.size := by simp
        have q0 : u1.cell? ⟨wr.heap.size, 0, none⟩ = some (.int .i64 nd) := by rw [b1.cell (p := ⟨wr.heap.size, 0, none⟩) hzW]; simp
        have q1 : u1.cell? ⟨wr.heap.size, 1, none⟩ = some (.string key) := by rw [b1.cell (p := ⟨wr.heap.size, 1, none⟩) hzW]; simp
        have q2 : u1.cell? ⟨wr.heap.size, 2, none⟩ = some (.int .i64 a) := by rw [b1.cell (p := ⟨wr.heap.size, 2, none⟩) hzW]; simp
        have q3 : u1.cell? ⟨wr.heap.size, 3, none⟩ = some (.int .i64 bv) := by rw [b1.cell (p := ⟨wr.heap.size, 3, none⟩) hzW]; simp
        obtain ⟨p0, e0⟩ := Option.isSome_iff_exists.1 (hM2.som (ys.length * 4) (by omega))
        obtain ⟨p1, e1⟩ := Option.isSome_iff_exists.1 (hM2.som (ys.length * 4 + 1) (by omega))
        obtain ⟨p2, e2⟩ := Option.isSome_iff_exists.1 (hM2.som (ys.length * 4 + 2) (by omega))
        obtain ⟨p3, e3⟩ := Option.isSome_iff_exists.1 (hM2.som (ys.length * 4 + 3) (by omega))
        have z0 := hM2.fz (ys.length * 4) (by omega)
        have z1 := hM2.fz (ys.length * 4 + 1) (by omega)
        have z2 := hM2.fz (ys.length * 4 + 2) (by omega)
        have z3 := hM2.fz (ys.length * 4 + 3) (by omega)
        have hM3 := HSE.out u1 hM2
        have HM3 := Lib.hid hM3
        have hgg : g ∈ [g] ∨ w.heap.size ≤ g := .inl (by simp)
        have hb3 := (((hb2.setCell (p := ⟨g, ys.length * 4, none⟩) hgg (.int .i64 nd)).setCell (p := ⟨g, ys.length * 4 + 1, none⟩) hgg (.string key)).setCell (p := ⟨g, ys.length * 4 + 2, none⟩) hgg (.int .i64 a)).setCell (p := ⟨g, ys.length * 4 + 3, none⟩) hgg (.int .i64 bv)
        have HB3 := Lib.hid hb3
        have hll : ((((u1.setCell ⟨g, ys.length * 4, none⟩ (.int .i64 nd)).setCell ⟨g, ys.length * 4 + 1, none⟩ (.string key)).setCell ⟨g, ys.length * 4 + 2, none⟩ (.int .i64 a)).setCell ⟨g, ys.length * 4 + 3, none⟩ (.int .i64 bv)).cell? ⟨bl, 0, none⟩ = some (.int .i64 low) := by
          rw [World.cell?_setCell_far _ _ _ _ hgl, World.cell?_setCell_far _ _ _ _ hgl, World.cell?_setCell_far _ _ _ _ hgl, World.cell?_setCell_far _ _ _ _ hgl]; exact hl1
        have hhh : ((((u1.setCell ⟨g, ys.length * 4, none⟩ (.int .i64 nd)).setCell ⟨g, ys.length * 4 + 1, none⟩ (.string key)).setCell ⟨g, ys.length * 4 + 2, none⟩ (.int .i64 a)).setCell ⟨g, ys.length * 4 + 3, none⟩ (.int .i64 bv)).cell? ⟨bh, 0, none⟩ = some (.int .i64 high) := by
          rw [World.cell?_setCell_far _ _ _ _ hgh, World.cell?_setCell_far _ _ _ _ hgh, World.cell?_setCell_far _ _ _ _ hgh, World.cell?_setCell_far _ _ _ _ hgh]; exact hh1
        have HLL := Lib.hid hll
        have HHH := Lib.hid hhh
        have hy0 : (0 : Int) ≤ (ys.length : Int) := by omega
        clear HW1 b1 c0 c1 c2 c3 hl hh HM hM2 hM3 hb3 hll hhh hl1 hh1 HSE
        go_wp2_with fail
        go_roundw
        case rel => exact ⟨jj + 1, ys ++ [⟨nd, key, a, bv⟩], by omega, by simp; omega, by simp, by go_num, by rw [HF.out]; rfl, HM3.out, HB3.out, HLL.out, HHH.out, by have := bW.size; simp; omega⟩
        case measure => simp [intOf]; omega
    · have ej : jj = xs.length := by omega
      have ex : xs.take jj = xs := List.take_of_length_le (by omega)
      rw [ex] at hys
      have HY := Lib.hid hys
      obtain ⟨vs, hvl, hcl⟩ := clear_hds wr 0 g (ys.length * 4) (xs.length - ys.length) (cap - ys.length) (by omega) (fun j hj => hM.som _ (by omega)) (fun j hj => hM.fz _ (by omega))
      have hcs := hM.clear vs
      have hbb := fr_cells (g := g) hb (.inl (by simp)) vs (ys.length * 4)
      have HCS := Lib.hid hcs
      have HBB := Lib.hid hbb
      have hjn : ¬ (jj : Int) < xs.length := by omega
      have hyc : ((ys.length : Nat) : Int) ≤ (cap : Int) := by omega
      have hyx : ((ys.length : Nat) : Int) ≤ (xs.length : Int) := by omega
      have hxc : ((xs.length : Nat) : Int) ≤ (cap : Int) := by omega
      have hyn : ys.length < cap := by omega
      clear hM hcs hbb hys ex hl hh hb
      go_wp2_with fail
      go_ret
      exact ⟨by rw [← HY.out]; rfl, by rw [← HY.out]; exact HCS.out, HBB.out⟩
end Go.Proofs.YtbppiiomjmpjkabGreatDoor

/- within, Export, Import. -/
namespace Go.Proofs.YtbppiiomjmpjkabGreatDoor
open Go.RowKit Go.Shelf
set_option linter.unusedVariables false

/-- Where a row of elements of a type lies; what is no row of rows of bytes stays. -/
def LyAt (w : World) (p : Option Addr) (e : TypeId) : Prop := p = none ∨ ∃ (g : Nat) (cur : Array Value), p = some ⟨g, 0, none⟩ ∧ w.heap[g]? = some (.cells cur e (0, 0))
theorem LyAt.below {w w' : World} {p : Option Addr} {e : TypeId} (h : LyAt w p e) (hb : Below w.heap.size w w') : LyAt w' p e := by
  rcases h with h | ⟨g, cur, h1, h2⟩
  · exact .inl h
  · exact .inr ⟨g, cur, h1, by rw [hb.block g (some_lt h2)]; exact h2⟩
theorem LyAt.of {w : World} {B n m cap : Nat} {e : TypeId} {p : Option Addr} {cs : List Value} (h : w.ownsRow B e m (.slice p n cap) n cs) : LyAt w p e := by
  rcases h.2 with ⟨h0, -⟩ | ⟨g, cap, cur, h0, hb, hg, -⟩
  · simp at h0; exact .inl h0.1
  · simp at h0; exact .inr ⟨g, cur, h0.1, hg⟩
theorem own_hs {w : World} {B n cap : Nat} {A : Option Addr} {xs : List Hd} (h : w.ownsRow B 27 4 (.slice A n cap) n (hcells xs)) (hn : xs.length = n) : HsAt w B A xs ∧ n ≤ cap := by
  obtain ⟨h1, h2⟩ := own_cs h (by rw [hcells_len, hn])
  refine ⟨⟨h1, fun a ha => ?_⟩, h2⟩
  subst ha
  rcases h.2 with ⟨e0, -⟩ | ⟨g, cap', cur, e0, hg, -⟩
  · simp at e0
  · simp only [Value.slice.injEq, Option.some.injEq] at e0
    obtain ⟨rfl, -⟩ := e0
    exact ⟨rfl, hg, fun i hi => h.frozenAt i⟩

/-- States that Helds writes. -/
def GoodL (L : List Hd) : Prop := L.length ≤ 400 ∧ (∀ r ∈ L, badHd r = false ∧ OkHd r) ∧ RisH L
theorem hdsE_of : ∀ (L : List Hd) (p : Option Hd), (∀ r ∈ L, badHd r = false) → RisH L → (∀ q, p = some q → ∀ r ∈ L, Ah q r) → hdsE ltH p L = 0
  | [], p, _, _, _ => rfl
  | x :: L, p, hb, hr, hp => by
    obtain ⟨r1, r2⟩ := List.pairwise_cons.1 hr
    have hx := hb x (by simp)
    have ih := hdsE_of L (some x) (fun r hr => hb r (List.mem_cons_of_mem _ hr)) r2 (fun q hq r hr => by injection hq with hq; subst hq; exact r1 r hr)
    cases p with
    | none => rw [hdsE_n, hx]; exact ih
    | some q =>
      rw [hdsE_s, hx, ltH_ah, decide_eq_true (hp q rfl x (by simp))]
      exact ih
theorem hdsE_to : ∀ (L : List Hd) (p : Option Hd), hdsE ltH p L = 0 → (∀ r ∈ L, badHd r = false) ∧ RisH L ∧ (∀ q, p = some q → ∀ r ∈ L, Ah q r)
  | [], p, _ => ⟨by simp, List.Pairwise.nil, by simp⟩
  | x :: L, p, h => by
    have key : badHd x = false ∧ hdsE ltH (some x) L = 0 ∧ (∀ q, p = some q → Ah q x) := by
      cases p with
      | none =>
        rw [hdsE_n] at h
        cases hb : badHd x with
        | true => rw [hb] at h; cases h
        | false => rw [hb] at h; exact ⟨rfl, h, by simp⟩
      | some q =>
        rw [hdsE_s] at h
        cases hb : badHd x with
        | true => rw [hb] at h; cases h
        | false =>
          rw [hb] at h
          simp only [Bool.false_eq_true, if_false] at h
          split at h
          · cases h
          · rename_i hl
            refine ⟨rfl, h, fun q' hq => ?_⟩
            injection hq with hq
            subst hq
            rw [ltH_ah] at hl
            simpa using hl
    obtain ⟨h1, h2, h3⟩ := hdsE_to L (some x) key.2.1
    have h4 := h3 x rfl
    refine ⟨fun r hr => ?_, List.pairwise_cons.2 ⟨h4, h2⟩, fun q hq r hr => ?_⟩
    · rcases List.mem_cons.1 hr with rfl | hr
      · exact key.1
      · exact h1 r hr
    · rcases List.mem_cons.1 hr with rfl | hr
      · exact key.2.2 q hq
      · exact (key.2.2 q hq).trans (h4 r hr)
theorem good_zero {L : List Hd} (h : GoodL L) : heldsE ltH L = 0 := by
  unfold heldsE
  rw [if_neg (by have := h.1; omega)]
  exact hdsE_of L none (fun r hr => (h.2.1 r hr).1) h.2.2 (by simp)
theorem zero_good {L : List Hd} (h : heldsE ltH L = 0) (ho : ∀ r ∈ L, OkHd r) : GoodL L := by
  unfold heldsE at h
  split at h
  · cases h
  · obtain ⟨h1, h2, -⟩ := hdsE_to L none h
    exact ⟨by omega, fun r hr => ⟨h1 r hr, ho r hr⟩, h2⟩
theorem GoodL.filter {L : List Hd} (h : GoodL L) (p : Hd → Bool) : GoodL (L.filter p) :=
  ⟨Nat.le_trans (List.length_filter_le _ _) h.1, fun r hr => h.2.1 r (List.mem_filter.1 hr).1, h.2.2.filter p⟩
theorem GoodL.okK {L : List Hd} (h : GoodL L) : ∀ r ∈ L, OkK r.nd r.key := fun r hr => good_ok (h.2.1 r hr).1
theorem read_good {l : List UInt8} {X : List Hd} (h : readHds ltH l = some X) : GoodL X ∧ l = lstB hdB X := by
  unfold readHds at h
  split at h
  · cases h
  · rename_i ys e
    split at h
    · rename_i he
      injection h with h
      subst h
      obtain ⟨a, b, c⟩ := rdAll_some (Ok := OkHd) (g := hdB) (fun x l q h => rdHd_some h) e
      exact ⟨zero_good he a, b⟩
    · cases h
theorem good_read {L : List Hd} (h : GoodL L) : readHds ltH (lstB hdB L) = some L := readHds_all ltH L (fun r hr => (h.2.1 r hr).2) (good_zero h)

/-- The block behind a slice. -/
def blkA (A : Option Addr) : List Nat := match A with | none => [] | some a => [a.block]
set_option maxRecDepth 100000 in
set_option maxHeartbeats 1000000 in
theorem within_any (low high : Int) (B : Nat) (w : World) (A : Option Addr) (cap : Nat) (xs : List Hd) (hs : HsAt w B A xs) (hks : ∀ r ∈ xs, r.key.size ≤ maxLen) (hlen : xs.length ≤ 1000000) (hcap : xs.length ≤ cap) :
    Calls Tryz.prog 36 #[.slice A xs.length cap, .int .i64 low, .int .i64 high] w fun e w' => e = .returned (.slice A (xs.filter (inR low high)).length cap) ∧ CsAt w' A (hcells (xs.filter (inR low high))) ∧ Fr (blkA A) w w' := by
  have hmf : ∀ (fn : Fn) (first cap : Array Value) (w : World), (Instr.makeFunc fn first cap).run Tryz.prog w = .ok (.func fn first cap) w := fun _ _ _ _ => rfl
  have hb2 : Below w.heap.size w ((w.alloc (.cells #[.int .i64 low] 3)).alloc (.cells #[.int .i64 high] 3)) := ((Below.refl _ _).alloc (Nat.le_refl _) _).alloc (by simp) _
  have c0 : ((w.alloc (.cells #[.int .i64 low] 3)).alloc (.cells #[.int .i64 high] 3)).cell? ⟨w.heap.size, 0, none⟩ = some (.int .i64 low) := by simp
  have c1 : ((w.alloc (.cells #[.int .i64 low] 3)).alloc (.cells #[.int .i64 high] 3)).cell? ⟨w.heap.size + 1, 0, none⟩ = some (.int .i64 high) := by simp
  have hz : w.heap.size ≤ ((w.alloc (.cells #[.int .i64 low] 3)).alloc (.cells #[.int .i64 high] 3)).heap.size := by simp; omega
  have HD : Calls Tryz.prog 58 #[.slice A xs.length cap, .func (.func 59) #[] #[.pointer (some ⟨w.heap.size, 0, none⟩), .pointer (some ⟨w.heap.size + 1, 0, none⟩)]] ((w.alloc (.cells #[.int .i64 low] 3)).alloc (.cells #[.int .i64 high] 3)) fun e w' => e = .returned (.slice A (xs.filter (inR low high)).length cap) ∧ CsAt w' A (hcells (xs.filter (inR low high))) ∧ Fr (blkA A) w w' := by
    generalize (w.alloc (.cells #[.int .i64 low] 3)).alloc (.cells #[.int .i64 high] 3) = W at *
    cases hI : idxP (inR low high) xs with
    | none =>
      rw [idxP_all hI]
      refine (delf_none low high w.heap.size (w.heap.size + 1) W A cap xs (hs.cs.keep hb2) hks hlen c0 c1 hI).mono ?_
      rintro e w' ⟨h1, h2⟩
      have h3 := below_after h2 hb2
      exact ⟨h1, hs.cs.keep h3, Fr.below h3⟩
    | some k =>
      obtain ⟨hk, -, -⟩ := idxP_at hI
      obtain ⟨g, o, rfl, hc⟩ := hs.cs.at (fun e => by have := hcells_len xs; rw [e] at this; simp at this; omega)
      obtain ⟨h1, h2, h3⟩ := hs.off _ rfl
      simp only at h1 h2 h3
      subst h1
      have hg : g < w.heap.size := cell_lt (hc 0 _ (List.getElem?_eq_getElem (by rw [hcells_len]; omega)))
      refine (delf_some low high w.heap.size (w.heap.size + 1) W g cap xs (hs.cs.keep hb2) (fun i hi => by rw [World.frozen?_of_block (w := w) (hb2.block g hg)]; exact h3 i hi) hks hlen hcap (by omega) (by omega) c0 c1 k hI).mono ?_
      rintro e w' ⟨e1, e2, e3⟩
      exact ⟨e1, e2, (Fr.below hb2).trans e3⟩
  clear hs c0 c1 hb2 hz
  go_enter Tryz.func36, Tryz.ntmps36
  go_wp2_with (go_at_call 58; refine HD.mono ?_; rintro e u ⟨rfl, h1, h2⟩)
  go_ret
  exact ⟨rfl, h1, h2⟩
def rngB (low high : Int) : Bool := decide (0 ≤ low) && decide (low ≤ high) && decide (high ≤ 16)
set_option maxHeartbeats 1000000 in
theorem rng_any (low high : Int) (w : World) : Calls Tryz.prog 34 #[.int .i64 low, .int .i64 high] w fun e w' => e = .returned (.bool (rngB low high)) ∧ w = w' := by
  unfold rngB
  by_cases h1 : 0 ≤ low
  · by_cases h2 : low ≤ high
    · go_enter Tryz.func34, Tryz.ntmps34
      go_wp2_with fail
      go_ret
      exact ⟨ret_bool (by simp [h1, h2]), rfl⟩
    · go_enter Tryz.func34, Tryz.ntmps34
      go_wp2_with fail
      go_ret
      exact ⟨ret_bool (by simp; omega), rfl⟩
  · go_enter Tryz.func34, Tryz.ntmps34
    go_wp2_with fail
    go_ret
    exact ⟨ret_bool (by simp; omega), rfl⟩
end Go.Proofs.YtbppiiomjmpjkabGreatDoor

/- Export, Import. -/
namespace Go.Proofs.YtbppiiomjmpjkabGreatDoor
open Go.RowKit Go.Shelf
set_option linter.unusedVariables false

theorem HsAt.blk {w : World} {B : Nat} {A : Option Addr} {xs : List Hd} (h : HsAt w B A xs) : ∀ k ∈ blkA A, B ≤ k := by
  cases A with
  | none => intro k hk; simp [blkA] at hk
  | some a => intro k hk; simp [blkA] at hk; subst hk; exact (h.off a rfl).2.1
theorem helds_yt (u : World) (la : Option Addr) (c : Nat) (L : List Hd) (h : CsAt u la (hcells L)) (hg : GoodL L) :
    Calls Tryz.prog 35 #[.slice la L.length c] u fun e u' => ∃ A cap, e = .returned (.tuple #[.slice A (lstB hdB L).length cap, .nilIface]) ∧ Bz u' A cap (lstB hdB L) ∧ LyAt u' A 5 ∧ Below u.heap.size u u' := by
  refine (helds_any u la c L h (by have := hg.1; omega) (fun r hr => (hg.2.1 r hr).2)).mono ?_
  rintro e u' ⟨h1, hb⟩
  rw [good_zero hg, if_pos rfl] at h1
  obtain ⟨v, rfl, ho⟩ := h1
  obtain ⟨A, cap, rfl, hz⟩ := own_bz ho
  exact ⟨A, cap, rfl, hz, LyAt.of ho, hb⟩
theorem readHs_yes (u : World) (p : Option Addr) (c : Nat) (l : List UInt8) (X : List Hd) (h : Bz u p c l) (hlen : l.length ≤ 140737488355328) (hr : readHds ltH l = some X) :
    Calls Tryz.prog 37 #[.slice p l.length c] u fun e u' => ∃ A cap, e = .returned (.tuple #[.slice A X.length cap, .nilIface]) ∧ HsAt u' u.heap.size A X ∧ X.length ≤ cap ∧ (∀ k ∈ blkA A, k < u'.heap.size) ∧ Below u.heap.size u u' := by
  refine (readHds_any u p c l h.1 hlen h.2.1 h.2.2).mono ?_
  rintro e u' ⟨h1, hb⟩
  rw [hr] at h1
  obtain ⟨v, rfl, ho⟩ := h1
  obtain ⟨A, cap, rfl⟩ := row_slice ho
  obtain ⟨k1, k2⟩ := own_hs ho rfl
  refine ⟨A, cap, rfl, k1, k2, fun k hk => ?_, hb⟩
  cases A with
  | none => simp [blkA] at hk
  | some a =>
    simp [blkA] at hk
    subst hk
    rcases ho.2 with ⟨e0, -⟩ | ⟨g, cap', cur, e0, -⟩
    · simp at e0
    · simp only [Value.slice.injEq, Option.some.injEq] at e0
      obtain ⟨rfl, -⟩ := e0
      exact (ho.lt g rfl).2
set_option maxRecDepth 100000 in
set_option maxHeartbeats 1000000 in
theorem export_ok {w : World} {R M : Nat} {L : List Hd} (h : KyAt w R M L) (hg : GoodL L) (low high : Int) (hr : rngB low high = true) :
    Calls Tryz.prog 16 #[.pointer (some ⟨R, 0, none⟩), .int .i64 low, .int .i64 high] w fun e w' => ∃ A cap, e = .returned (.tuple #[.slice A (lstB hdB (L.filter (inR low high))).length cap, .nilIface]) ∧ Bz w' A cap (lstB hdB (L.filter (inR low high))) ∧ LyAt w' A 5 ∧ Below w.heap.size w w' := by
  have HR := fun u => rng_any low high u
  rw [hr] at HR
  have HA := all_any h (by have := hg.1; omega)
  have hks : ∀ r ∈ L, r.key.size ≤ maxLen := fun r hr => (hg.okK r hr).2
  have hl4 := hg.1
  have HW := fun (u : World) (A : Option Addr) (cap : Nat) (hs : HsAt u w.heap.size A L) (hc : L.length ≤ cap) => within_any low high w.heap.size u A cap L hs hks (by omega) hc
  have hgf := hg.filter (inR low high)
  have HWh := Lib.hid HW
  have HG := Lib.hid hgf
  clear h hg hr hks HW hgf
  generalize L.filter (inR low high) = F at *
  go_enter Tryz.func16, Tryz.ntmps16
  go_wp2_with (first | (go_at_call 34; refine (HR _).mono ?_; rintro e w' ⟨rfl, rfl⟩) | (go_at_call 13; refine HA.mono ?_; rintro e u1 ⟨A1, c1, rfl, hs1, hc1, b1⟩; refine Hid.out ?_))
  refine Lib.hid ?_
  have HW1 := HWh.out u1 A1 c1 hs1 hc1
  have hbk : ∀ k ∈ blkA A1, w.heap.size ≤ k := hs1.blk
  clear HA HR HWh hs1 hc1
  go_wp2_with (go_at_call 36; refine HW1.mono ?_; rintro e u2 ⟨rfl, hs2, f2⟩; refine Hid.out ?_)
  refine Lib.hid ?_
  have B2 := b1.trans (f2.toBelow b1.size hbk)
  have HH := helds_yt u2 A1 c1 F hs2 HG.out
  clear HW1 hs2 b1 f2 hbk
  go_wp2_with (go_at_call 35; refine HH.mono ?_; rintro e u3 ⟨A3, c3, rfl, hz3, hy3, b3⟩; refine Hid.out ?_)
  refine Lib.hid ?_
  have B3 := B2.trans (b3.mono B2.size)
  clear HH b3 B2
  go_wp2_with fail
  go_ret2
  exact ⟨A3, c3, rfl, hz3, hy3, B3⟩
set_option maxRecDepth 100000 in
set_option maxHeartbeats 1000000 in
theorem export_no {w : World} {R : Nat} (low high : Int) (hr : rngB low high = false) :
    Calls Tryz.prog 16 #[.pointer (some ⟨R, 0, none⟩), .int .i64 low, .int .i64 high] w fun e w' => e = .returned (.tuple #[.slice none 0 0, errV 1]) ∧ w = w' := by
  have HR := fun u => rng_any low high u
  rw [hr] at HR
  go_enter Tryz.func16, Tryz.ntmps16
  go_wp2_with (go_at_call 34; refine (HR _).mono ?_; rintro e w' ⟨rfl, rfl⟩)
  go_ret2
  exact ⟨rfl, rfl⟩
theorem mclone_any (w : World) (M : Nat) (L : List Hd) (h : MpAt w M L) :
    Calls Tryz.prog 38 #[.map (some M)] w fun e w' => e = .returned (.map (some w.heap.size)) ∧ MpAt w' w.heap.size L ∧ Below w.heap.size w w' := by
  obtain ⟨D, h1, h2⟩ := h
  have hc := AnyW.maps_Clone_owns Tryz.cloneM 60 hdR M L.length D w h1
  change Calls Tryz.prog 38 _ _ _ at hc
  refine hc.mono ?_
  rintro e w' ⟨e1, e2, -, e3⟩
  exact ⟨e1, ⟨D, e2, h2⟩, e3⟩
/-- How Import ends. -/
def ImEnd (w : World) (R M : Nat) (L N : List Hd) (e : Ending) (w' : World) : Prop :=
  if 400 < N.length then e = .returned (errV 4) ∧ KyAt w' R M L ∧ Below w.heap.size w w'
  else e = .returned (errV 0) ∧ ∃ M', w.heap.size ≤ M' ∧ KyAt w' R M' N ∧ Fr [R] w w'
set_option maxRecDepth 100000 in
set_option maxHeartbeats 1000000 in
theorem import_ok {w : World} {R M : Nat} {L : List Hd} (h : KyAt w R M L) (hL : L.length ≤ 400) (low high : Int) (hr : rngB low high = true) (p : Option Addr) (c : Nat) (l : List UInt8) (X : List Hd) (hb : Bz w p c l) (hlen : l.length ≤ 140737488355328) (hX : readHds ltH l = some X) :
    Calls Tryz.prog 17 #[.pointer (some ⟨R, 0, none⟩), .slice p l.length c, .int .i64 low, .int .i64 high] w fun e w' => ImEnd w R M L (putAll L (X.filter (inR low high))) e w' := by
  have HR := fun u => rng_any low high u
  rw [hr] at HR
  have hgX := (read_good hX).1
  have HX := readHs_yes w p c l X hb hlen hX
  have hks : ∀ r ∈ X, r.key.size ≤ maxLen := fun r hr => (hgX.okK r hr).2
  have hx4 := hgX.1
  have HW := fun (u : World) (B : Nat) (A : Option Addr) (cap : Nat) (hs : HsAt u B A X) (hc : X.length ≤ cap) => within_any low high B u A cap X hs hks (by omega) hc
  have hokF : ∀ r ∈ X.filter (inR low high), OkK r.nd r.key := (hgX.filter (inR low high)).okK
  have hFl : (X.filter (inR low high)).length ≤ 400 := (hgX.filter (inR low high)).1
  have hNl := putAll_len h.mp.ris (X.filter (inR low high))
  have HWh := Lib.hid HW
  have hlt := h.lt
  have hM := h.ltM
  have c0 := h.c0
  have HK := Lib.hid h
  have HOK := Lib.hid hokF
  clear hr hgX hks HW hokF h hb hX
  generalize X.filter (inR low high) = F at *
  generalize hN : putAll L F = N at *
  have HN := Lib.hid hN
  clear hN
  go_enter Tryz.func17, Tryz.ntmps17
  go_wp2_with (first | (go_at_call 34; refine (HR _).mono ?_; rintro e w' ⟨rfl, rfl⟩) | (go_at_call 37; refine HX.mono ?_; rintro e u1 ⟨A1, c1, rfl, hs1, hc1, hMk, b1⟩; refine Hid.out ?_))
  refine Lib.hid ?_
  have K1 := HK.out.keep b1
  have HC := mclone_any u1 M L K1.mp
  have d0 := K1.c0
  clear HX HR
  go_wp2_with (go_at_call 38; refine HC.mono ?_; rintro e u2 ⟨rfl, hm2, b2⟩; refine Hid.out ?_)
  refine Lib.hid ?_
  have B2 := below_after b2 b1
  have hs2 : HsAt u2 w.heap.size A1 X := ⟨hs1.cs.keep b2, fun a ha => by
    obtain ⟨k1, k2, k3⟩ := hs1.off a ha
    refine ⟨k1, k2, fun i hi => ?_⟩
    subst ha
    obtain ⟨g, o, e, hc⟩ := hs1.cs.at (fun e => by have := hcells_len X; rw [e] at this; simp at this; omega)
    simp only [Option.some.injEq] at e
    subst e
    have hg : g < u1.heap.size := cell_lt (hc 0 _ (List.getElem?_eq_getElem (by rw [hcells_len]; omega)))
    rw [World.frozen?_of_block (w := u1) (b2.block g hg)]
    exact k3 i hi⟩
  have HW2 := HWh.out u2 w.heap.size A1 c1 hs2 hc1
  have hbk : ∀ k ∈ blkA A1, w.heap.size ≤ k := hs2.blk
  have K2 := K1.keep b2
  have hMn : w.heap.size ≤ u1.heap.size := b1.size
  have hMu : u1.heap.size < u2.heap.size := hm2.lt
  have HBK := Lib.hid hbk
  have HMK := Lib.hid hMk
  have HM2 := Lib.hid hm2
  have HK2 := Lib.hid K2
  clear HC HWh hs1 hs2 d0 b1 b2 hbk hMk hm2 K1 K2 HK
  generalize u1.heap.size = Mn at *
  go_wp2_with (go_at_call 36; refine HW2.mono ?_; rintro e u3 ⟨rfl, hs3, f3⟩; refine Hid.out ?_)
  refine Lib.hid ?_
  have hm3 : MpAt u3 Mn L := HM2.out.block (f3.block Mn hMu (fun hk => by have := HMK.out _ hk; omega))
  have K3 : KyAt u3 R M L := HK2.out.fr f3 (fun hk => by have := HBK.out _ hk; omega) (fun hk => by have := HBK.out _ hk; omega)
  have B3 := B2.trans (f3.toBelow B2.size HBK.out)
  have HP := put1_any u3 Mn L hm3 A1 c1 F hs3 HOK.out (by omega)
  clear HW2 hs3 f3 HM2 HK2 hm3
  go_wp2_with (go_at_call 24; refine HP.mono ?_; rintro e u4 ⟨rfl, hm4, f4⟩; refine Hid.out ?_)
  refine Lib.hid ?_
  have K4 : KyAt u4 R M L := K3.fr f4 (by simp; omega) (by simp; omega)
  have B4 := B3.trans (f4.toBelow B3.size (by simpa using hMn))
  rw [HN.out] at hm4
  have hln := fun ty => hm4.len ty u4 rfl
  have k0 := K4.c0
  have kz := K4.fz
  have HK4 := Lib.hid K4
  have HM4 := Lib.hid hm4
  have hRu : R < u4.heap.size := K4.lt
  clear HP K3 f4 B3 K4 hm4 HOK HMK HBK
  by_cases h4 : 400 < N.length
  · have h4' : (400 : Int) < N.length := by omega
    go_wp2_with fail
    go_ret
    unfold ImEnd
    rw [if_pos h4]
    exact ⟨rfl, HK4.out, B4⟩
  · have h4' : ¬ (400 : Int) < N.length := by omega
    go_wp2_with fail
    go_ret
    unfold ImEnd
    rw [if_neg h4]
    refine ⟨rfl, Mn, hMn, ⟨one_setCell HK4.out.blk, HM4.out.block (Below.heap_setCell _ _ _ _ (by show Mn ≠ R; omega))⟩, ?_⟩
    exact (Fr.below (xs := [R]) B4).setCell (p := ⟨R, 0, none⟩) (.inl (by simp)) _
set_option maxHeartbeats 1000000 in
theorem import_bad {w : World} {R : Nat} (low high : Int) (hr : rngB low high = true) (p : Option Addr) (c : Nat) (l : List UInt8) (hb : Bz w p c l) (hlen : l.length ≤ 140737488355328) (hX : readHds ltH l = none) :
    Calls Tryz.prog 17 #[.pointer (some ⟨R, 0, none⟩), .slice p l.length c, .int .i64 low, .int .i64 high] w fun e w' => e = .returned (errV 9) ∧ Below w.heap.size w w' := by
  have HR := fun u => rng_any low high u
  rw [hr] at HR
  have HX := readHds_no w p c l hb hlen hX
  clear hr hb hX
  go_enter Tryz.func17, Tryz.ntmps17
  go_wp2_with (first | (go_at_call 34; refine (HR _).mono ?_; rintro e w' ⟨rfl, rfl⟩) | (go_at_call 37; refine HX.mono ?_; rintro e u1 ⟨rfl, b1⟩))
  go_ret
  exact ⟨rfl, b1⟩
set_option maxHeartbeats 1000000 in
theorem import_rng {w : World} {R : Nat} (low high : Int) (hr : rngB low high = false) (p : Option Addr) (c n : Nat) :
    Calls Tryz.prog 17 #[.pointer (some ⟨R, 0, none⟩), .slice p n c, .int .i64 low, .int .i64 high] w fun e w' => e = .returned (errV 1) ∧ w = w' := by
  have HR := fun u => rng_any low high u
  rw [hr] at HR
  go_enter Tryz.func17, Tryz.ntmps17
  go_wp2_with (go_at_call 34; refine (HR _).mono ?_; rintro e w' ⟨rfl, rfl⟩)
  go_ret
  exact ⟨rfl, rfl⟩

/-- Bytes behind a slice: where they lie, how much room there is, and they. -/
abbrev Pt := Option Addr × Nat × List UInt8
def ptV (t : Pt) : Value := .slice t.1 t.2.2.length t.2.1
def PtOk (w : World) (t : Pt) : Prop := Bz w t.1 t.2.1 t.2.2 ∧ t.2.2.length ≤ 140737488355328
theorem PtOk.keep {w u : World} {t : Pt} (h : PtOk w t) (b : Below w.heap.size w u) : PtOk u t := ⟨h.1.keep b, h.2⟩
/-- How Whole ends. -/
def WhEnd (w : World) (F : List Hd) (e : Ending) (w' : World) : Prop :=
  (if (putAll [] F).length < F.length then e = .returned (.tuple #[.slice none 0 0, errV 8])
   else if 400 < (putAll [] F).length then e = .returned (.tuple #[.slice none 0 0, errV 4])
   else ∃ A cap, e = .returned (.tuple #[.slice A (lstB hdB (putAll [] F)).length cap, .nilIface]) ∧ Bz w' A cap (lstB hdB (putAll [] F)) ∧ LyAt w' A 5) ∧ Below w.heap.size w w'
theorem helds_full (u : World) (la : Option Addr) (c : Nat) (L : List Hd) (h : CsAt u la (hcells L)) (hlen : L.length ≤ 9223372036854775807) (hok : ∀ r ∈ L, OkHd r) (hE : 400 < L.length) :
    Calls Tryz.prog 35 #[.slice la L.length c] u fun e u' => e = .returned (.tuple #[.slice none 0 0, errV 4]) ∧ Below u.heap.size u u' := by
  refine (helds_any u la c L h hlen hok).mono ?_
  rintro e u' ⟨h1, hb⟩
  have e4 : heldsE ltH L = 4 := by unfold heldsE; rw [if_pos hE]
  rw [e4] at h1
  exact ⟨h1, hb⟩
set_option maxRecDepth 100000 in
set_option maxHeartbeats 1000000 in
theorem whole_any (w : World) (pa : Option Addr) (c : Nat) (T : List Pt) (Ls : List (List Hd)) (hC : CsAt w pa (T.map ptV)) (hT : ∀ t ∈ T, PtOk w t) (hn : T.length ≤ 1000) (hln : Ls.length = T.length) (hR : ∀ i (h : i < T.length) (h' : i < Ls.length), readHds ltH T[i].2.2 = some Ls[i]) :
    Calls Tryz.prog 18 #[.slice pa T.length c] w fun e w' => WhEnd w Ls.flatten e w' := by
  have hmm := @run_makeMap Tryz.prog
  have hm0 := mp_new w
  have hb0 : Below w.heap.size w (w.alloc (.map #[] 0)) := (Below.refl _ w).alloc (Nat.le_refl _) _
  have hlk : ∀ k, k ≤ T.length → (Ls.take k).flatten.length ≤ 400 * k := fun k hk => by
    induction k with
    | zero => simp
    | succ k ih =>
      have hk' : k < Ls.length := by omega
      have := ih (by omega)
      rw [List.take_succ_eq_append_getElem hk', List.flatten_append, List.length_append, show [Ls[k]].flatten = Ls[k] from by simp]
      have h2 := (read_good (hR k (by omega) hk')).1.1
      omega
  have hokA : ∀ k, k ≤ T.length → ∀ r ∈ (Ls.take k).flatten, badHd r = false ∧ OkHd r := fun k hk r hr => by
    obtain ⟨X, hX, hrX⟩ := List.mem_flatten.1 hr
    obtain ⟨i, hi, rfl⟩ := List.getElem_of_mem hX
    rw [List.length_take] at hi
    rw [List.getElem_take] at hrX
    exact (read_good (hR i (by omega) (by omega))).1.2.1 r hrX
  have HLK := Lib.hid hlk
  have HOA := Lib.hid hokA
  have kC := Lib.hid (fun (u : World) (hb : Below w.heap.size w u) => hC.keep hb)
  have kT := Lib.hid (fun (u : World) (hb : Below w.heap.size w u) (t : Pt) (ht : t ∈ T) => (hT t ht).keep hb)
  have HR := Lib.hid hR
  clear hC hT hlk hokA hR
  go_enter Tryz.func18, Tryz.ntmps18
  go_wp2
  go_loopw [5, 13] (fun m i wr => ∃ k n : Nat, k ≤ T.length ∧ i = .int .i64 k ∧ m = .int .i64 n ∧ n = (Ls.take k).flatten.length ∧ MpAt wr w.heap.size (putAll [] (Ls.take k).flatten) ∧ Below w.heap.size w wr) (fun _ i _ => T.length - (intOf i).toNat)
  case atStart => exact ⟨0, 0, by omega, rfl, rfl, rfl, hm0, hb0⟩
  case round =>
    clear hm0 hb0
    obtain ⟨k, n, hk, rfl, rfl, hnn, hm, hb⟩ := hrel
    by_cases hlt : k < T.length
    · have hlt' : (k : Int) < T.length := by omega
      have hkL : k < Ls.length := by omega
      obtain ⟨b, o, rfl, hcell⟩ := (kC.out wr hb).at (fun e => by have h0 := congrArg List.length e; rw [List.length_map] at h0; simp only [List.length_nil] at h0; omega)
      have c0 := hcell k (ptV T[k]) (by simp [hlt])
      have hok := kT.out wr hb _ (List.getElem_mem hlt)
      have hr := HR.out k hlt hkL
      have hg := (read_good hr).1
      have HRd := readHs_yes wr T[k].1 T[k].2.1 T[k].2.2 Ls[k] hok.1 hok.2 hr
      have hfl : (Ls.take (k + 1)).flatten = (Ls.take k).flatten ++ Ls[k] := by
        rw [List.take_succ_eq_append_getElem hkL, List.flatten_append]; simp
      have hfll : (Ls.take (k + 1)).flatten.length = n + Ls[k].length := by rw [hfl, List.length_append, hnn]
      have hlk1 := HLK.out k hk
      have hpl := putAll_len (l := []) List.Pairwise.nil (Ls.take k).flatten
      have hX4 := hg.1
      have hXo := hg.okK
      have HFL : Hid (putAll [] (Ls.take (k + 1)).flatten = putAll (putAll [] (Ls.take k).flatten) Ls[k]) := Lib.hid (by rw [hfl, putAll_append])
      have HFN := Lib.hid hfll
      rw [← hnn] at hlk1 hpl
      clear hcell hok hr hg hfl hfll hnn
      generalize Ls[k] = X at *
      generalize putAll [] (Ls.take k).flatten = S at *
      generalize T[k] = t at *
      obtain ⟨tp, tc, tl⟩ := t
      simp only [ptV] at c0 HRd
      simp only [List.length_nil, Nat.zero_add] at hpl
      go_wp2_with (go_at_call 37; refine HRd.mono ?_; rintro e u1 ⟨A1, c1, rfl, hs1, hc1, -, b1⟩; refine Hid.out ?_)
      refine Lib.hid ?_
      have hm1 := hm.block (b1.block _ hm.lt)
      have B1 := hb.trans (b1.mono hb.size)
      have HP := put1_any u1 w.heap.size S hm1 A1 c1 X hs1.cs hXo (by omega)
      clear HRd hs1 b1 hm1 hm hXo hb
      go_wp2_with (go_at_call 24; refine HP.mono ?_; rintro e u2 ⟨rfl, hm2, f2⟩; refine Hid.out ?_)
      refine Lib.hid ?_
      have B2 := B1.trans (f2.toBelow B1.size (by simp))
      have HM2 := Lib.hid hm2
      have hnx : wrap64 ((n : Int) + (X.length : Int)) = (n : Int) + (X.length : Int) := by unfold wrap64; omega
      clear HP f2 hm2 B1
      go_wp2_with fail
      go_roundw
      case rel => exact ⟨k + 1, n + X.length, by omega, by go_num, by go_num, HFN.out.symm, by rw [HFL.out]; exact HM2.out, B2⟩
      case measure => simp [intOf]; omega
    · have ek : Ls.take k = Ls := List.take_of_length_le (by omega)
      have hlk1 := HLK.out k hk
      have hoa := HOA.out k hk
      rw [ek] at hm hlk1 hoa hnn
      have hpl := putAll_len (l := []) List.Pairwise.nil Ls.flatten
      simp only [List.length_nil, Nat.zero_add] at hpl
      have hris := hm.ris
      have hoS : ∀ r ∈ putAll [] Ls.flatten, badHd r = false ∧ OkHd r := putAll_mem_of (by simp) hoa
      have hln2 := fun ty => hm.len ty wr rfl
      have HS := stsorted_any wr w.heap.size (putAll [] Ls.flatten) hm (by omega)
      have hkn : ¬ (k : Int) < T.length := by omega
      have HOS := Lib.hid hoS
      have HRS := Lib.hid hris
      have HEk := Lib.hid ek
      clear hoa hoS hm hris HR HOA HLK kC kT ek
      generalize hF : Ls.flatten = F at *
      generalize hS : putAll [] F = S at *
      have HSd := Lib.hid hS
      have HFd := Lib.hid hF
      clear hS hF
      subst hnn
      have hlk2 : F.length ≤ 400000 := by omega
      by_cases h8 : S.length < F.length
      · have h8' : (S.length : Int) < F.length := by omega
        clear HS
        go_wp2_with fail
        go_ret2
        unfold WhEnd
        rw [HFd.out, HSd.out, if_pos h8]
        exact ⟨by rfl, hb⟩
      · have h8' : ¬ (S.length : Int) < F.length := by omega
        go_wp2_with (go_at_call 26; refine HS.mono ?_; rintro e u1 ⟨A1, c1, rfl, hs1, hc1, b1⟩; refine Hid.out ?_)
        refine Lib.hid ?_
        have B1 := hb.trans (b1.mono hb.size)
        by_cases h4 : 400 < S.length
        · have HH := helds_full u1 A1 c1 S hs1.cs (by omega) (fun r hr => (HOS.out r hr).2) h4
          clear HS hs1 b1 HOS
          go_wp2_with (go_at_call 35; refine HH.mono ?_; rintro e u2 ⟨rfl, b2⟩; refine Hid.out ?_)
          refine Lib.hid ?_
          have B2 := B1.trans (b2.mono B1.size)
          clear HH b2
          go_wp2_with fail
          go_ret2
          unfold WhEnd
          rw [HFd.out, HSd.out, if_neg h8, if_pos h4]
          exact ⟨by rfl, B2⟩
        · have HH := helds_yt u1 A1 c1 S hs1.cs ⟨by omega, HOS.out, HRS.out⟩
          clear HS hs1 b1 HOS
          go_wp2_with (go_at_call 35; refine HH.mono ?_; rintro e u2 ⟨A2, c2, rfl, hz2, hy2, b2⟩; refine Hid.out ?_)
          refine Lib.hid ?_
          have B2 := B1.trans (b2.mono B1.size)
          clear HH b2
          go_wp2_with fail
          go_ret2
          unfold WhEnd
          rw [HFd.out, HSd.out, if_neg h8, if_neg h4]
          exact ⟨⟨A2, c2, rfl, hz2, hy2⟩, B2⟩
end Go.Proofs.YtbppiiomjmpjkabGreatDoor

/- KeyedLast: the walk. -/
namespace Go.Proofs.YtbppiiomjmpjkabGreatDoor
open Go.RowKit
set_option linter.unusedVariables false

theorem csM {w u : World} {A : Option Addr} {cs : List Value} {M : Nat} {L : List Hd} (h : CsAt w A cs) (hm : MpAt w M L) (f : Fr [M] w u) : CsAt u A cs := by
  obtain ⟨es, cl, hm⟩ := hm.map
  rcases h with hx | ⟨b, o, rfl, hc⟩
  · exact .inl hx
  · refine .inr ⟨b, o, rfl, fun j v hv => ?_⟩
    have h1 := hc j v hv
    rw [f.cell (p := ⟨b, o + j, none⟩) (cell_lt h1) (by
      simp only [List.mem_singleton]
      rintro rfl
      simp [World.cell?, hm] at h1)]
    exact h1
theorem heldS : Tryz.prog.underlying 27 = some (.struct (Tryz.prog.fieldsOf 27)) := by kernel_rfl
theorem heldP : Tryz.prog.stoodInHeld 27 = false := by kernel_rfl
theorem heldG : Tryz.prog.eqGuardType Tryz.prog.depth 27 = false := by kernel_rfl
theorem neqHd (r : Hd) (w : World) : (binOp .neq 27 (hdV r) (hdV r)).run Tryz.prog w = .ok (.bool false) w := by
  obtain ⟨nd, key, a, b⟩ := r
  have u3 := Tryz.underlying3
  have a3 := Tryz.isAgg3
  have z3 := Tryz.sizeOf3
  have u9 := Tryz.underlying9
  have a9 := Tryz.isAgg9
  have z9 := Tryz.sizeOf9
  simp only [hdV]
  rw [run_neq_struct, show (10000 : Nat) = 9999 + 1 from rfl, run_equalIn_agg w 9999 27 _ _ heldS heldP]
  simp only [Program.fieldsOf, Tryz.underlying27]
  go_simp
  try simp
/-- What is there behind some Puts. -/
def goodP (s : List Hd) (r : Hd) : List Hd := if badHd r then s else putP s r
def stK (L : List Hd) (k : Nat) : List Hd := (L.take k).foldl goodP []
theorem stK_zero (L : List Hd) : stK L 0 = [] := rfl
theorem stK_succ (L : List Hd) (k : Nat) (h : k < L.length) : stK L (k + 1) = goodP (stK L k) L[k] := by
  unfold stK
  rw [List.take_succ_eq_append_getElem h, List.foldl_append]; rfl
theorem stK_ris (L : List Hd) : ∀ k, k ≤ L.length → RisH (stK L k)
  | 0, _ => List.Pairwise.nil
  | k + 1, h => by
    rw [stK_succ L k (by omega)]
    unfold goodP
    split
    · exact stK_ris L k (by omega)
    · exact putP_ris (stK_ris L k (by omega)) _
theorem stK_len (L : List Hd) : ∀ k, k ≤ L.length → (stK L k).length ≤ k
  | 0, _ => by simp [stK]
  | k + 1, h => by
    have ih := stK_len L k (by omega)
    rw [stK_succ L k (by omega)]
    unfold goodP
    split
    · omega
    · have := putP_len (stK_ris L k (by omega)) L[k]
      split at this <;> omega
theorem stK_good (L : List Hd) : ∀ k, k ≤ L.length → ∀ r ∈ stK L k, badHd r = false
  | 0, _, r, h => by simp [stK] at h
  | k + 1, hk, r, h => by
    rw [stK_succ L k (by omega)] at h
    unfold goodP at h
    split at h
    · exact stK_good L k (by omega) r h
    · rename_i hb
      rcases (mem_putP _ _ _).1 h with rfl | ⟨h1, -⟩
      · simpa using hb
      · exact stK_good L k (by omega) r h1
theorem putP_nil (x : Hd) : putP [] x = [x] := rfl
theorem putP_sm {x y : Hd} (h : Sm x y) : putP [x] y = [y] := by
  have h1 : ¬ Ah x y := fun e => e.notSm h
  have h2 : ¬ Ah y x := fun e => e.notSm h.symm
  unfold putP
  simp [h1, h2]
set_option maxRecDepth 100000 in
set_option maxHeartbeats 1000000 in
theorem ahead2_any (a b : Hd) (w : World) : Calls Tryz.prog 25 #[hdV a, hdV b] w fun e w' => e = .returned (.bool (decide (Ah a b))) ∧ Below w.heap.size w w' := by
  obtain ⟨an, ak, aa, ab⟩ := a
  obtain ⟨bn, bk, ba, bb⟩ := b
  have HB := (((Below.refl w.heap.size w).alloc (Nat.le_refl _) (.cells #[.int .i64 an, .string ak, .int .i64 aa, .int .i64 ab] 27)).alloc (by simp) (.cells #[.int .i64 bn, .string bk, .int .i64 ba, .int .i64 bb] 27))
  by_cases h : an = bn
  · have e : decide (Ah ⟨an, ak, aa, ab⟩ ⟨bn, bk, ba, bb⟩) = decide (ak.data.toList < bk.data.toList) := decide_eq_decide.2 (by simp [Ah, kH, h])
    rw [e]
    subst h
    simp only [hdV]
    clear e
    go_enter Tryz.func25, Tryz.ntmps25
    go_wp2_with fail
    go_ret
    exact ⟨ret_bool (by rw [bytesLess_eq, Lib.toList_data, Lib.toList_data]), HB⟩
  · have e : decide (Ah ⟨an, ak, aa, ab⟩ ⟨bn, bk, ba, bb⟩) = decide (an < bn) := decide_eq_decide.2 (by simp [Ah, h])
    rw [e]
    simp only [hdV]
    clear e
    go_enter Tryz.func25, Tryz.ntmps25
    go_wp2_with fail
    go_ret
    exact ⟨rfl, HB⟩
end Go.Proofs.YtbppiiomjmpjkabGreatDoor

/- States by parts of the groups; what stays over an append. -/
namespace Go.Proofs.YtbppiiomjmpjkabGreatDoor
open Go.RowKit Go.Shelf
set_option linter.unusedVariables false

/-- What is no row of rows of bytes stays. -/
def KpT (w w' : World) : Prop := ∀ (k : Nat) (o : Obj), w.heap[k]? = some o → (∀ cur, o ≠ .cells cur 39 (0, 0)) → w'.heap[k]? = some o
theorem KpT.grown {w w1 w' : World} {B n : Nat} {v : Value} {xs : List Value} (h : ∀ k, k < w.heap.size → w1.heap[k]? = w.heap[k]?) (hsz : w.heap.size ≤ w1.heap.size) (hg : w1.grownBy w' v.ownBlock) (ho : w1.ownsRow B 39 1 v n xs) : KpT w w' := fun k o hk hx => by
  have hk1 : w1.heap[k]? = some o := by rw [h k (some_lt hk)]; exact hk
  rw [hg.block k (some_lt hk1) ?_]; exact hk1
  intro e
  rcases ho.2 with ⟨h0, -⟩ | ⟨g, cap, cur, h0, -, hc, -⟩
  · rw [h0] at e; simp [Value.ownBlock] at e
  · rw [h0] at e
    simp [Value.ownBlock] at e
    subst e
    rw [hk1] at hc
    injection hc with hc
    exact hx _ hc
theorem KyAt.kp {w w' : World} {R M : Nat} {L : List Hd} (h : KyAt w R M L) (hk : KpT w w') : KyAt w' R M L := by
  obtain ⟨es, cl, hm⟩ := h.mp.map
  refine ⟨hk R _ h.blk (fun c hc => by injection hc with _ hc; exact absurd hc (by decide)), h.mp.block ?_⟩
  rw [hm]
  exact hk M _ hm (fun c hc => by cases hc)
theorem LyAt.same {w w' : World} {p : Option Addr} {e : TypeId} (h : LyAt w p e) (hk : KpT w w') (he : e ≠ 39) (a : Addr) (ha : p = some a) : w'.heap[a.block]? = w.heap[a.block]? := by
  rcases h with h | ⟨g, cur, h1, h2⟩
  · rw [h] at ha; cases ha
  · rw [h1] at ha
    injection ha with ha
    subst ha
    rw [h2]
    exact hk g _ h2 (fun c hc => by injection hc with _ hc; exact he hc)
theorem LyAt.kp {w w' : World} {p : Option Addr} {e : TypeId} (h : LyAt w p e) (hk : KpT w w') (he : e ≠ 39) : LyAt w' p e := by
  rcases h with h | ⟨g, cur, h1, h2⟩
  · exact .inl h
  · exact .inr ⟨g, cur, h1, hk g _ h2 (fun c hc => by injection hc with _ hc; exact he hc)⟩
theorem BsAt.same {w w' : World} {p : Option Addr} {l : List UInt8} (h : BsAt w p l) (hs : ∀ a, p = some a → w'.heap[a.block]? = w.heap[a.block]?) : BsAt w' p l := by
  rcases h with h | ⟨b, o, rfl, hc⟩
  · exact .inl h
  · refine .inr ⟨b, o, rfl, fun i hi => ?_⟩
    have e : w'.heap[b]? = w.heap[b]? := hs _ rfl
    rw [show w'.cell? ⟨b, o + i, none⟩ = w.cell? ⟨b, o + i, none⟩ from World.cell?_of_block (a := ⟨b, o + i, none⟩) e]
    exact hc i hi
theorem PtOk.kp {w w' : World} {t : Pt} (h : PtOk w t) (ha : LyAt w t.1 5) (hk : KpT w w') : PtOk w' t :=
  ⟨⟨h.1.1.same (fun a hp => ha.same hk (by decide) a hp), h.1.2⟩, h.2⟩

theorem part_put {L : List Hd} (hL : RisH L) {b b' : Int} (h1 : b ≤ b') : putAll (L.filter (inR 0 b)) (L.filter (inR b b')) = L.filter (inR 0 b') := by
  have hr := ris_notSm (hL.filter (inR b b'))
  refine ris_ext (putAll_ris (hL.filter _) _) (hL.filter _) (fun x => ?_)
  rw [mem_putAll hr]
  simp only [List.mem_filter, inR, Bool.and_eq_true, decide_eq_true_eq]
  have hx := gH_bd x
  constructor
  · rintro (⟨k1, k2, k3⟩ | ⟨⟨k1, k2, k3⟩, -⟩)
    · exact ⟨k1, by omega, by omega⟩
    · exact ⟨k1, by omega, by omega⟩
  · rintro ⟨k1, k2, k3⟩
    by_cases hb : b ≤ gH x
    · exact .inl ⟨k1, hb, k3⟩
    · refine .inr ⟨⟨k1, k2, by omega⟩, fun y hy hs => ?_⟩
      have e := ris_uniq hL k1 hy.1 hs
      subst e
      omega
theorem part_len (L : List Hd) {b b' : Int} (h0 : 0 ≤ b) (h1 : b ≤ b') : (L.filter (inR 0 b)).length + (L.filter (inR b b')).length = (L.filter (inR 0 b')).length := by
  induction L with
  | nil => rfl
  | cons x L ih =>
    have hx := gH_bd x
    simp only [List.filter_cons]
    by_cases k1 : gH x < b
    · have e1 : inR 0 b x = true := by simp [inR]; omega
      have e2 : inR b b' x = false := by simp [inR]; omega
      have e3 : inR 0 b' x = true := by simp [inR]; omega
      simp only [e1, e2, e3, if_true, Bool.false_eq_true, if_false, List.length_cons]
      omega
    · by_cases k2 : gH x < b'
      · have e1 : inR 0 b x = false := by simp [inR]; omega
        have e2 : inR b b' x = true := by simp [inR]; omega
        have e3 : inR 0 b' x = true := by simp [inR]; omega
        simp only [e1, e2, e3, if_true, Bool.false_eq_true, if_false, List.length_cons]
        omega
      · have e1 : inR 0 b x = false := by simp [inR]; omega
        have e2 : inR b b' x = false := by simp [inR]; omega
        have e3 : inR 0 b' x = false := by simp [inR]; omega
        simp only [e1, e2, e3, Bool.false_eq_true, if_false]
        omega
theorem part_zero (L : List Hd) : L.filter (inR 0 0) = [] := List.filter_eq_nil_iff.2 (fun x _ h => by simp [inR] at h; omega)
theorem part_all (L : List Hd) : L.filter (inR 0 16) = L := List.filter_eq_self.2 (fun x _ => by have := gH_bd x; simp [inR]; omega)
/-- The parts of the first workers. -/
def partsP (L : List Hd) (p : Int) (k : Nat) : List (List Hd) := (List.range k).map (fun i : Nat => L.filter (inR (bgn p i) (bgn p (i + 1))))
theorem partsP_len (L : List Hd) (p : Int) (k : Nat) : (partsP L p k).length = k := by simp [partsP]
theorem partsP_succ (L : List Hd) (p : Int) (k : Nat) : partsP L p (k + 1) = partsP L p k ++ [L.filter (inR (bgn p k) (bgn p (k + 1)))] := by
  simp [partsP, List.range_succ]
theorem parts_all {L : List Hd} (hL : RisH L) {p : Int} (h1 : 1 ≤ p) (h2 : p ≤ 16) : ∀ k : Nat, (k : Int) ≤ p → putAll [] (partsP L p k).flatten = L.filter (inR 0 (bgn p k)) ∧ (partsP L p k).flatten.length = (L.filter (inR 0 (bgn p k))).length
  | 0, _ => by
    have e : bgn p ((0 : Nat) : Int) = 0 := bgn_zero h1 h2
    rw [e, part_zero]
    exact ⟨rfl, rfl⟩
  | k + 1, hk => by
    obtain ⟨i1, i2⟩ := parts_all hL h1 h2 k (by omega)
    have hs := bgn_step (p := p) (i := (k : Int)) h1 h2 (by omega) (by omega)
    rw [partsP_succ, List.flatten_append, show [L.filter (inR (bgn p k) (bgn p (k + 1)))].flatten = L.filter (inR (bgn p k) (bgn p (k + 1))) from by simp, putAll_append, i1, List.length_append, i2]
    have e : (((k + 1 : Nat) : Int)) = (k : Int) + 1 := by omega
    rw [e]
    exact ⟨part_put hL (by omega), part_len L (by omega) (by omega)⟩
theorem stK_mem (L : List Hd) : ∀ k, k ≤ L.length → ∀ r ∈ stK L k, r ∈ L
  | 0, _, r, h => by simp [stK] at h
  | k + 1, hk, r, h => by
    rw [stK_succ L k (by omega)] at h
    unfold goodP at h
    split at h
    · exact stK_mem L k (by omega) r h
    · rcases (mem_putP _ _ _).1 h with rfl | ⟨h1, -⟩
      · exact List.getElem_mem _
      · exact stK_mem L k (by omega) r h1
theorem stK_goodL {L : List Hd} (hok : ∀ r ∈ L, OkHd r) (k : Nat) (hk : k ≤ L.length) (h4 : k ≤ 400) : GoodL (stK L k) :=
  ⟨Nat.le_trans (stK_len L k hk) h4, fun r hr => ⟨stK_good L k hk r hr, hok r (stK_mem L k hk r hr)⟩, stK_ris L k hk⟩
end Go.Proofs.YtbppiiomjmpjkabGreatDoor

/- The document's side: a state among some that rise. -/
namespace Go.Proofs.YtbppiiomjmpjkabGreatDoor
open Go.RowKit Go.Shelf
set_option linter.unusedVariables false

theorem str_ne {x y : ByteArray} (h : x ≠ y) : (x.toList == y.toList) = false := by
  rw [beq_eq_false_iff_ne]
  intro e
  exact h (WideShapes.bytes_inj (by rw [← Lib.toList_data, ← Lib.toList_data]; exact e))
theorem str_eq (x : ByteArray) : (x.toList == x.toList) = true := beq_self_eq_true _

theorem row_keep {w w' : World} {B n e m : Nat} {v : Value} {xs : List Value} (h : w.ownsRow B e m v n xs) (hb : Below w.heap.size w w') : w'.ownsRow B e m v n xs := by
  refine ⟨h.1, ?_⟩
  rcases h.2 with h0 | ⟨g, cap, cur, h0, h1, h2, h3⟩
  · exact .inl h0
  · exact .inr ⟨g, cap, cur, h0, h1, by rw [hb.block g (some_lt h2)]; exact h2, h3⟩
theorem plc_cons (r x : Hd) (l : List Hd) (d : Bool) : plc r d (x :: l) = if Sm x r then plc r d l else if d = false ∧ Ah r x then r :: x :: plc r true l else x :: plc r d l := by conv => lhs; unfold plc
theorem plc_nil (r : Hd) (d : Bool) : plc r d [] = if d then [] else [r] := by unfold plc; rfl
theorem fr_own {W0 w1 w' : World} {B n : Nat} {v : Value} {xs : List Value} {e : TypeId} {m : Nat} (hb : Below B W0 w1) (hB : B ≤ w1.heap.size) (hg : w1.grownBy w' v.ownBlock) (ho : w1.ownsRow B e m v n xs) : Below B W0 w' := hb.grown hg hB (fun j hj => (ho.lt j hj).1)
set_option maxRecDepth 100000 in
set_option maxHeartbeats 4000000 in
theorem plc_any (w : World) (la : Option Addr) (c : Nat) (L : List Hd) (r : Hd) (into : Bool) (h : CsAt w la (hcells L)) (hlen : L.length ≤ 1000000) :
    Calls Tryz.prog 9 #[.slice la L.length c, hdV r, .bool into] w fun e w' => ∃ A cap, e = .returned (.slice A (plc r (!into) L).length cap) ∧ CsAt w' A (hcells (plc r (!into) L)) ∧ Below w.heap.size w w' := by
  obtain ⟨i0, hi, hz0, hz1, hz2⟩ := info_parts infoHd
  have HA := fun x u => ahead2_any r x u
  generalize hRs : plc r (!into) L = Rs
  have HRs := Lib.hid hRs
  have HP := Lib.hid (plc_cons r)
  have HPe := Lib.hid (plc_nil r)
  have HSm : Hid (∀ x : Hd, Sm x r ↔ x.nd = r.nd ∧ x.key = r.key) := Lib.hid (fun x => Iff.rfl)
  obtain ⟨rn, rk, ra, rb⟩ := r
  simp only [hdV] at HA ⊢
  have hb0 : Below w.heap.size w (w.alloc (.cells #[.int .i64 rn, .string rk, .int .i64 ra, .int .i64 rb] 27)) := (Below.refl _ _).alloc (Nat.le_refl _) _
  have hz : w.heap.size < (w.alloc (.cells #[.int .i64 rn, .string rk, .int .i64 ra, .int .i64 rb] 27)).heap.size := by simp
  have hh0 : (w.alloc (.cells #[.int .i64 rn, .string rk, .int .i64 ra, .int .i64 rb] 27)).heap[w.heap.size]? = some (.cells #[.int .i64 rn, .string rk, .int .i64 ra, .int .i64 rb] 27) := by show (w.heap.push _)[w.heap.size]? = _; rw [Array.getElem?_push_size]
  have hCW : CsAt (w.alloc (.cells #[.int .i64 rn, .string rk, .int .i64 ra, .int .i64 rb] 27)) la (hcells L) := h.keep hb0
  clear hRs h
  go_enter Tryz.func9, Tryz.ntmps9
  go_wp2_with fail
  generalize w.alloc (.cells #[.int .i64 rn, .string rk, .int .i64 ra, .int .i64 rb] 27) = W0 at *
  go_loopw [7, 8, 9] (fun v d i wr => ∃ (k : Nat) (ys : List Hd) (done : Bool), k ≤ L.length ∧ i = .int .i64 k ∧ d = .bool done ∧ wr.ownsRow W0.heap.size 27 4 v ys.length (hcells ys) ∧ Hid (ys ++ plc ⟨rn, rk, ra, rb⟩ done (L.drop k) = Rs) ∧ ys.length ≤ k + 1 ∧ (done = false → ys.length ≤ k) ∧ Below W0.heap.size W0 wr) (fun _ _ i _ => L.length - (intOf i).toNat)
  case atStart => exact ⟨0, [], !into, by omega, rfl, rfl, World.ownsRow_nil _ _ _ _, Lib.hid (by simpa using HRs.out), by simp, by simp, Below.refl _ _⟩
  case round =>
    clear HRs
    obtain ⟨k, ys, done, hk, rfl, rfl, own, hE, hyl, hyd, hb⟩ := hrel
    have hhw : wr.heap[w.heap.size]? = some (.cells #[.int .i64 rn, .string rk, .int .i64 ra, .int .i64 rb] 27) := (hb.block _ hz).trans hh0
    have r0 : wr.cell? ⟨w.heap.size, 0, none⟩ = some (.int .i64 rn) := by simp [World.cell?, hhw]
    have r1 : wr.cell? ⟨w.heap.size, 1, none⟩ = some (.string rk) := by simp [World.cell?, hhw]
    have r2 : wr.cell? ⟨w.heap.size, 2, none⟩ = some (.int .i64 ra) := by simp [World.cell?, hhw]
    have r3 : wr.cell? ⟨w.heap.size, 3, none⟩ = some (.int .i64 rb) := by simp [World.cell?, hhw]
    by_cases hlt : k < L.length
    · have hlt' : (k : Int) < L.length := by omega
      obtain ⟨b, o, rfl, c0, c1, c2, c3⟩ := hds_at (hCW.keep hb) k hlt
      have hbl : b < W0.heap.size := by
        obtain ⟨b', o', eb, q0, -⟩ := hds_at hCW k hlt
        simp only [Option.some.injEq, Addr.mk.injEq, and_true] at eb
        obtain ⟨rfl, rfl⟩ := eb
        exact cell_lt q0
      have hdr : L.drop k = L[k] :: L.drop (k + 1) := (List.getElem_cons_drop (h := hlt)).symm
      have hE2 := hE.out
      rw [hdr, HP.out] at hE2
      have HA1 := HA L[k]
      have hsm := HSm.out L[k]
      have hXC : ∀ u, Below W0.heap.size W0 u → u.cell? ⟨b, o + k * 4, none⟩ = some (.int .i64 L[k].nd) ∧ u.cell? ⟨b, o + k * 4 + 1, none⟩ = some (.string L[k].key) ∧ u.cell? ⟨b, o + k * 4 + 2, none⟩ = some (.int .i64 L[k].a) ∧ u.cell? ⟨b, o + k * 4 + 3, none⟩ = some (.int .i64 L[k].b) := fun u hu => by
        obtain ⟨b', o', eb, q0, q1, q2, q3⟩ := hds_at (hCW.keep hu) k hlt
        simp only [Option.some.injEq, Addr.mk.injEq, and_true] at eb
        obtain ⟨rfl, rfl⟩ := eb
        exact ⟨q0, q1, q2, q3⟩
      clear hE hdr HP HSm HPe HA
      generalize hLr : L.drop (k + 1) = Lr at *
      have HLr := Lib.hid hLr
      clear hLr
      generalize L[k] = x at *
      obtain ⟨xn, xk, xa, xb⟩ := x
      simp only at c0 c1 c2 c3 hsm hXC
      simp only at HA1
      have hold : ∀ u, Below W0.heap.size W0 u → u.cell? ⟨w.heap.size, 0, none⟩ = some (.int .i64 rn) ∧ u.cell? ⟨w.heap.size, 1, none⟩ = some (.string rk) ∧ u.cell? ⟨w.heap.size, 2, none⟩ = some (.int .i64 ra) ∧ u.cell? ⟨w.heap.size, 3, none⟩ = some (.int .i64 rb) ∧ u.cell? ⟨b, o + k * 4, none⟩ = some (.int .i64 xn) ∧ u.cell? ⟨b, o + k * 4 + 1, none⟩ = some (.string xk) ∧ u.cell? ⟨b, o + k * 4 + 2, none⟩ = some (.int .i64 xa) ∧ u.cell? ⟨b, o + k * 4 + 3, none⟩ = some (.int .i64 xb) := fun u hu => by
        have hd : u.heap[w.heap.size]? = some (.cells #[.int .i64 rn, .string rk, .int .i64 ra, .int .i64 rb] 27) := (hu.block _ hz).trans hh0
        obtain ⟨k1, k2, k3, k4⟩ := hXC u hu
        exact ⟨by simp [World.cell?, hd], by simp [World.cell?, hd], by simp [World.cell?, hd], by simp [World.cell?, hd], k1, k2, k3, k4⟩
      have HO := Lib.hid hold
      clear hold hhw hXC hbl
      by_cases hs : xn = rn ∧ xk = rk
      · obtain ⟨rfl, rfl⟩ := hs
        rw [if_pos (hsm.2 ⟨rfl, rfl⟩)] at hE2
        have HE := Lib.hid hE2
        clear hE2 HA1 hsm
        go_wp2_with fail
        go_quiet (fail)
        go_wp2_with fail
        go_roundw
        case rel => exact ⟨k + 1, ys, done, by omega, by go_num, rfl, row_keep own ⟨rfl, rfl, rfl, Nat.le_refl _, fun _ _ => rfl⟩, Lib.hid (by rw [HLr.out]; exact HE.out), by omega, by intro hd; have := hyd hd; omega, ⟨hb.os, hb.tape, hb.output, hb.size, hb.block⟩⟩
        case measure => simp [intOf]; omega
      · rw [if_neg (fun e => hs (hsm.1 e))] at hE2
        have hcase : (xn == rn) = false ∨ ((xn == rn) = true ∧ (xk.toList == rk.toList) = false) := by
          by_cases h1 : xn = rn
          · exact .inr ⟨by simpa using h1, str_ne (fun h2 => hs ⟨h1, h2⟩)⟩
          · exact .inl (by simpa using h1)
        clear hs hsm
        cases done with
        | true =>
          rw [if_neg (by simp)] at hE2
          have HE := Lib.hid hE2
          clear hE2 HA1
          rcases hcase with hn1 | ⟨hn0, hn1⟩
          all_goals
            go_wp2_with fail
            go_quiet (fail)
            have hbq : Below W0.heap.size W0 (wr.drewN nq) := ⟨hb.os, hb.tape, hb.output, hb.size, hb.block⟩
            have ownq := row_keep own (show Below wr.heap.size wr (wr.drewN nq) from ⟨rfl, rfl, rfl, Nat.le_refl _, fun _ _ => rfl⟩)
            generalize wr.drewN nq = Wq at *
            clear own hb r0 r1 r2 r3 c0 c1 c2 c3
            obtain ⟨r0, r1, r2, r3, c0, c1, c2, c3⟩ := HO.out Wq hbq
            go_wp2_with fail
            go_quiet (fail)
            have hbp : Below W0.heap.size W0 (Wq.drewN nq) := ⟨hbq.os, hbq.tape, hbq.output, hbq.size, hbq.block⟩
            have ownp := row_keep ownq (show Below Wq.heap.size Wq (Wq.drewN nq) from ⟨rfl, rfl, rfl, Nat.le_refl _, fun _ _ => rfl⟩)
            generalize Wq.drewN nq = Wp at *
            clear ownq hbq r0 r1 r2 r3 c0 c1 c2 c3
            obtain ⟨r0, r1, r2, r3, c0, c1, c2, c3⟩ := HO.out Wp hbp
            have BU := hbp
            have ownU := ownp
            obtain ⟨q0, q1, q2, q3, q4, q5, q6, q7⟩ := HO.out _ BU
            generalize Wp = U at *
            clear ownp hbp r0 r1 r2 r3 c0 c1 c2 c3 HO
            have hszU : W0.heap.size ≤ U.heap.size := BU.size
            go_wp2_with (at_builtin; refine wpList_append_own _ rfl _ _ 22 rfl W0.heap.size 27 i0 (.agg #[.int .i64 0, .string ⟨#[]⟩, .int .i64 0, .int .i64 0]) 4 40 Tryz.underlying22 hi hz0 hz1 hz2 rfl (by decide) _ _ _ rfl (ownU.alloc _) ⟨U.heap.size, 0, none⟩ 1 1 [.int .i64 xn, .string xk, .int .i64 xa, .int .i64 xb] rfl rfl (cell_four_new _ _ _ _ _ _) (by intro u' hu'; simp at hu'; rcases hu' with rfl | rfl | rfl | rfl <;> rfl) (by unfold maxLen; omega) (by omega) (by simp; omega) ?_)
            intro v3 U3 o3 g3 _
            refine Hid.out ?_
            refine Lib.hid ?_
            have B3 : Below W0.heap.size W0 U3 := fr_own (BU.alloc BU.size _) (by have := BU.size; simp; omega) g3 (ownU.alloc _)
            have p3 : U3.ownsRow W0.heap.size 27 4 v3 (ys ++ [(⟨xn, xk, xa, xb⟩ : Hd)]).length (hcells (ys ++ [(⟨xn, xk, xa, xb⟩ : Hd)])) := by rw [hcells_append, List.length_append]; exact o3
            clear o3 g3 ownU
            go_wp2_with fail
            go_roundw
            case rel => exact ⟨k + 1, ys ++ [(⟨xn, xk, xa, xb⟩ : Hd)], true, by omega, by go_num, rfl, p3, Lib.hid (by rw [HLr.out, ← HE.out]; simp), by simp; omega, by simp, B3⟩
            case measure => simp [intOf]; omega
        | false =>
          have hyk : ys.length ≤ k := hyd rfl
          clear hyd
          by_cases hah : Ah ⟨rn, rk, ra, rb⟩ ⟨xn, xk, xa, xb⟩
          · rw [if_pos ⟨rfl, hah⟩] at hE2
            have HE := Lib.hid hE2
            rw [decide_eq_true hah] at HA1
            clear hE2 hah
            rcases hcase with hn1 | ⟨hn0, hn1⟩
            all_goals
              go_wp2_with fail
              go_quiet (fail)
              have hbq : Below W0.heap.size W0 (wr.drewN nq) := ⟨hb.os, hb.tape, hb.output, hb.size, hb.block⟩
              have ownq := row_keep own (show Below wr.heap.size wr (wr.drewN nq) from ⟨rfl, rfl, rfl, Nat.le_refl _, fun _ _ => rfl⟩)
              generalize wr.drewN nq = Wq at *
              clear own hb r0 r1 r2 r3 c0 c1 c2 c3
              obtain ⟨r0, r1, r2, r3, c0, c1, c2, c3⟩ := HO.out Wq hbq
              go_wp2_with fail
              go_region_held3 (fun u => u.cell? ⟨w.heap.size, 0, none⟩ = some (.int .i64 rn) ∧ u.cell? ⟨w.heap.size, 1, none⟩ = some (.string rk) ∧ u.cell? ⟨w.heap.size, 2, none⟩ = some (.int .i64 ra) ∧ u.cell? ⟨w.heap.size, 3, none⟩ = some (.int .i64 rb) ∧ u.cell? ⟨b, o + k * 4, none⟩ = some (.int .i64 xn) ∧ u.cell? ⟨b, o + k * 4 + 1, none⟩ = some (.string xk) ∧ u.cell? ⟨b, o + k * 4 + 2, none⟩ = some (.int .i64 xa) ∧ u.cell? ⟨b, o + k * 4 + 3, none⟩ = some (.int .i64 xb)) (first | go_keep | exact HO.out _ hbq.drew | exact HO.out u2 b3) ((go_at_call 25; refine (HA1 Wq.drew).mono ?_; rintro e u2 ⟨rfl, b2⟩; have b3 : Below W0.heap.size W0 u2 := hbq.drew.trans (b2.mono hbq.size)))
              have ownU := row_keep ownq (show Below Wq.heap.size Wq u2 from ⟨b2.os, b2.tape, b2.output, b2.size, b2.block⟩)
              obtain ⟨q0, q1, q2, q3, q4, q5, q6, q7⟩ := HO.out _ b3
              clear ownq r0 r1 r2 r3 c0 c1 c2 c3 HA1 b2
              have hszu2 : W0.heap.size ≤ u2.heap.size := b3.size
              go_wp2_with (at_builtin; refine wpList_append_own _ rfl _ _ 22 rfl W0.heap.size 27 i0 (.agg #[.int .i64 0, .string ⟨#[]⟩, .int .i64 0, .int .i64 0]) 4 40 Tryz.underlying22 hi hz0 hz1 hz2 rfl (by decide) _ _ _ rfl (ownU.alloc _) ⟨u2.heap.size, 0, none⟩ 1 1 [.int .i64 rn, .string rk, .int .i64 ra, .int .i64 rb] rfl rfl (cell_four_new _ _ _ _ _ _) (by intro u' hu'; simp at hu'; rcases hu' with rfl | rfl | rfl | rfl <;> rfl) (by unfold maxLen; omega) (by omega) (by simp; omega) ?_)
              intro v2 U2 o2 g2 _
              refine Hid.out ?_
              refine Lib.hid ?_
              have B2 : Below W0.heap.size W0 U2 := fr_own (b3.alloc b3.size _) (by have := b3.size; simp; omega) g2 (ownU.alloc _)
              have p2 : U2.ownsRow W0.heap.size 27 4 v2 (ys ++ [(⟨rn, rk, ra, rb⟩ : Hd)]).length (hcells (ys ++ [(⟨rn, rk, ra, rb⟩ : Hd)])) := by rw [hcells_append, List.length_append]; exact o2
              clear q0 q1 q2 q3 q4 q5 q6 q7 o2 g2 ownU b3
              obtain ⟨q0, q1, q2, q3, q4, q5, q6, q7⟩ := HO.out _ B2
              have hyl2 : (ys ++ [(⟨rn, rk, ra, rb⟩ : Hd)]).length ≤ k + 1 := by simp; omega
              generalize hy2 : ys ++ [(⟨rn, rk, ra, rb⟩ : Hd)] = y2 at *
              have HY2 := Lib.hid hy2
              clear hy2 HO
              have hszU2 : W0.heap.size ≤ U2.heap.size := B2.size
              go_wp2_with (at_builtin; refine wpList_append_own _ rfl _ _ 22 rfl W0.heap.size 27 i0 (.agg #[.int .i64 0, .string ⟨#[]⟩, .int .i64 0, .int .i64 0]) 4 40 Tryz.underlying22 hi hz0 hz1 hz2 rfl (by decide) _ _ _ rfl (p2.alloc _) ⟨U2.heap.size, 0, none⟩ 1 1 [.int .i64 xn, .string xk, .int .i64 xa, .int .i64 xb] rfl rfl (cell_four_new _ _ _ _ _ _) (by intro u' hu'; simp at hu'; rcases hu' with rfl | rfl | rfl | rfl <;> rfl) (by unfold maxLen; omega) (by omega) (by simp; omega) ?_)
              intro v3 U3 o3 g3 _
              refine Hid.out ?_
              refine Lib.hid ?_
              have B3 : Below W0.heap.size W0 U3 := fr_own (B2.alloc B2.size _) (by have := B2.size; simp; omega) g3 (p2.alloc _)
              have p3 : U3.ownsRow W0.heap.size 27 4 v3 (y2 ++ [(⟨xn, xk, xa, xb⟩ : Hd)]).length (hcells (y2 ++ [(⟨xn, xk, xa, xb⟩ : Hd)])) := by rw [hcells_append, List.length_append]; exact o3
              clear o3 g3 p2
              go_wp2_with fail
              go_roundw
              case rel => exact ⟨k + 1, y2 ++ [(⟨xn, xk, xa, xb⟩ : Hd)], true, by omega, by go_num, rfl, p3, Lib.hid (by rw [HLr.out, ← HY2.out, ← HE.out]; simp), by simp; omega, by simp, B3⟩
              case measure => simp [intOf]; omega
          · rw [if_neg (fun e => hah e.2)] at hE2
            have HE := Lib.hid hE2
            rw [decide_eq_false hah] at HA1
            clear hE2 hah
            rcases hcase with hn1 | ⟨hn0, hn1⟩
            all_goals
              go_wp2_with fail
              go_quiet (fail)
              have hbq : Below W0.heap.size W0 (wr.drewN nq) := ⟨hb.os, hb.tape, hb.output, hb.size, hb.block⟩
              have ownq := row_keep own (show Below wr.heap.size wr (wr.drewN nq) from ⟨rfl, rfl, rfl, Nat.le_refl _, fun _ _ => rfl⟩)
              generalize wr.drewN nq = Wq at *
              clear own hb r0 r1 r2 r3 c0 c1 c2 c3
              obtain ⟨r0, r1, r2, r3, c0, c1, c2, c3⟩ := HO.out Wq hbq
              go_wp2_with fail
              go_region_held3 (fun u => u.cell? ⟨w.heap.size, 0, none⟩ = some (.int .i64 rn) ∧ u.cell? ⟨w.heap.size, 1, none⟩ = some (.string rk) ∧ u.cell? ⟨w.heap.size, 2, none⟩ = some (.int .i64 ra) ∧ u.cell? ⟨w.heap.size, 3, none⟩ = some (.int .i64 rb) ∧ u.cell? ⟨b, o + k * 4, none⟩ = some (.int .i64 xn) ∧ u.cell? ⟨b, o + k * 4 + 1, none⟩ = some (.string xk) ∧ u.cell? ⟨b, o + k * 4 + 2, none⟩ = some (.int .i64 xa) ∧ u.cell? ⟨b, o + k * 4 + 3, none⟩ = some (.int .i64 xb)) (first | go_keep | exact HO.out _ hbq.drew | exact HO.out u2 b3) ((go_at_call 25; refine (HA1 Wq.drew).mono ?_; rintro e u2 ⟨rfl, b2⟩; have b3 : Below W0.heap.size W0 u2 := hbq.drew.trans (b2.mono hbq.size)))
              have ownU := row_keep ownq (show Below Wq.heap.size Wq u2 from ⟨b2.os, b2.tape, b2.output, b2.size, b2.block⟩)
              obtain ⟨q0, q1, q2, q3, q4, q5, q6, q7⟩ := HO.out _ b3
              clear ownq r0 r1 r2 r3 c0 c1 c2 c3 HA1 b2
              clear HO
              have hszu2 : W0.heap.size ≤ u2.heap.size := b3.size
              go_wp2_with (at_builtin; refine wpList_append_own _ rfl _ _ 22 rfl W0.heap.size 27 i0 (.agg #[.int .i64 0, .string ⟨#[]⟩, .int .i64 0, .int .i64 0]) 4 40 Tryz.underlying22 hi hz0 hz1 hz2 rfl (by decide) _ _ _ rfl (ownU.alloc _) ⟨u2.heap.size, 0, none⟩ 1 1 [.int .i64 xn, .string xk, .int .i64 xa, .int .i64 xb] rfl rfl (cell_four_new _ _ _ _ _ _) (by intro u' hu'; simp at hu'; rcases hu' with rfl | rfl | rfl | rfl <;> rfl) (by unfold maxLen; omega) (by omega) (by simp; omega) ?_)
              intro v3 U3 o3 g3 _
              refine Hid.out ?_
              refine Lib.hid ?_
              have B3 : Below W0.heap.size W0 U3 := fr_own (b3.alloc b3.size _) (by have := b3.size; simp; omega) g3 (ownU.alloc _)
              have p3 : U3.ownsRow W0.heap.size 27 4 v3 (ys ++ [(⟨xn, xk, xa, xb⟩ : Hd)]).length (hcells (ys ++ [(⟨xn, xk, xa, xb⟩ : Hd)])) := by rw [hcells_append, List.length_append]; exact o3
              clear o3 g3 ownU
              go_wp2_with fail
              go_roundw
              case rel => exact ⟨k + 1, ys ++ [(⟨xn, xk, xa, xb⟩ : Hd)], false, by omega, by go_num, rfl, p3, Lib.hid (by rw [HLr.out, ← HE.out]; simp), by simp; omega, by intro _; simp; omega, B3⟩
              case measure => simp [intOf]; omega
    · have hkn : ¬ (k : Int) < L.length := by omega
      have hE2 := hE.out
      rw [List.drop_of_length_le (by omega), HPe.out] at hE2
      have hsw : W0.heap.size ≤ wr.heap.size := hb.size
      clear hE HP HSm HPe HA
      cases done with
      | true =>
        have hE3 : ys = Rs := by simpa using hE2
        subst hE3
        obtain ⟨A5, c5, rfl⟩ := row_slice own
        have C5 := (own_cs own (hcells_len ys)).1
        clear own hE2
        go_wp2_with fail
        go_ret
        exact ⟨A5, ⟨c5, rfl⟩, C5, hb0.trans (hb.mono (Nat.le_of_lt hz))⟩
      | false =>
        have hE3 : ys ++ [(⟨rn, rk, ra, rb⟩ : Hd)] = Rs := by simpa using hE2
        have HE3 := Lib.hid hE3
        clear hE2 hE3
        go_wp2_with (at_builtin; refine wpList_append_own _ rfl _ _ 22 rfl W0.heap.size 27 i0 (.agg #[.int .i64 0, .string ⟨#[]⟩, .int .i64 0, .int .i64 0]) 4 40 Tryz.underlying22 hi hz0 hz1 hz2 rfl (by decide) _ _ _ rfl (own.alloc _) ⟨wr.heap.size, 0, none⟩ 1 1 [.int .i64 rn, .string rk, .int .i64 ra, .int .i64 rb] rfl rfl (cell_four_new _ _ _ _ _ _) (by intro u' hu'; simp at hu'; rcases hu' with rfl | rfl | rfl | rfl <;> rfl) (by unfold maxLen; omega) (by omega) (by simp; omega) ?_)
        intro v2 U2 o2 g2 _
        refine Hid.out ?_
        refine Lib.hid ?_
        have B2 : Below W0.heap.size W0 U2 := fr_own (hb.alloc hsw _) (by simp; omega) g2 (own.alloc _)
        have p2 : U2.ownsRow W0.heap.size 27 4 v2 (ys ++ [(⟨rn, rk, ra, rb⟩ : Hd)]).length (hcells (ys ++ [(⟨rn, rk, ra, rb⟩ : Hd)])) := by rw [hcells_append, List.length_append]; exact o2
        rw [HE3.out] at p2
        obtain ⟨A5, c5, rfl⟩ := row_slice p2
        have C5 := (own_cs p2 (hcells_len Rs)).1
        clear o2 g2 own p2
        go_wp2_with fail
        go_ret
        exact ⟨A5, c5, rfl, C5, hb0.trans (B2.mono (Nat.le_of_lt hz))⟩
end Go.Proofs.YtbppiiomjmpjkabGreatDoor

/- KeyedPlays: the walk. -/
namespace Go.Proofs.YtbppiiomjmpjkabGreatDoor
open Go.RowKit Go.Shelf
set_option linter.unusedVariables false

theorem new_ex (w : World) : ∃ R M, w.heap.size ≤ M ∧ w.heap.size ≤ R ∧ Calls Tryz.prog 5 #[] w fun e w' => e = .returned (.pointer (some ⟨R, 0, none⟩)) ∧ KyAt w' R M [] ∧ Below w.heap.size w w' := ⟨_, _, Nat.le_refl _, by omega, new_any w⟩
theorem error_yes (n : Nat) (w : World) (hg : w.cell? ⟨0, 0, none⟩ = some ET) : Calls Tryz.prog 7 #[errV n, .int .i64 n] w fun e w' => e = .returned (.bool true) ∧ Below w.heap.size w w' := by
  unfold errV
  split
  · rename_i h
    subst h
    refine (error_nil w).mono ?_
    rintro e w' ⟨h1, h2⟩
    subst h2
    exact ⟨h1, Below.refl _ _⟩
  · exact (error_hit n w hg).mono fun e w' h => h
theorem putP_good {S : List Hd} (h : GoodL S) {r : Hd} (hb : badHd r = false) (ho : OkHd r) (hl : S.length < 400) : GoodL (putP S r) := by
  refine ⟨?_, fun x hx => ?_, putP_ris h.2.2 r⟩
  · have := putP_len h.2.2 r
    split at this <;> omega
  · rcases (mem_putP S r x).1 hx with rfl | ⟨h1, -⟩
    · exact ⟨hb, ho⟩
    · exact h.2.1 x h1
theorem delP_good {S : List Hd} (h : GoodL S) (n : Int) (k : ByteArray) : GoodL (delP S n k) := h.filter _
theorem plc_put {S : List Hd} (h : RisH S) (r : Hd) : plc r false S = putP S r := plc_false h
theorem below_dr {w u4 u : World} (B4 : Below w.heap.size w u4) (hu : Below u4.drew.heap.size u4.drew u) : Below w.heap.size w u := B4.trans ((show Below u4.heap.size u4 u from ⟨hu.os, hu.tape, hu.output, hu.size, hu.block⟩).mono B4.size)
theorem conv_nil (w : World) : (convert 39 9 (.slice none 0 0)).run Tryz.prog w = .ok (.string ⟨#[]⟩) w := BsAt.convert (p := none) (l := []) (.inl rfl) 0 0 rfl
theorem take_find (T : List Hd) (n : Int) (k : ByteArray) (j : Nat) (h : j < T.length) : (findH (T.take (j + 1)) n k).isSome = ((findH (T.take j) n k).isSome || isAt n k T[j]) := by
  unfold findH
  rw [List.take_succ_eq_append_getElem h, List.find?_append]
  cases hf : (T.take j).find? (isAt n k) with
  | some x => simp
  | none =>
    cases hi : isAt n k T[j] <;> simp [hi]
end Go.Proofs.YtbppiiomjmpjkabGreatDoor
