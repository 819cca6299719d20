/- Nodes gathered by Parse. -/
import Derived.Test.YthadeccnibnioaaGreatDoorYh
import Derived.Test.YthadeccnibnioaaGreatDoorHp
import Derived.Test.YthadeccnibnioaaGreatDoorJf
namespace Go.Proofs.YthadeccnibnioaaGreatDoor
open Go.RowKit Go.Shelf
set_option linter.unusedVariables false
theorem Tryz.infoNode : (Tryz.prog.info? 52).map (fun i => (i.zero, i.size, i.bytes)) = some (some (.agg #[.int .i64 0, .slice none 0 0, .string ⟨#[]⟩, .int .i64 0]), 4, 56) := by kernel_rfl
abbrev Px := Nd × Option Addr × Nat
def ndC (x : Px) : List Value := [.int .i64 x.1.k, .slice x.2.1 x.1.fs.length x.2.2, .string x.1.tx, .int .i64 x.1.n]
theorem ndC_len : ∀ X : List Px, (X.flatMap ndC).length = X.length * 4
  | [] => rfl
  | x :: X => by rw [List.flatMap_cons, List.length_append, ndC_len X]; simp [ndC]; omega
theorem ndC_at : ∀ (X : List Px) (i : Nat) (h : i < X.length) (j : Nat), j < 4 → (X.flatMap ndC)[i * 4 + j]? = (ndC X[i])[j]?
  | [], i, h, _, _ => by simp at h
  | x :: X, 0, h, j, hj => by
    rw [List.flatMap_cons, List.getElem?_append_left (by simp [ndC]; omega)]
    simp
  | x :: X, i + 1, h, j, hj => by
    have e : (ndC x).length = 4 := rfl
    rw [List.flatMap_cons, List.getElem?_append_right (by rw [e]; omega), e, show (i + 1) * 4 + j - 4 = i * 4 + j from by omega]
    exact ndC_at X i (by simpa using h) j hj
theorem cell_four_new (w : World) (a b c d : Value) (t : TypeId) : ∀ j u, [a, b, c, d][j]? = some u → (w.alloc (.cells #[a, b, c, d] t)).cell? ((⟨w.heap.size, 0, none⟩ : Addr).add j) = some u := by
  intro j u hj
  match j, hj with
  | 0, hj => simp at hj; subst hj; simp [Addr.add]
  | 1, hj => simp at hj; subst hj; simp [Addr.add]
  | 2, hj => simp at hj; subst hj; simp [Addr.add]
  | 3, hj => simp at hj; subst hj; simp [Addr.add]
/-- What Parse holds while it reads: three results, and the nodes so far. -/
structure PaAt (w : World) (X : List Px) (A : Option Addr) (cap : Nat) (W : World) : Prop where
  below : Below w.heap.size w W
  size : w.heap.size + 5 ≤ W.heap.size
  r0 : W.heap[w.heap.size]? = some (.cells #[.slice none 0 0] 38 (0, 0))
  r1 : W.heap[w.heap.size + 1]? = some (.cells #[.int .i64 0] 3 (0, 0))
  r2 : W.heap[w.heap.size + 2]? = some (.cells #[.nilIface] 28 (0, 0))
  lb : W.heap[w.heap.size + 3]? = some (.cells #[.slice A X.length cap] 38 (0, 0))
  row : W.ownsRow (w.heap.size + 5) 52 4 (.slice A X.length cap) X.length (X.flatMap ndC)
  fs : ∀ x ∈ X, W.ownsRow (w.heap.size + 5) 3 1 (.slice x.2.1 x.1.fs.length x.2.2) x.1.fs.length (iv x.1.fs)
  sz : ∀ x ∈ X, x.1.tx.size ≤ 100000000 ∧ x.1.fs.length ≤ 100000000
theorem row_block {w : World} {base e size n : Nat} {v : Value} {xs : List Value} (h : w.ownsRow base e size v n xs) {g : Nat} (hg : v.ownBlock = some g) : ∃ cur, w.heap[g]? = some (.cells cur e (0, 0)) := by
  rcases h.2 with ⟨h0, -⟩ | ⟨g', cap', cur, h0, hb, hc, -⟩
  · rw [h0] at hg; simp [Value.ownBlock] at hg
  · rw [h0] at hg; simp [Value.ownBlock] at hg; subst hg; exact ⟨cur, hc⟩
/-- It stays where all blocks of cells stay. -/
theorem PaAt.blocks {w W W' : World} {X : List Px} {A : Option Addr} {cap : Nat} (h : PaAt w X A cap W) (hb : Below w.heap.size w W') (hs : W.heap.size ≤ W'.heap.size) (hk : ∀ (k : Nat) (cur : Array Value) (e : TypeId) (f : Nat × Nat), W.heap[k]? = some (.cells cur e f) → W'.heap[k]? = some (.cells cur e f)) : PaAt w X A cap W' where
  below := hb
  size := Nat.le_trans h.size hs
  r0 := hk _ _ _ _ h.r0
  r1 := hk _ _ _ _ h.r1
  r2 := hk _ _ _ _ h.r2
  lb := hk _ _ _ _ h.lb
  row := ownsRow_of_block h.row (fun g hg => by obtain ⟨cur, hc⟩ := row_block h.row hg; rw [hk _ _ _ _ hc, hc])
  fs := fun x hx => ownsRow_of_block (h.fs x hx) (fun g hg => by obtain ⟨cur, hc⟩ := row_block (h.fs x hx) hg; rw [hk _ _ _ _ hc, hc])
  sz := h.sz
theorem PaAt.call {w W W' : World} {X : List Px} {A : Option Addr} {cap : Nat} (h : PaAt w X A cap W) (hb : Below W.heap.size W W') : PaAt w X A cap W' :=
  h.blocks (h.below.trans (hb.mono h.below.size)) hb.size (fun k cur e f hk => by rw [hb.block k (Array.getElem?_eq_some_iff.1 hk).1]; exact hk)
theorem rows_nodes {W : World} {B : Nat} {X : List Px} {A : Option Addr} {cap : Nat} (hrow : W.ownsRow B 52 4 (.slice A X.length cap) X.length (X.flatMap ndC)) (hfs : ∀ x ∈ X, W.ownsRow B 3 1 (.slice x.2.1 x.1.fs.length x.2.2) x.1.fs.length (iv x.1.fs)) (hsz : ∀ x ∈ X, x.1.tx.size ≤ 100000000 ∧ x.1.fs.length ≤ 100000000) : NdsAt W A (X.map (·.1)) ∧ X.length ≤ cap := by
  rcases hrow.2 with ⟨h0, h1⟩ | ⟨g, cap', cur, h0, hb, hg, hle, hm, hs, ht⟩
  · exact ⟨.inl (by rw [List.length_eq_zero_iff.1 h1]; rfl), by omega⟩
  · simp at h0
    obtain ⟨rfl, rfl⟩ := h0
    refine ⟨?_, hle⟩
    by_cases hn : X = []
    · exact .inl (by rw [hn]; rfl)
    refine .inr ⟨g, 0, rfl, fun i hi => ?_⟩
    have hi' : i < X.length := by simpa using hi
    have hc : ∀ j, j < 4 → W.cell? ⟨g, i * 4 + j, none⟩ = (ndC X[i])[j]? := fun j hj => by
      rw [hrow.cellAt (i * 4 + j) (by omega), ndC_at X i hi' j hj]
    have hfs := hfs X[i] (List.getElem_mem hi')
    have hsz := hsz X[i] (List.getElem_mem hi')
    have e : (X.map (·.1))[i] = X[i].1 := by simp
    rw [e, Nat.zero_add]
    refine ⟨hc 0 (by omega), ⟨X[i].2.1, X[i].2.2, hc 1 (by omega), (own_ints hfs rfl).1⟩, hc 2 (by omega), hc 3 (by omega), by omega, by omega⟩
theorem PaAt.nodes {w W : World} {X : List Px} {A : Option Addr} {cap : Nat} (h : PaAt w X A cap W) : NdsAt W A (X.map (·.1)) ∧ X.length ≤ cap := rows_nodes h.row h.fs h.sz
theorem PaAt.later {w W W' : World} {X : List Px} {A : Option Addr} {cap : Nat} (h : PaAt w X A cap W) (hk : ∀ (k : Nat) (cur : Array Value) (e : TypeId) (f : Nat × Nat), w.heap.size + 5 ≤ k → W.heap[k]? = some (.cells cur e f) → W'.heap[k]? = some (.cells cur e f)) : NdsAt W' A (X.map (·.1)) :=
  (rows_nodes (ownsRow_of_block h.row (fun g hg => by obtain ⟨cur, hc⟩ := row_block h.row hg; rw [hk _ _ _ _ (h.row.lt g hg).1 hc, hc])) (fun x hx => ownsRow_of_block (h.fs x hx) (fun g hg => by obtain ⟨cur, hc⟩ := row_block (h.fs x hx) hg; rw [hk _ _ _ _ ((h.fs x hx).lt g hg).1 hc, hc])) h.sz).1
/-- One node more. -/
theorem PaAt.snoc {w u w3 : World} {X : List Px} {A A' : Option Addr} {cap cap' : Nat} (h : PaAt w X A cap u) {x : Px} (hnd : u.ownsRow (w.heap.size + 5) 3 1 (.slice x.2.1 x.1.fs.length x.2.2) x.1.fs.length (iv x.1.fs)) (hsz : x.1.tx.size ≤ 100000000 ∧ x.1.fs.length ≤ 100000000) {o : Obj}
    (hgrow : (u.alloc o).grownBy w3 (Value.slice A X.length cap).ownBlock) (hown' : w3.ownsRow (w.heap.size + 5) 52 4 (.slice A' (X.length + 1) cap') (X.length + 1) (X.flatMap ndC ++ ndC x)) :
    w3.cell? ⟨w.heap.size + 3, 0, none⟩ = some (.slice A X.length cap) ∧ w3.frozen? ⟨w.heap.size + 3, 0, none⟩ = false ∧ w.heap.size + 3 < w3.heap.size ∧ PaAt w (X ++ [x]) A' cap' (w3.setCell ⟨w.heap.size + 3, 0, none⟩ (.slice A' (X.length + 1) cap')) ∧
    KeepsFrom (w.heap.size + 5) u (w3.setCell ⟨w.heap.size + 3, 0, none⟩ (.slice A' (X.length + 1) cap')) := by
  have hz := h.size
  have hA : ∀ k, k < u.heap.size → (u.alloc o).heap[k]? = u.heap[k]? := fun k hk => ((Below.refl _ _).alloc (Nat.le_refl _) o).block k hk
  have hrb : ∀ b, (Value.slice A X.length cap).ownBlock = some b → w.heap.size + 5 ≤ b ∧ ∃ cur, u.heap[b]? = some (.cells cur 52 (0, 0)) := fun b hb => ⟨(h.row.lt b hb).1, row_block h.row hb⟩
  have hbk : ∀ k, k < u.heap.size → (Value.slice A X.length cap).ownBlock ≠ some k → w3.heap[k]? = u.heap[k]? := fun k hk hn => (hgrow.block k (by simp; omega) (fun e => hn e.symm)).trans (hA k hk)
  have hlow : ∀ k, k < w.heap.size + 5 → w3.heap[k]? = u.heap[k]? := fun k hk => hbk k (by omega) (fun e => by have := (hrb k e).1; omega)
  have hlb := (hlow (w.heap.size + 3) (by omega)).trans h.lb
  have hset : ∀ k, k ≠ w.heap.size + 3 → (w3.setCell ⟨w.heap.size + 3, 0, none⟩ (.slice A' (X.length + 1) cap')).heap[k]? = w3.heap[k]? := fun k hk => Below.heap_setCell _ _ _ _ hk
  have hs3 : (u.alloc o).heap.size ≤ w3.heap.size := hgrow.size
  have hs4 : u.heap.size + 1 ≤ w3.heap.size := by simpa using hs3
  have hint : ∀ (y : Px), u.ownsRow (w.heap.size + 5) 3 1 (.slice y.2.1 y.1.fs.length y.2.2) y.1.fs.length (iv y.1.fs) → (w3.setCell ⟨w.heap.size + 3, 0, none⟩ (.slice A' (X.length + 1) cap')).ownsRow (w.heap.size + 5) 3 1 (.slice y.2.1 y.1.fs.length y.2.2) y.1.fs.length (iv y.1.fs) := fun y hy => by
    refine ownsRow_of_block hy (fun g hg => ?_)
    obtain ⟨cur, hc⟩ := row_block hy hg
    have hlt := hy.lt g hg
    rw [hset g (by omega)]
    refine hbk g hlt.2 (fun e => ?_)
    obtain ⟨-, cur2, hc2⟩ := hrb g e
    rw [hc] at hc2
    injection hc2 with hc2; injection hc2 with _ hc2
    revert hc2; decide
  have hb3 : Below w.heap.size w w3 := (h.below.alloc (by omega) o).grown hgrow (by simp; omega) (fun k hk => by have := (hrb k hk).1; omega)
  refine ⟨by simp [World.cell?, hlb], by simp [World.frozen?, hlb], by omega, ⟨hb3.setCell (by simp) _, ?_, ?_, ?_, ?_, ?_, ?_, ?_, ?_⟩, ⟨?_, ?_⟩⟩
  · simp; omega
  · rw [hset _ (by omega), hlow _ (by omega)]; exact h.r0
  · rw [hset _ (by omega), hlow _ (by omega)]; exact h.r1
  · rw [hset _ (by omega), hlow _ (by omega)]; exact h.r2
  · rw [List.length_append]
    simp [World.setCell, Array.getElem?_modify, hlb]
  · rw [List.length_append, List.flatMap_append]
    have e : [x].flatMap ndC = ndC x := by simp
    rw [e]
    exact ownsRow_setCell_below hown' (by simp) _
  · intro y hy
    rcases List.mem_append.1 hy with hy | hy
    · exact hint y (h.fs y hy)
    · simp at hy; subst hy; exact hint y hnd
  · intro y hy
    rcases List.mem_append.1 hy with hy | hy
    · exact h.sz y hy
    · simp at hy; subst hy; exact hsz
  · simp; omega
  · intro k ob hk1 hk2 hk3
    have hlt : k < u.heap.size := (Array.getElem?_eq_some_iff.1 hk2).1
    rw [hset k (by omega), hbk k hlt (fun e => by
      obtain ⟨-, cur, hc⟩ := hrb k e
      rw [hc] at hk2; injection hk2 with hk2; subst hk2; cases hk3)]
    exact hk2
theorem PaAt.cells {w u : World} {X : List Px} {A : Option Addr} {cap : Nat} (h : PaAt w X A cap u) : (u.cell? ⟨w.heap.size, 0, none⟩ = some (.slice none 0 0) ∧ u.cell? ⟨w.heap.size + 1, 0, none⟩ = some (.int .i64 0) ∧ u.cell? ⟨w.heap.size + 2, 0, none⟩ = some .nilIface ∧ u.cell? ⟨w.heap.size + 3, 0, none⟩ = some (.slice A X.length cap)) ∧
    (u.frozen? ⟨w.heap.size, 0, none⟩ = false ∧ u.frozen? ⟨w.heap.size + 1, 0, none⟩ = false ∧ u.frozen? ⟨w.heap.size + 2, 0, none⟩ = false ∧ u.frozen? ⟨w.heap.size + 3, 0, none⟩ = false) := by
  have h0 := h.r0; have h1 := h.r1; have h2 := h.r2; have h3 := h.lb
  simp [World.cell?, World.frozen?, h0, h1, h2, h3]
end Go.Proofs.YthadeccnibnioaaGreatDoor
