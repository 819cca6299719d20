/- A sink in memory. -/
import Derived.Test.YtaicaeokljdjdaaDoorChecked
import Derived.Test.YtaicaeokljdjdaaDoorPureSk
import Derived.Test.YtaicaeokljdjdaaDoorPureRw
import Derived.Test.YtaicaeokljdjdaaDoorShelf
import Derived.WalkKit
import Derived.ProofKit
import Derived.OpenShut
import Derived.Deep.QuietTactic
import Derived.BigQuiet
import Derived.Lib.Slices
import Derived.Lib.Hide
import Derived.Lib.SliceRun
import Derived.SizedLaws
import Derived.OwnWalk
import Derived.BigCall
import Derived.Deep.RegionWith
import Derived.Deep.RegionLaw
import Derived.Deep.RegionHeld3
import Derived.Laws.IdiomCopy
namespace Go.Proofs.YtaicaeokljdjdaaDoor
open Go.ChangeShapes Go.WideShapes Go.RowKit
set_option linter.unusedVariables false

theorem some_lt {w : World} {k : Nat} {o : Obj} (h : w.heap[k]? = some o) : k < w.heap.size := (Array.getElem?_eq_some_iff.1 h).1
theorem cell_lt {w : World} {b o : Nat} {v : Value} (h : w.cell? ⟨b, o, none⟩ = some v) : b < w.heap.size := World.block_lt_of_cell? w _ h
structure Rg where
  key : ByteArray
  num : Int
  tm : Int
def rcell (r : Rg) : List Value := [.string r.key, .int .i64 r.num, .int .i64 r.tm]
def rcells : List Rg → List Value
  | [] => []
  | r :: l => rcell r ++ rcells l
theorem rcells_len : ∀ l : List Rg, (rcells l).length = l.length * 3
  | [] => rfl
  | r :: l => by rw [rcells, List.length_append, rcells_len l, List.length_cons]; simp only [rcell, List.length_cons, List.length_nil]; omega
theorem rcells_append : ∀ a b : List Rg, rcells (a ++ b) = rcells a ++ rcells b
  | [], b => rfl
  | x :: a, b => by rw [List.cons_append, rcells, rcells, rcells_append a b, List.append_assoc]
theorem rcell_one (x : Rg) : ∀ u ∈ rcell x, u.oneCell' = true := by
  intro u hu; simp [rcell] at hu; rcases hu with rfl | rfl | rfl <;> rfl
theorem rcells_one : ∀ l : List Rg, ∀ u ∈ rcells l, u.oneCell' = true
  | [], u, hu => by simp [rcells] at hu
  | x :: l, u, hu => by
    rw [rcells, List.mem_append] at hu
    rcases hu with h | h
    · exact rcell_one x u h
    · exact rcells_one l u h
theorem rcells_at : ∀ (l : List Rg) (i : Nat) (h : i < l.length), (rcells l)[i * 3]? = some (.string l[i].key) ∧ (rcells l)[i * 3 + 1]? = some (.int .i64 l[i].num) ∧ (rcells l)[i * 3 + 2]? = some (.int .i64 l[i].tm)
  | [], i, h => by simp at h
  | r :: l, 0, _ => by simp [rcells, rcell]
  | r :: l, i + 1, h => by
    have := rcells_at l i (by simpa using h)
    rw [show (i + 1) * 3 = i * 3 + 3 from by omega]
    simpa [rcells, rcell] using this
def rV (r : Rg) : Value := .agg #[.string r.key, .int .i64 r.num, .int .i64 r.tm]
def tcells : List (Int × Value) → List Value
  | [] => []
  | t :: l => .int .i64 t.1 :: t.2 :: tcells l
theorem tcells_len : ∀ l : List (Int × Value), (tcells l).length = l.length * 2
  | [] => rfl
  | r :: l => by rw [tcells, List.length_cons, List.length_cons, tcells_len l, List.length_cons]; omega
theorem tcells_append : ∀ a b : List (Int × Value), tcells (a ++ b) = tcells a ++ tcells b
  | [], b => rfl
  | x :: a, b => by rw [List.cons_append, tcells, tcells, tcells_append a b]; rfl
theorem tcells_at : ∀ (l : List (Int × Value)) (i : Nat) (h : i < l.length), (tcells l)[i * 2]? = some (.int .i64 l[i].1) ∧ (tcells l)[i * 2 + 1]? = some l[i].2
  | [], i, h => by simp at h
  | r :: l, 0, _ => by simp [tcells]
  | r :: l, i + 1, h => by
    have := tcells_at l i (by simpa using h)
    rw [show (i + 1) * 2 = i * 2 + 2 from by omega]
    simpa [tcells] using this

/-- What stays but for blocks of F, and new ones. -/
structure Frm (F : Nat → Prop) (w w' : World) : Prop where
  os : w'.os = w.os
  tape : w'.tape = w.tape
  output : w'.output = w.output
  size : w.heap.size ≤ w'.heap.size
  block : ∀ k, k < w.heap.size → ¬ F k → w'.heap[k]? = w.heap[k]?
theorem Frm.refl (F : Nat → Prop) (w : World) : Frm F w w := ⟨rfl, rfl, rfl, Nat.le_refl _, fun _ _ _ => rfl⟩
theorem Frm.trans {F F' : Nat → Prop} {a b c : World} (h : Frm F a b) (k : Frm F' b c) (hF : ∀ i, F' i → F i ∨ a.heap.size ≤ i) : Frm F a c :=
  ⟨k.os.trans h.os, k.tape.trans h.tape, k.output.trans h.output, Nat.le_trans h.size k.size, fun i hi hn => (k.block i (Nat.lt_of_lt_of_le hi h.size) (fun e => by rcases hF i e with h' | h'; exact hn h'; omega)).trans (h.block i hi hn)⟩
theorem Frm.below {F : Nat → Prop} {w w' : World} (h : Below w.heap.size w w') : Frm F w w' := ⟨h.os, h.tape, h.output, h.size, fun k hk _ => h.block k hk⟩
theorem Frm.toBelow {F : Nat → Prop} {w w' : World} {lo : Nat} (h : Frm F w w') (hF : ∀ k, F k → lo ≤ k) (hl : lo ≤ w.heap.size) : Below lo w w' := ⟨h.os, h.tape, h.output, h.size, fun k hk => h.block k (by omega) (fun e => by have := hF k e; omega)⟩
theorem Frm.grown {F : Nat → Prop} {w w' : World} {row : Option Nat} (h : w.grownBy w' row) (hr : ∀ k, row = some k → F k) : Frm F w w' := ⟨h.os, h.tape, h.output, h.size, fun k hk hn => h.block k hk (fun e => hn (hr k e.symm))⟩
theorem Frm.setCell {F : Nat → Prop} {w : World} {p : Addr} (hp : F p.block) (v : Value) : Frm F w (w.setCell p v) :=
  ⟨rfl, rfl, rfl, by simp, fun k hk hn => Below.heap_setCell _ _ _ _ (fun e => hn (e ▸ hp))⟩
def NeB (u v : Value) : Prop := ∀ b, u.ownBlock = some b → v.ownBlock ≠ some b
theorem NeB.symm {u v : Value} (h : NeB u v) : NeB v u := fun b h1 h2 => h b h2 h1
abbrev RcAt (w : World) (v : Value) (l : List Rg) : Prop := RwAt w 30 3 v l.length (rcells l)
structure SkB (w : World) (B : Nat) (F : Nat → Prop) (vw vs vo : Value) (tv : List (Int × Value)) (s : Sk Rg) : Prop where
  blk : w.heap[B]? = some (.cells #[vw, vs, vo, .int .i64 s.la] 46 (0, 0))
  wr : RcAt w vw s.wr
  op : RcAt w vo s.op
  sl : RwAt w 51 2 vs tv.length (tcells tv)
  tr : Fa2 (fun (t : Int × Value) (p : Int × List Rg) => t.1 = p.1 ∧ RcAt w t.2 p.2) tv s.sl
  ne : (vw :: vo :: tv.map Prod.snd).Pairwise NeB
  fB : F B
  fv : ∀ v ∈ vs :: vw :: vo :: tv.map Prod.snd, ∀ b, v.ownBlock = some b → F b
  flt : ∀ k, F k → k < w.heap.size
def SkAt (w : World) (B : Nat) (F : Nat → Prop) (s : Sk Rg) : Prop := ∃ vw vs vo tv, SkB w B F vw vs vo tv s
theorem fa_mem {α β : Type} {R : α → β → Prop} {a : List α} {b : List β} (h : Fa2 R a b) : ∀ x ∈ a, ∃ y ∈ b, R x y := by
  induction h with
  | nil => intro x hx; cases hx
  | cons h1 _ ih =>
    intro x hx
    rcases List.mem_cons.1 hx with rfl | hx
    · exact ⟨_, by simp, h1⟩
    · obtain ⟨y, hy, h⟩ := ih x hx
      exact ⟨y, by simp [hy], h⟩
theorem fa_map {α β : Type} {R S : α → β → Prop} {a : List α} {b : List β} (h : Fa2 R a b) (hs : ∀ x y, x ∈ a → R x y → S x y) : Fa2 S a b := by
  induction h with
  | nil => exact .nil
  | cons h1 _ ih => exact .cons (hs _ _ (by simp) h1) (ih (fun x y hx => hs x y (by simp [hx])))
theorem fa_len {α β : Type} {R : α → β → Prop} {a : List α} {b : List β} (h : Fa2 R a b) : a.length = b.length := by
  induction h with
  | nil => rfl
  | cons _ _ ih => simp [ih]
theorem fa_append {α β : Type} {R : α → β → Prop} {a c : List α} {b d : List β} (h : Fa2 R a b) (h' : Fa2 R c d) : Fa2 R (a ++ c) (b ++ d) := by
  induction h with
  | nil => exact h'
  | cons h1 _ ih => exact .cons h1 ih
section
variable {w w' : World} {B : Nat} {F : Nat → Prop} {vw vs vo : Value} {tv : List (Int × Value)} {s : Sk Rg}
theorem SkB.row (h : SkB w B F vw vs vo tv s) {v : Value} (hv : v ∈ vw :: vo :: tv.map Prod.snd) : ∃ l, RcAt w v l := by
  rcases List.mem_cons.1 hv with rfl | hv
  · exact ⟨_, h.wr⟩
  rcases List.mem_cons.1 hv with rfl | hv
  · exact ⟨_, h.op⟩
  obtain ⟨t, ht, rfl⟩ := List.mem_map.1 hv
  obtain ⟨p, -, -, h2⟩ := fa_mem h.tr t ht
  exact ⟨_, h2⟩
/-- No row of records is the sink's block, nor the row of transactions. -/
theorem SkB.far (h : SkB w B F vw vs vo tv s) {v : Value} (hv : v ∈ vw :: vo :: tv.map Prod.snd) {b : Nat} (hb : v.ownBlock = some b) : b ≠ B ∧ vs.ownBlock ≠ some b := by
  obtain ⟨l, hl⟩ := h.row hv
  obtain ⟨-, cur, hc⟩ := hl.lt hb
  constructor
  · rintro rfl; have := h.blk; rw [hc] at this; simp at this
  · intro e
    obtain ⟨-, cur', hc'⟩ := h.sl.lt e
    rw [hc] at hc'; simp at hc'
theorem SkB.farS (h : SkB w B F vw vs vo tv s) {b : Nat} (hb : vs.ownBlock = some b) : b ≠ B := by
  obtain ⟨-, cur, hc⟩ := h.sl.lt hb
  rintro rfl; have := h.blk; rw [hc] at this; simp at this
theorem SkB.stays (h : SkB w B F vw vs vo tv s) (hk : ∀ k, F k → w'.heap[k]? = w.heap[k]?) (hs : w.heap.size ≤ w'.heap.size) : SkB w' B F vw vs vo tv s := by
  have hr : ∀ v ∈ vs :: vw :: vo :: tv.map Prod.snd, ∀ b, v.ownBlock = some b → w'.heap[b]? = w.heap[b]? := fun v hv b hb => hk b (h.fv v hv b hb)
  refine ⟨(hk B h.fB).trans h.blk, h.wr.block (hr vw (by simp)), h.op.block (hr vo (by simp)), h.sl.block (hr vs (by simp)), fa_map h.tr (fun t p ht hp => ⟨hp.1, hp.2.block (hr t.2 (by simp; exact .inr (.inr (.inr ⟨t.1, by simpa using ht⟩))))⟩), h.ne, h.fB, h.fv, fun k hk' => Nat.lt_of_lt_of_le (h.flt k hk') hs⟩
theorem SkB.keep (h : SkB w B F vw vs vo tv s) (hb : Below w.heap.size w w') : SkB w' B F vw vs vo tv s := h.stays (fun k hk => hb.block k (h.flt k hk)) hb.size
theorem SkB.c0 (h : SkB w B F vw vs vo tv s) : w.cell? ⟨B, 0, none⟩ = some vw := by simp [World.cell?, h.blk]
theorem SkB.c1 (h : SkB w B F vw vs vo tv s) : w.cell? ⟨B, 1, none⟩ = some vs := by simp [World.cell?, h.blk]
theorem SkB.c2 (h : SkB w B F vw vs vo tv s) : w.cell? ⟨B, 2, none⟩ = some vo := by simp [World.cell?, h.blk]
theorem SkB.c3 (h : SkB w B F vw vs vo tv s) : w.cell? ⟨B, 3, none⟩ = some (.int .i64 s.la) := by simp [World.cell?, h.blk]
theorem SkB.fz (h : SkB w B F vw vs vo tv s) (o : Nat) : w.frozen? ⟨B, o, none⟩ = false := by simp [World.frozen?, h.blk]
theorem SkB.ltB (h : SkB w B F vw vs vo tv s) : B < w.heap.size := some_lt h.blk
theorem neb_nil (v : Value) : NeB v (.slice none 0 0) := fun b _ h => by simp [Value.ownBlock] at h
theorem nil_neb (v : Value) : NeB (.slice none 0 0) v := fun b h => by simp [Value.ownBlock] at h
/-- F, and what is new. -/
def Fn (F : Nat → Prop) (w w' : World) (k : Nat) : Prop := F k ∨ (w.heap.size ≤ k ∧ k < w'.heap.size)
/-- The open one, anew. -/
theorem SkB.setOp (h : SkB w B F vw vs vo tv s) {w1 : World} {vo' : Value} {l' : List Rg} (hg : w.grownBy w1 vo.ownBlock) (hv : RcAt w1 vo' l') (hat : ∀ b, vo'.ownBlock = some b → vo.ownBlock = some b ∨ w.heap.size ≤ b) :
    SkB (w1.setCell ⟨B, 2, none⟩ vo') B (Fn F w w1) vw vs vo' tv { s with op := l' } ∧ Frm F w (w1.setCell ⟨B, 2, none⟩ vo') := by
  have hB : w1.heap[B]? = w.heap[B]? := hg.block B h.ltB (fun e => (h.far (v := vo) (by simp) e.symm).1 rfl)
  have hB1 := hB.trans h.blk
  have hvB : ∀ b, vo'.ownBlock = some b → b ≠ B := fun b hb => by
    rcases hat b hb with e | e
    · exact (h.far (v := vo) (by simp) e).1
    · have := h.ltB; omega
  obtain ⟨n1, n2⟩ := List.pairwise_cons.1 h.ne
  obtain ⟨n3, n4⟩ := List.pairwise_cons.1 n2
  have hoth : ∀ v, v ∈ vs :: vw :: tv.map Prod.snd → ∀ b, v.ownBlock = some b → (w1.setCell ⟨B, 2, none⟩ vo').heap[b]? = w.heap[b]? := fun v hv b hb => by
    have hbB : b ≠ B := by
      rcases List.mem_cons.1 hv with rfl | hv
      · exact h.farS hb
      · rcases List.mem_cons.1 hv with rfl | hv
        · exact (h.far (by simp) hb).1
        · exact (h.far (v := v) (by simp only [List.mem_cons]; exact .inr (.inr hv)) hb).1
    rw [Below.heap_setCell _ _ _ _ hbB]
    refine hg.block b (h.flt b (h.fv v (by simp only [List.mem_cons] at hv ⊢; rcases hv with h | h | h; exact .inl h; exact .inr (.inl h); exact .inr (.inr (.inr h))) b hb)) (fun e => ?_)
    rcases List.mem_cons.1 hv with rfl | hv
    · exact (h.far (v := vo) (by simp) e.symm).2 hb
    · rcases List.mem_cons.1 hv with rfl | hv
      · exact n1 vo (by simp) b hb e.symm
      · exact n3 v hv b e.symm hb
  refine ⟨⟨?_, h.wr.block (hoth vw (by simp)), ?_, h.sl.block (hoth vs (by simp)), fa_map h.tr (fun t p ht hp => ⟨hp.1, hp.2.block (hoth t.2 (by simp only [List.mem_cons]; exact .inr (.inr (List.mem_map_of_mem ht))))⟩), ?_, .inl h.fB, ?_, ?_⟩, ?_⟩
  · rw [heap_setCell_same w1 B 2 _ _ _ hB1]; rfl
  · exact hv.block (fun b hb => Below.heap_setCell _ _ _ _ (hvB b hb))
  · have hnew : ∀ v, v ∈ vw :: tv.map Prod.snd → NeB vo' v := fun v hv b hb hvb => by
      rcases hat b hb with e | e
      · rcases List.mem_cons.1 hv with rfl | hv
        · exact n1 vo (by simp) b hvb e
        · exact n3 v hv b e hvb
      · have := h.flt b (h.fv v (by simp only [List.mem_cons] at hv ⊢; rcases hv with h | h; exact .inr (.inl h); exact .inr (.inr (.inr h))) b hvb)
        omega
    refine List.pairwise_cons.2 ⟨fun v hv => ?_, List.pairwise_cons.2 ⟨fun v hv => hnew v (by simp only [List.mem_cons]; exact .inr hv), n4⟩⟩
    rcases List.mem_cons.1 hv with rfl | hv
    · exact (hnew vw (by simp)).symm
    · exact n1 v (by simp only [List.mem_cons]; exact .inr hv)
  · intro v hv' b hb
    simp only [List.mem_cons] at hv'
    rcases hv' with rfl | rfl | rfl | hv'
    · exact .inl (h.fv _ (by simp) b hb)
    · exact .inl (h.fv _ (by simp) b hb)
    · rcases hat b hb with e | e
      · exact .inl (h.fv vo (by simp) b e)
      · exact .inr ⟨e, (hv.lt hb).1⟩
    · exact .inl (h.fv v (by simp only [List.mem_cons]; exact .inr (.inr (.inr hv'))) b hb)
  · rintro k (hk | hk)
    · have := h.flt k hk; have := hg.size; simp; omega
    · simp; exact hk.2
  · exact (Frm.grown hg (fun k hk => h.fv vo (by simp) k hk)).trans (Frm.setCell (F := F) h.fB _) (fun i hi => .inl hi)
/-- What is written, anew. -/
theorem SkB.setWr (h : SkB w B F vw vs vo tv s) {w1 : World} {vw' : Value} {l' : List Rg} (hg : w.grownBy w1 vw.ownBlock) (hv : RcAt w1 vw' l') (hat : ∀ b, vw'.ownBlock = some b → vw.ownBlock = some b ∨ w.heap.size ≤ b) :
    SkB (w1.setCell ⟨B, 0, none⟩ vw') B (Fn F w w1) vw' vs vo tv { s with wr := l' } ∧ Frm F w (w1.setCell ⟨B, 0, none⟩ vw') := by
  have hB : w1.heap[B]? = w.heap[B]? := hg.block B h.ltB (fun e => (h.far (v := vw) (by simp) e.symm).1 rfl)
  have hB1 := hB.trans h.blk
  have hvB : ∀ b, vw'.ownBlock = some b → b ≠ B := fun b hb => by
    rcases hat b hb with e | e
    · exact (h.far (v := vw) (by simp) e).1
    · have := h.ltB; omega
  obtain ⟨n1, n2⟩ := List.pairwise_cons.1 h.ne
  have hoth : ∀ v, v ∈ vs :: vo :: tv.map Prod.snd → ∀ b, v.ownBlock = some b → (w1.setCell ⟨B, 0, none⟩ vw').heap[b]? = w.heap[b]? := fun v hv b hb => by
    have hbB : b ≠ B := by
      rcases List.mem_cons.1 hv with rfl | hv
      · exact h.farS hb
      · exact (h.far (v := v) (by simp only [List.mem_cons] at hv ⊢; exact .inr hv) hb).1
    rw [Below.heap_setCell _ _ _ _ hbB]
    refine hg.block b (h.flt b (h.fv v (by simp only [List.mem_cons] at hv ⊢; rcases hv with h | h | h; exact .inl h; exact .inr (.inr (.inl h)); exact .inr (.inr (.inr h))) b hb)) (fun e => ?_)
    rcases List.mem_cons.1 hv with rfl | hv
    · exact (h.far (v := vw) (by simp) e.symm).2 hb
    · exact n1 v hv b e.symm hb
  refine ⟨⟨?_, ?_, h.op.block (hoth vo (by simp)), h.sl.block (hoth vs (by simp)), fa_map h.tr (fun t p ht hp => ⟨hp.1, hp.2.block (hoth t.2 (by simp only [List.mem_cons]; exact .inr (.inr (List.mem_map_of_mem ht))))⟩), ?_, .inl h.fB, ?_, ?_⟩, ?_⟩
  · rw [heap_setCell_same w1 B 0 _ _ _ hB1]; rfl
  · exact hv.block (fun b hb => Below.heap_setCell _ _ _ _ (hvB b hb))
  · refine List.pairwise_cons.2 ⟨fun v hv b hb hvb => ?_, n2⟩
    rcases hat b hb with e | e
    · exact n1 v hv b e hvb
    · have := h.flt b (h.fv v (by simp only [List.mem_cons] at hv ⊢; exact .inr (.inr hv)) b hvb)
      omega
  · intro v hv' b hb
    simp only [List.mem_cons] at hv'
    rcases hv' with rfl | rfl | rfl | hv'
    · exact .inl (h.fv _ (by simp) b hb)
    · rcases hat b hb with e | e
      · exact .inl (h.fv vw (by simp) b e)
      · exact .inr ⟨e, (hv.lt hb).1⟩
    · exact .inl (h.fv _ (by simp) b hb)
    · exact .inl (h.fv v (by simp only [List.mem_cons]; exact .inr (.inr (.inr hv'))) b hb)
  · rintro k (hk | hk)
    · have := h.flt k hk; have := hg.size; simp; omega
    · simp; exact hk.2
  · exact (Frm.grown hg (fun k hk => h.fv vw (by simp) k hk)).trans (Frm.setCell (F := F) h.fB _) (fun i hi => .inl hi)
/-- Sealed. -/
theorem SkB.sealed (h : SkB w B F vw vs vo tv s) (id : Int) {w1 : World} {vs' : Value} (hg : w.grownBy w1 vs.ownBlock) (hv : RwAt w1 51 2 vs' (tv ++ [(id, vo)]).length (tcells (tv ++ [(id, vo)]))) (hat : ∀ b, vs'.ownBlock = some b → vs.ownBlock = some b ∨ w.heap.size ≤ b) :
    SkB (((w1.setCell ⟨B, 1, none⟩ vs').setCell ⟨B, 2, none⟩ (.slice none 0 0)).setCell ⟨B, 3, none⟩ (.int .i64 id)) B (Fn F w w1) vw vs' (.slice none 0 0) (tv ++ [(id, vo)]) (sealS s id) ∧ Frm F w (((w1.setCell ⟨B, 1, none⟩ vs').setCell ⟨B, 2, none⟩ (.slice none 0 0)).setCell ⟨B, 3, none⟩ (.int .i64 id)) := by
  have hB : w1.heap[B]? = w.heap[B]? := hg.block B h.ltB (fun e => h.farS e.symm rfl)
  have hB1 := hB.trans h.blk
  have hvB : ∀ b, vs'.ownBlock = some b → b ≠ B := fun b hb => by
    rcases hat b hb with e | e
    · exact h.farS e
    · have := h.ltB; omega
  have h3 : ∀ b, b ≠ B → (((w1.setCell ⟨B, 1, none⟩ vs').setCell ⟨B, 2, none⟩ (.slice none 0 0)).setCell ⟨B, 3, none⟩ (.int .i64 id)).heap[b]? = w1.heap[b]? := fun b hb => by
    rw [Below.heap_setCell _ _ _ _ hb, Below.heap_setCell _ _ _ _ hb, Below.heap_setCell _ _ _ _ hb]
  have hoth : ∀ v, v ∈ vw :: vo :: tv.map Prod.snd → ∀ b, v.ownBlock = some b → (((w1.setCell ⟨B, 1, none⟩ vs').setCell ⟨B, 2, none⟩ (.slice none 0 0)).setCell ⟨B, 3, none⟩ (.int .i64 id)).heap[b]? = w.heap[b]? := fun v hv b hb => by
    rw [h3 b (h.far hv hb).1]
    exact hg.block b (h.flt b (h.fv v (by simp only [List.mem_cons] at hv ⊢; exact .inr hv) b hb)) (fun e => (h.far hv hb).2 e.symm)
  obtain ⟨n1, n2⟩ := List.pairwise_cons.1 h.ne
  obtain ⟨n3, n4⟩ := List.pairwise_cons.1 n2
  have hmem : ∀ t ∈ tv, t.2 ∈ vw :: vo :: tv.map Prod.snd := fun t ht => by simp only [List.mem_cons]; exact .inr (.inr (List.mem_map_of_mem ht))
  refine ⟨⟨?_, h.wr.block (hoth vw (by simp)), RwAt.nil _ _ _, ?_, fa_append (fa_map h.tr (fun t p ht hp => ⟨hp.1, hp.2.block (hoth t.2 (hmem t ht))⟩)) (.cons ⟨rfl, h.op.block (hoth vo (by simp))⟩ .nil), ?_, .inl h.fB, ?_, ?_⟩, ?_⟩
  · rw [heap_setCell_same _ B 3 _ _ _ (heap_setCell_same _ B 2 _ _ _ (heap_setCell_same w1 B 1 _ _ _ hB1))]; rfl
  · exact hv.block (fun b hb => h3 b (hvB b hb))
  · rw [List.map_append]
    refine List.pairwise_cons.2 ⟨fun v hv => ?_, List.pairwise_cons.2 ⟨fun v _ => nil_neb v, List.pairwise_append.2 ⟨n4, by simp, fun a ha b hb => ?_⟩⟩⟩
    · rcases List.mem_cons.1 hv with rfl | hv
      · exact neb_nil vw
      · rcases List.mem_append.1 hv with hv | hv
        · exact n1 v (by simp only [List.mem_cons]; exact .inr hv)
        · simp at hv; subst hv; exact n1 _ (by simp)
    · simp at hb; subst hb; exact (n3 a ha).symm
  · intro v hv' b hb
    rw [List.map_append] at hv'
    simp only [List.mem_cons, List.mem_append, List.map_cons, List.map_nil, List.not_mem_nil, or_false] at hv'
    rcases hv' with rfl | rfl | rfl | hv' | rfl
    · rcases hat b hb with e | e
      · exact .inl (h.fv vs (by simp) b e)
      · exact .inr ⟨e, (hv.lt hb).1⟩
    · exact .inl (h.fv _ (by simp) b hb)
    · simp [Value.ownBlock] at hb
    · exact .inl (h.fv v (by simp only [List.mem_cons]; exact .inr (.inr (.inr hv'))) b hb)
    · exact .inl (h.fv v (by simp) b hb)
  · rintro k (hk | hk)
    · have := h.flt k hk; have := hg.size; simp; omega
    · simp; exact hk.2
  · refine (((Frm.grown hg (fun k hk => h.fv vs (by simp) k hk)).trans (Frm.setCell (F := F) h.fB _) (fun i hi => .inl hi)).trans (Frm.setCell (F := F) h.fB _) (fun i hi => .inl hi)).trans (Frm.setCell (F := F) h.fB _) (fun i hi => .inl hi)
/-- The first of those that wait, taken. -/
theorem SkB.taken {t0 : Int × Value} {p0 : Int × List Rg} {tv' : List (Int × Value)} {sl' : List (Int × List Rg)} (h : SkB w B F vw vs vo (t0 :: tv') s) (hs : s.sl = p0 :: sl') :
    ∃ g o c, vs = .slice (some ⟨g, o, none⟩) (tv'.length + 1) c ∧ tv'.length + 1 ≤ c ∧ g ≠ B ∧ w.cell? ⟨g, o, none⟩ = some (.int .i64 t0.1) ∧ w.cell? ⟨g, o + 1, none⟩ = some t0.2 ∧ (∀ j, w.frozen? ⟨g, j, none⟩ = false) ∧
      ∀ z0 z1 : Value, let W := (((w.setCell ⟨g, o, none⟩ z0).setCell ⟨g, o + 1, none⟩ z1).setCell ⟨B, 1, none⟩ (.slice (some (if c = 1 then ⟨g, o, none⟩ else ⟨g, o + 2, none⟩)) tv'.length (c - 1)))
        SkB W B F vw (.slice (some (if c = 1 then ⟨g, o, none⟩ else ⟨g, o + 2, none⟩)) tv'.length (c - 1)) vo tv' { s with sl := sl' } ∧ Frm F w W ∧ RcAt W t0.2 p0.2 ∧ (∀ v ∈ vw :: vo :: tv'.map Prod.snd, NeB t0.2 v) ∧ (∀ b, t0.2.ownBlock = some b → F b ∧ b ≠ B) := by
  have hsl := h.sl
  obtain ⟨A, c, rfl, hle, -⟩ := hsl.slice
  rw [List.length_cons] at hsl hle
  have htc : tcells (t0 :: tv') = [.int .i64 t0.1, t0.2] ++ tcells tv' := rfl
  rw [htc] at hsl
  rcases hsl.2 with ⟨-, h0⟩ | ⟨g, o, cap, cur, hv, hg, -, hcm, hcs, htk⟩
  · omega
  injection hv with e1 e2 e3
  subst e1 e3
  have hgB : g ≠ B := h.farS (b := g) rfl
  have hcl := hsl.cells
  rcases hcl with h0 | ⟨b, o', hA, hcl⟩
  · cases h0
  injection hA with hA
  injection hA with e1 e2 e3
  subst e1 e2
  have c0 := hcl 0 (.int .i64 t0.1) rfl
  have c1 := hcl 1 t0.2 rfl
  refine ⟨g, o, c, rfl, hle, hgB, c0, c1, fun j => by simp [World.frozen?, hg], fun z0 z1 => ?_⟩
  generalize hWe : (((w.setCell ⟨g, o, none⟩ z0).setCell ⟨g, o + 1, none⟩ z1).setCell ⟨B, 1, none⟩ (.slice (some (if c = 1 then ⟨g, o, none⟩ else ⟨g, o + 2, none⟩)) tv'.length (c - 1))) = W
  have hfar : ∀ b, b ≠ B → b ≠ g → W.heap[b]? = w.heap[b]? := fun b h1 h2 => by
    rw [← hWe, Below.heap_setCell _ _ _ _ h1, Below.heap_setCell _ _ _ _ h2, Below.heap_setCell _ _ _ _ h2]
  have hWB : W.heap[B]? = some (.cells #[vw, .slice (some (if c = 1 then ⟨g, o, none⟩ else ⟨g, o + 2, none⟩)) tv'.length (c - 1), vo, .int .i64 s.la] 46 (0, 0)) := by
    rw [← hWe, heap_setCell_same _ B 1 _ _ _ (show ((w.setCell ⟨g, o, none⟩ z0).setCell ⟨g, o + 1, none⟩ z1).heap[B]? = _ from by rw [Below.heap_setCell _ _ _ _ (Ne.symm hgB), Below.heap_setCell _ _ _ _ (Ne.symm hgB)]; exact h.blk)]
    rfl
  have hWg : W.heap[g]? = some (.cells ((cur.setIfInBounds o z0).setIfInBounds (o + 1) z1) 51 (0, 0)) := by
    rw [← hWe, Below.heap_setCell _ _ _ _ hgB]
    exact heap_setCell_same _ g (o + 1) _ _ _ (heap_setCell_same w g o _ _ _ hg)
  have h5 : 2 ≤ c * 2 := by omega
  have hset : RwAt W 51 2 (.slice (some ⟨g, o, none⟩) (tv'.length + 1) c) (tv'.length + 1) ([z0, z1] ++ tcells tv') := by
    refine hsl.set0 rfl rfl ⟨cur, _, hg, hWg, by simp, fun j hj => ?_, fun j hj => ?_⟩
    · have hj' : j = 0 ∨ j = 1 := by omega
      rcases hj' with rfl | rfl
      · have ho : o < cur.size := by omega
        simp [ho]
      · have ho : o + 1 < cur.size := by omega
        simp [ho]
    · rw [Array.getElem?_setIfInBounds_ne (by omega), Array.getElem?_setIfInBounds_ne (by omega)]
  have htl := hset.tail rfl
  have hF : ∀ v, v ∈ vw :: vo :: (t0 :: tv').map Prod.snd → ∀ b, v.ownBlock = some b → W.heap[b]? = w.heap[b]? := fun v hv b hb => hfar b (h.far hv hb).1 (fun e => (h.far hv hb).2 (by rw [e]; rfl))
  have htr := h.tr
  rw [hs] at htr
  cases htr with
  | cons ht0 htr =>
  have hmem : ∀ t ∈ tv', t.2 ∈ vw :: vo :: (t0 :: tv').map Prod.snd := fun t ht => by simp only [List.map_cons, List.mem_cons]; exact .inr (.inr (.inr (List.mem_map_of_mem ht)))
  have hown : ∀ b, Value.ownBlock (.slice (some (if c = 1 then (⟨g, o, none⟩ : Addr) else ⟨g, o + 2, none⟩)) tv'.length (c - 1)) = some b → g = b := fun b hb => by
    simp only [Value.ownBlock] at hb
    split at hb <;> simpa using hb
  obtain ⟨n1, n2⟩ := List.pairwise_cons.1 h.ne
  obtain ⟨n3, n4⟩ := List.pairwise_cons.1 n2
  obtain ⟨n5, n6⟩ := List.pairwise_cons.1 n4
  refine ⟨⟨hWB, h.wr.block (hF vw (by simp)), h.op.block (hF vo (by simp)), htl, fa_map htr (fun t p ht hp => ⟨hp.1, hp.2.block (hF t.2 (hmem t ht))⟩), ?_, h.fB, ?_, ?_⟩, ?_, ht0.2.block (hF t0.2 (by simp)), ?_, ?_⟩
  · refine List.pairwise_cons.2 ⟨fun v hv => n1 v (by simp only [List.map_cons, List.mem_cons] at hv ⊢; rcases hv with h | h; exact .inl h; exact .inr (.inr h)), List.pairwise_cons.2 ⟨fun v hv => n3 v (by simp only [List.map_cons, List.mem_cons]; exact .inr hv), n6⟩⟩
  · intro v hv b hb
    rcases List.mem_cons.1 hv with rfl | hv
    · have := hown b hb
      subst this
      exact h.fv _ List.mem_cons_self g rfl
    · refine h.fv v ?_ b hb
      simp only [List.map_cons, List.mem_cons] at hv ⊢
      rcases hv with h | h | h
      · exact .inr (.inl h)
      · exact .inr (.inr (.inl h))
      · exact .inr (.inr (.inr (.inr h)))
  · intro k hk
    have := h.flt k hk
    rw [← hWe]; simpa using this
  · have hFg : F g := h.fv _ List.mem_cons_self g rfl
    rw [← hWe]
    exact ((Frm.setCell (F := F) (p := ⟨g, o, none⟩) hFg _).trans (Frm.setCell (F := F) (p := ⟨g, o + 1, none⟩) hFg _) (fun i hi => .inl hi)).trans (Frm.setCell (F := F) (p := ⟨B, 1, none⟩) h.fB _) (fun i hi => .inl hi)
  · intro v hv
    simp only [List.mem_cons] at hv
    rcases hv with rfl | rfl | hv
    · exact (n1 t0.2 (by simp)).symm
    · exact (n3 t0.2 (by simp)).symm
    · exact n5 v hv
  · exact fun b hb => ⟨h.fv t0.2 (by simp) b hb, (h.far (v := t0.2) (by simp) hb).1⟩
/-- Given up. -/
theorem SkB.aborted (h : SkB w B F vw vs vo tv s) : SkB ((w.setCell ⟨B, 2, none⟩ (.slice none 0 0)).setCell ⟨B, 1, none⟩ (.slice none 0 0)) B F vw (.slice none 0 0) (.slice none 0 0) [] (abortS s) ∧ Frm F w ((w.setCell ⟨B, 2, none⟩ (.slice none 0 0)).setCell ⟨B, 1, none⟩ (.slice none 0 0)) := by
  have h3 : ∀ b, b ≠ B → ((w.setCell ⟨B, 2, none⟩ (.slice none 0 0)).setCell ⟨B, 1, none⟩ (.slice none 0 0)).heap[b]? = w.heap[b]? := fun b hb => by
    rw [Below.heap_setCell _ _ _ _ hb, Below.heap_setCell _ _ _ _ hb]
  refine ⟨⟨?_, h.wr.block (fun b hb => h3 b (h.far (by simp) hb).1), RwAt.nil _ _ _, RwAt.nil _ _ _, .nil, ?_, h.fB, ?_, ?_⟩, ?_⟩
  · rw [heap_setCell_same _ B 1 _ _ _ (heap_setCell_same w B 2 _ _ _ h.blk)]; rfl
  · refine List.pairwise_cons.2 ⟨fun v hv => ?_, by simp⟩
    simp at hv; subst hv; exact neb_nil vw
  · intro v hv b hb
    simp only [List.map_nil, List.mem_cons, List.not_mem_nil, or_false] at hv
    rcases hv with rfl | rfl | rfl
    · simp [Value.ownBlock] at hb
    · exact h.fv _ (by simp) b hb
    · simp [Value.ownBlock] at hb
  · intro k hk; have := h.flt k hk; simpa using this
  · exact (Frm.setCell (F := F) h.fB _).trans (Frm.setCell (F := F) h.fB _) (fun i hi => .inl hi)
end
theorem info_parts {o : Option TypeInfo} {z : Option Value} {s b : Nat} (h : o.map (fun i => (i.zero, i.size, i.bytes)) = some (z, s, b)) : ∃ i, o = some i ∧ i.zero = z ∧ i.size = s ∧ i.bytes = b := by
  cases o with
  | none => cases h
  | some i => simp at h; exact ⟨i, rfl, h.1, h.2.1, h.2.2⟩
theorem infoR : (Tryd.prog.info? 30).map (fun i => (i.zero, i.size, i.bytes)) = some (some (.agg #[.string ⟨#[]⟩, .int .i64 0, .int .i64 0]), 3, 32) := by kernel_rfl
theorem infoT : (Tryd.prog.info? 51).map (fun i => (i.zero, i.size, i.bytes)) = some (some (.agg #[.int .i64 0, .slice none 0 0]), 2, 32) := by kernel_rfl
end Go.Proofs.YtaicaeokljdjdaaDoor
