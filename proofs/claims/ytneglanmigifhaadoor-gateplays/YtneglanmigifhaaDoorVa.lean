/- Items in memory; what stays; lanes. -/
import Derived.Test.YtneglanmigifhaaDoorChecked
import Derived.Test.YtneglanmigifhaaDoorPureGu
import Derived.Test.YtneglanmigifhaaDoorShelf
import Derived.WalkKit
import Derived.ProofKit
import Derived.OpenShut
import Derived.Deep.QuietTactic
import Derived.BigQuiet
import Derived.Lib.Slices
import Derived.Lib.Hide
import Derived.Lib.SliceRun
import Derived.SizedLaws
import Derived.OwnWalk
import Derived.BigCall
import Derived.Maps.AppendAt
import Derived.Deep.AppendLies
import Derived.Deep.RegionWith
import Derived.Deep.RegionHeld3
import Derived.Laws.IdiomCopy
namespace Go.Proofs.YtneglanmigifhaaDoor
open Go.ChangeShapes Go.WideShapes Go.RowKit
set_option linter.unusedVariables false

theorem some_lt {w : World} {k : Nat} {o : Obj} (h : w.heap[k]? = some o) : k < w.heap.size := (Array.getElem?_eq_some_iff.1 h).1
theorem cell_lt {w : World} {b o : Nat} {v : Value} (h : w.cell? ⟨b, o, none⟩ = some v) : b < w.heap.size := World.block_lt_of_cell? w _ h
structure Rg where
  key : ByteArray
  num : Int
  tm : Int
abbrev Itm := It Rg
def icell : Itm → List Value
  | .one r => [.string r.key, .int .i64 r.num, .int .i64 r.tm, .int .i64 0]
  | .bar id => [.string ⟨#[]⟩, .int .i64 0, .int .i64 0, .int .i64 id]
def icells : List Itm → List Value
  | [] => []
  | x :: l => icell x ++ icells l
theorem icell_len (x : Itm) : (icell x).length = 4 := by cases x <;> rfl
theorem icells_len : ∀ l : List Itm, (icells l).length = l.length * 4
  | [] => rfl
  | x :: l => by rw [icells, List.length_append, icell_len, icells_len l, List.length_cons]; omega
theorem icells_append : ∀ a b : List Itm, icells (a ++ b) = icells a ++ icells b
  | [], b => rfl
  | x :: a, b => by rw [List.cons_append, icells, icells, icells_append a b, List.append_assoc]
theorem icell_one (x : Itm) : ∀ u ∈ icell x, u.oneCell' = true := by
  cases x <;> (intro u hu; simp [icell] at hu; rcases hu with rfl | rfl | rfl | rfl <;> rfl)
theorem icells_one : ∀ l : List Itm, ∀ u ∈ icells l, u.oneCell' = true
  | [], u, hu => by simp [icells] at hu
  | x :: l, u, hu => by
    rw [icells, List.mem_append] at hu
    rcases hu with h | h
    · exact icell_one x u h
    · exact icells_one l u h
/-- A record, an item by value. -/
def rV (r : Rg) : Value := .agg #[.string r.key, .int .i64 r.num, .int .i64 r.tm]
def idOf : Itm → Int
  | .one _ => 0
  | .bar id => id
def recOf : Itm → Rg
  | .one r => r
  | .bar _ => ⟨⟨#[]⟩, 0, 0⟩
theorem icell_is (x : Itm) : icell x = [.string (recOf x).key, .int .i64 (recOf x).num, .int .i64 (recOf x).tm, .int .i64 (idOf x)] := by cases x <;> rfl
def iV (x : Itm) : Value := .agg #[.string (recOf x).key, .int .i64 (recOf x).num, .int .i64 (recOf x).tm, .int .i64 (idOf x)]

/-- What a gate turns: gates, lanes, items. -/
def Turns (o : Obj) : Prop := ∃ cur, o = .cells cur 55 (0, 0) ∨ o = .cells cur 60 (0, 0) ∨ o = .cells cur 65 (0, 0)
/-- All else stays, and all below lo. -/
structure FrG (lo : Nat) (w w' : World) : Prop where
  os : w'.os = w.os
  tape : w'.tape = w.tape
  output : w'.output = w.output
  size : w.heap.size ≤ w'.heap.size
  low : ∀ k, k < lo → w'.heap[k]? = w.heap[k]?
  kept : ∀ (k : Nat) (o : Obj), w.heap[k]? = some o → ¬ Turns o → w'.heap[k]? = some o
theorem FrG.refl (lo : Nat) (w : World) : FrG lo w w := ⟨rfl, rfl, rfl, Nat.le_refl _, fun _ _ => rfl, fun _ _ h _ => h⟩
theorem FrG.trans {lo : Nat} {a b c : World} (h : FrG lo a b) (k : FrG lo b c) : FrG lo a c :=
  ⟨k.os.trans h.os, k.tape.trans h.tape, k.output.trans h.output, Nat.le_trans h.size k.size, fun i hi => (k.low i hi).trans (h.low i hi), fun i o hi ho => k.kept i o (h.kept i o hi ho) ho⟩
theorem FrG.below {lo : Nat} {w w' : World} (h : Below w.heap.size w w') (hlo : lo ≤ w.heap.size) : FrG lo w w' :=
  ⟨h.os, h.tape, h.output, h.size, fun k hk => h.block k (by omega), fun k o hk _ => by rw [h.block k (some_lt hk)]; exact hk⟩
theorem FrG.toBelow {lo : Nat} {w w' : World} (h : FrG lo w w') : Below lo w w' := ⟨h.os, h.tape, h.output, h.size, h.low⟩
theorem FrG.mono {lo lo' : Nat} {w w' : World} (h : FrG lo w w') (hl : lo' ≤ lo) : FrG lo' w w' := ⟨h.os, h.tape, h.output, h.size, fun k hk => h.low k (by omega), h.kept⟩
theorem FrG.alloc {lo : Nat} {a w : World} (h : FrG lo a w) (hlo : lo ≤ w.heap.size) (o : Obj) : FrG lo a (w.alloc o) := h.trans (FrG.below ((Below.refl _ _).alloc (Nat.le_refl _) _) hlo)
theorem FrG.drewN {lo : Nat} {a w : World} (h : FrG lo a w) (n : Nat) : FrG lo a (w.drewN n) := ⟨h.os, h.tape, h.output, h.size, h.low, h.kept⟩
theorem FrG.grown {lo : Nat} {w w' : World} {row : Option Nat} (h : w.grownBy w' row) (hlo : lo ≤ w.heap.size) (hr : ∀ k, row = some k → lo ≤ k ∧ ∀ o, w.heap[k]? = some o → Turns o) : FrG lo w w' :=
  ⟨h.os, h.tape, h.output, h.size, fun k hk => h.block k (by omega) (fun e => by have := (hr k e.symm).1; omega), fun k o hk ho => by
    rw [h.block k (some_lt hk) (fun e => ho ((hr k e.symm).2 o hk))]; exact hk⟩
theorem FrG.setCell {lo : Nat} {w : World} {p : Addr} (hp : lo ≤ p.block) (ht : ∀ o, w.heap[p.block]? = some o → Turns o) (v : Value) : FrG lo w (w.setCell p v) :=
  ⟨rfl, rfl, rfl, by simp, fun k hk => Below.heap_setCell _ _ _ _ (by omega), fun k o hk ho => by
    rw [Below.heap_setCell _ _ _ _ (fun e => by subst e; exact ho (ht o hk))]; exact hk⟩
theorem FrG.cell {lo : Nat} {w w' : World} (h : FrG lo w w') {b o : Nat} {v : Value} {cur : Array Value} {t : TypeId} (hb : w.heap[b]? = some (.cells cur t (0, 0))) (ht : t ≠ 55 ∧ t ≠ 60 ∧ t ≠ 65) : w'.heap[b]? = w.heap[b]? := by
  rw [hb]
  refine h.kept b _ hb ?_
  rintro ⟨c, h | h | h⟩ <;> (injection h with h1 h2 h3; subst h2; simp at ht)

abbrev LnAt (lo : Nat) (w : World) (v : Value) (l : List Itm) : Prop := w.ownsRow lo 65 4 v l.length (icells l)
theorem LnAt.lt {lo : Nat} {w : World} {v : Value} {l : List Itm} (h : LnAt lo w v l) {b : Nat} (hb : v.ownBlock = some b) : lo ≤ b ∧ b < w.heap.size ∧ ∃ cur, w.heap[b]? = some (.cells cur 65 (0, 0)) := by
  rcases h.2 with ⟨rfl, _⟩ | ⟨g, cap, cur, rfl, h1, h2, _⟩
  · simp [Value.ownBlock] at hb
  · simp [Value.ownBlock] at hb
    subst hb
    exact ⟨h1, some_lt h2, cur, h2⟩
theorem LnAt.slice {lo : Nat} {w : World} {v : Value} {l : List Itm} (h : LnAt lo w v l) : ∃ p c, v = .slice p l.length c ∧ (l ≠ [] → ∃ g, p = some ⟨g, 0, none⟩ ∧ ∀ j u, (icells l)[j]? = some u → w.cell? ⟨g, j, none⟩ = some u) ∧ l.length ≤ c ∧ c ≤ maxLen := by
  rcases h.2 with ⟨rfl, h0⟩ | ⟨g, cap, cur, rfl, h1, h2, h3, h4, h5, h6⟩
  · exact ⟨none, 0, by rw [h0], fun hn => absurd (List.length_eq_zero_iff.1 h0) hn, by omega, by simp⟩
  · refine ⟨_, cap, rfl, fun _ => ⟨g, rfl, fun j u hu => ?_⟩, h3, h4⟩
    have := h.cells (g := g) rfl j u hu
    rwa [show (⟨g, 0, none⟩ : Addr).add j = ⟨g, j, none⟩ from by unfold Addr.add; split <;> simp_all] at this
theorem LnAt.block {lo : Nat} {w w' : World} {v : Value} {l : List Itm} (h : LnAt lo w v l) (hb : ∀ b, v.ownBlock = some b → w'.heap[b]? = w.heap[b]?) : LnAt lo w' v l := by
  refine ⟨h.1, ?_⟩
  rcases h.2 with hn | ⟨g, cap, cur, rfl, h1, h2, h3⟩
  · exact .inl hn
  · exact .inr ⟨g, cap, cur, rfl, h1, by rw [hb g rfl]; exact h2, h3⟩

/-- A gate in memory: its block B, its lanes' block L, whose turn, what each lane holds. -/
structure GtB (lo : Nat) (w : World) (B L t : Nat) (vs : Nat → Value) (g : Gt Rg) : Prop where
  blk : w.heap[B]? = some (.cells #[.slice (some ⟨L, 0, none⟩) g.ws.length g.ws.length, .int .i64 t] 55 (0, 0))
  rows : ∃ cur : Array Value, w.heap[L]? = some (.cells cur 60 (0, 0)) ∧ ∀ i, i < g.ws.length → cur[i * 2]? = some (vs i) ∧ cur[i * 2 + 1]? = some (.int .i64 (g.last.getD i 0))
  own : ∀ i, i < g.ws.length → LnAt lo w (vs i) (g.ws.getD i [])
  ne : ∀ i j b, i < g.ws.length → j < g.ws.length → i ≠ j → (vs i).ownBlock = some b → (vs j).ownBlock ≠ some b
  len : ∀ i, i < g.ws.length → (g.ws.getD i []).length ≤ 400
  ids : ∀ l ∈ g.ws, ∀ id, It.bar id ∈ l → 0 < id
  lst : g.last.length = g.ws.length
  n0 : 0 < g.ws.length
  n1 : g.ws.length ≤ 64
  tn : t ≤ g.ws.length
  nx : g.nx = t % g.ws.length
  loB : lo ≤ B
  loL : lo ≤ L
section
variable {lo : Nat} {w w' : World} {B L t : Nat} {vs : Nat → Value} {g : Gt Rg}
theorem GtB.ltB (h : GtB lo w B L t vs g) : B < w.heap.size := some_lt h.blk
theorem GtB.ltL (h : GtB lo w B L t vs g) : L < w.heap.size := by obtain ⟨cur, h1, -⟩ := h.rows; exact some_lt h1
theorem GtB.loW (h : GtB lo w B L t vs g) : lo ≤ w.heap.size := by have := h.ltB; have := h.loB; omega
theorem GtB.neBL (h : GtB lo w B L t vs g) : B ≠ L := fun e => by
  obtain ⟨cur, h1, -⟩ := h.rows
  rw [← e, h.blk] at h1; simp at h1
theorem GtB.c0 (h : GtB lo w B L t vs g) : w.cell? ⟨B, 0, none⟩ = some (.slice (some ⟨L, 0, none⟩) g.ws.length g.ws.length) := by simp [World.cell?, h.blk]
theorem GtB.c1 (h : GtB lo w B L t vs g) : w.cell? ⟨B, 1, none⟩ = some (.int .i64 t) := by simp [World.cell?, h.blk]
theorem GtB.fB (h : GtB lo w B L t vs g) (o : Nat) : w.frozen? ⟨B, o, none⟩ = false := by simp [World.frozen?, h.blk]
theorem GtB.fL (h : GtB lo w B L t vs g) (o : Nat) : w.frozen? ⟨L, o, none⟩ = false := by obtain ⟨cur, h1, -⟩ := h.rows; simp [World.frozen?, h1]
theorem GtB.l0 (h : GtB lo w B L t vs g) {i : Nat} (hi : i < g.ws.length) : w.cell? ⟨L, i * 2, none⟩ = some (vs i) := by
  obtain ⟨cur, h1, h2⟩ := h.rows
  simp only [World.cell?, h1]; exact (h2 i hi).1
theorem GtB.l1 (h : GtB lo w B L t vs g) {i : Nat} (hi : i < g.ws.length) : w.cell? ⟨L, i * 2 + 1, none⟩ = some (.int .i64 (g.last.getD i 0)) := by
  obtain ⟨cur, h1, h2⟩ := h.rows
  simp only [World.cell?, h1]; exact (h2 i hi).2
theorem GtB.neL (h : GtB lo w B L t vs g) {i b : Nat} (hi : i < g.ws.length) (hb : (vs i).ownBlock = some b) : b ≠ L ∧ b ≠ B := by
  obtain ⟨-, -, cur, hc⟩ := (h.own i hi).lt hb
  obtain ⟨c2, h1, -⟩ := h.rows
  constructor
  · rintro rfl; rw [hc] at h1; simp at h1
  · rintro rfl; have := h.blk; rw [hc] at this; simp at this
theorem GtB.keep (h : GtB lo w B L t vs g) (hb : Below w.heap.size w w') : GtB lo w' B L t vs g := by
  obtain ⟨cur, h1, h2⟩ := h.rows
  exact ⟨(hb.block _ h.ltB).trans h.blk, ⟨cur, (hb.block _ h.ltL).trans h1, h2⟩, fun i hi => (h.own i hi).block (fun b hb' => hb.block b ((h.own i hi).lt hb').2.1), h.ne, h.len, h.ids, h.lst, h.n0, h.n1, h.tn, h.nx, h.loB, h.loL⟩
theorem GtB.drewN (h : GtB lo w B L t vs g) (n : Nat) : GtB lo (w.drewN n) B L t vs g := h.keep ⟨rfl, rfl, rfl, Nat.le_refl _, fun _ _ => rfl⟩
theorem GtB.tB (h : GtB lo w B L t vs g) : ∀ o, w.heap[B]? = some o → Turns o := fun o ho => by
  rw [h.blk] at ho; injection ho with ho; subst ho; exact ⟨_, .inl rfl⟩
theorem GtB.tL (h : GtB lo w B L t vs g) : ∀ o, w.heap[L]? = some o → Turns o := fun o ho => by
  obtain ⟨cur, h1, -⟩ := h.rows
  rw [h1] at ho; injection ho with ho; subst ho; exact ⟨_, .inr (.inl rfl)⟩
theorem GtB.tR (h : GtB lo w B L t vs g) {i b : Nat} (hi : i < g.ws.length) (hb : (vs i).ownBlock = some b) : lo ≤ b ∧ ∀ o, w.heap[b]? = some o → Turns o := by
  obtain ⟨h1, -, cur, hc⟩ := (h.own i hi).lt hb
  exact ⟨h1, fun o ho => by rw [hc] at ho; injection ho with ho; subst ho; exact ⟨_, .inr (.inr rfl)⟩⟩
/-- Whose turn it is, anew. -/
theorem GtB.turn (h : GtB lo w B L t vs g) {t' : Nat} (ht : t' ≤ g.ws.length) : GtB lo (w.setCell ⟨B, 1, none⟩ (.int .i64 t')) B L t' vs { g with nx := t' % g.ws.length } ∧ FrG lo w (w.setCell ⟨B, 1, none⟩ (.int .i64 t')) := by
  obtain ⟨cur, h1, h2⟩ := h.rows
  refine ⟨⟨?_, ⟨cur, ?_, h2⟩, fun i hi => (h.own i hi).block (fun b hb' => Below.heap_setCell _ _ _ _ (h.neL hi hb').2), h.ne, h.len, h.ids, h.lst, h.n0, h.n1, ht, rfl, h.loB, h.loL⟩, FrG.setCell h.loB h.tB _⟩
  · rw [heap_setCell_same w B 1 _ _ _ h.blk]; rfl
  · rw [Below.heap_setCell _ _ _ _ (Ne.symm h.neBL)]; exact h1
/-- The greatest barrier of an input, anew. -/
theorem GtB.setLast (h : GtB lo w B L t vs g) {i : Nat} (hi : i < g.ws.length) (id : Int) : GtB lo (w.setCell ⟨L, i * 2 + 1, none⟩ (.int .i64 id)) B L t vs (lastG g i id) ∧ FrG lo w (w.setCell ⟨L, i * 2 + 1, none⟩ (.int .i64 id)) := by
  obtain ⟨cur, h1, h2⟩ := h.rows
  have hl := h.lst
  refine ⟨⟨?_, ⟨cur.setIfInBounds (i * 2 + 1) (.int .i64 id), heap_setCell_same w L _ _ _ _ h1, fun j hj => ?_⟩, fun j hj => (h.own j hj).block (fun b hb' => Below.heap_setCell _ _ _ _ (h.neL hj hb').1), h.ne, h.len, h.ids, by simp [lastG, hl], h.n0, h.n1, h.tn, h.nx, h.loB, h.loL⟩, FrG.setCell h.loL h.tL _⟩
  · rw [Below.heap_setCell _ _ _ _ h.neBL]; exact h.blk
  · obtain ⟨a1, a2⟩ := h2 j hj
    have hlt : i * 2 + 1 < cur.size := (Array.getElem?_eq_some_iff.1 (h2 i hi).2).1
    constructor
    · rw [Array.getElem?_setIfInBounds_ne (by omega)]; exact a1
    · simp only [lastG]
      rw [getD_set _ _ _ _ _ (by omega)]
      by_cases e : j = i
      · subst e; rw [if_pos rfl]; simp [hlt]
      · rw [if_neg e, Array.getElem?_setIfInBounds_ne (by omega)]; exact a2
/-- A lane, anew. -/
theorem GtB.setLane (h : GtB lo w B L t vs g) {i : Nat} (hi : i < g.ws.length) {w1 : World} {v' : Value} {l' : List Itm} (hg : w.grownBy w1 (vs i).ownBlock) (hv : LnAt lo w1 v' l') (hat : ∀ b, v'.ownBlock = some b → (vs i).ownBlock = some b ∨ w.heap.size ≤ b) (hl : l'.length ≤ 400) (hids : ∀ id, It.bar id ∈ l' → 0 < id) :
    GtB lo (w1.setCell ⟨L, i * 2, none⟩ v') B L t (fun j => if j = i then v' else vs j) { g with ws := g.ws.set i l' } ∧ FrG lo w (w1.setCell ⟨L, i * 2, none⟩ v') := by
  obtain ⟨cur, h1, h2⟩ := h.rows
  have hB : w1.heap[B]? = w.heap[B]? := hg.block B h.ltB (fun e => (h.neL hi e.symm).2 rfl)
  have hL : w1.heap[L]? = w.heap[L]? := hg.block L h.ltL (fun e => (h.neL hi e.symm).1 rfl)
  have hL1 : w1.heap[L]? = some (.cells cur 60 (0, 0)) := hL.trans h1
  have hlt : i * 2 < cur.size := (Array.getElem?_eq_some_iff.1 (h2 i hi).1).1
  have hvL : ∀ b, v'.ownBlock = some b → b ≠ L ∧ b ≠ B := fun b hb => by
    rcases hat b hb with e | e
    · exact h.neL hi e
    · have := h.ltL; have := h.ltB; omega
  have hother : ∀ j b, j < g.ws.length → j ≠ i → (vs j).ownBlock = some b → w1.heap[b]? = w.heap[b]? := fun j b hj hne hb =>
    hg.block b ((h.own j hj).lt hb).2.1 (fun e => h.ne j i b hj hi hne hb e.symm)
  refine ⟨⟨?_, ⟨cur.setIfInBounds (i * 2) v', heap_setCell_same w1 L _ _ _ _ hL1, fun j hj => ?_⟩, fun j hj => ?_, fun j k b hj hk hne hb => ?_, fun j hj => ?_, fun l hl' id hid => ?_, by simp [h.lst], by simpa using h.n0, by simpa using h.n1, by simpa using h.tn, by simpa using h.nx, h.loB, h.loL⟩, ?_⟩
  · rw [Below.heap_setCell _ _ _ _ h.neBL, hB]; simpa using h.blk
  · simp only [List.length_set] at hj
    obtain ⟨a1, a2⟩ := h2 j hj
    constructor
    · by_cases e : j = i
      · subst e; simp [hlt]
      · rw [if_neg e, Array.getElem?_setIfInBounds_ne (by omega)]; exact a1
    · rw [Array.getElem?_setIfInBounds_ne (by omega)]; exact a2
  · simp only [List.length_set] at hj
    simp only
    rw [getD_set _ _ _ _ _ hi]
    by_cases e : j = i
    · rw [if_pos e, if_pos e]
      exact hv.block (fun b hb => Below.heap_setCell _ _ _ _ (hvL b hb).1)
    · rw [if_neg e, if_neg e]
      exact (h.own j hj).block (fun b hb => by rw [Below.heap_setCell _ _ _ _ (h.neL hj hb).1]; exact hother j b hj e hb)
  · simp only [List.length_set] at hj hk
    try simp only at hb
    try simp only
    by_cases e : j = i
    · rw [if_pos e] at hb
      rw [if_neg (by omega)]
      intro hk'
      rcases hat b hb with e' | e'
      · exact h.ne k i b hk hi (by omega) hk' e'
      · have := ((h.own k hk).lt hk').2.1; omega
    · rw [if_neg e] at hb
      by_cases e2 : k = i
      · rw [if_pos e2]
        intro hk'
        rcases hat b hk' with e' | e'
        · exact h.ne j i b hj hi e hb e'
        · have := ((h.own j hj).lt hb).2.1; omega
      · rw [if_neg e2]; exact h.ne j k b hj hk hne hb
  · simp only [List.length_set] at hj
    simp only
    rw [getD_set _ _ _ _ _ hi]
    by_cases e : j = i
    · rw [if_pos e]; exact hl
    · rw [if_neg e]; exact h.len j hj
  · rcases List.mem_or_eq_of_mem_set hl' with h' | rfl
    · exact h.ids l h' id hid
    · exact hids id hid
  · refine (FrG.grown hg h.loW (fun k hk => h.tR hi hk)).trans (FrG.setCell h.loL (fun o ho => ?_) _)
    rw [hL] at ho; exact h.tL o ho
end
theorem infoI : (Tryd.prog.info? 65).map (fun i => (i.zero, i.size, i.bytes)) = some (some (.agg #[.string ⟨#[]⟩, .int .i64 0, .int .i64 0, .int .i64 0]), 4, 40) := by kernel_rfl
theorem info_parts {o : Option TypeInfo} {z : Option Value} {s b : Nat} (h : o.map (fun i => (i.zero, i.size, i.bytes)) = some (z, s, b)) : ∃ i, o = some i ∧ i.zero = z ∧ i.size = s ∧ i.bytes = b := by
  cases o with
  | none => cases h
  | some i => simp at h; exact ⟨i, rfl, h.1, h.2.1, h.2.2⟩
end Go.Proofs.YtneglanmigifhaaDoor
