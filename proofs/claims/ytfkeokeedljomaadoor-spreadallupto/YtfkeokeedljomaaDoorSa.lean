/- Numbers in a row; what stays. -/
import Derived.Test.YtfkeokeedljomaaDoorChecked
import Derived.Test.YtfkeokeedljomaaDoorPureSp
import Derived.WalkKit
import Derived.ProofKit
import Derived.OpenShut
import Derived.Deep.QuietTactic
import Derived.BigQuiet
import Derived.Lib.Slices
import Derived.Lib.Hide
import Derived.Lib.SliceRun
import Derived.SizedLaws
import Derived.OwnWalk
import Derived.BigCall
import Derived.BigRegion
import Derived.Deep.RegionWith
import Derived.Deep.RegionLaw
import Derived.Deep.RegionHeld3
import Derived.Laws.IdiomCopy
import Derived.Deep.Onto
import Derived.Deep.CutBlock
import Derived.Deep.DeepCutAuto
namespace Go.Proofs.YtfkeokeedljomaaDoor
open Go.RowKit
set_option linter.unusedVariables false

theorem some_lt {w : World} {k : Nat} {o : Obj} (h : w.heap[k]? = some o) : k < w.heap.size := (Array.getElem?_eq_some_iff.1 h).1
theorem cell_lt {w : World} {b o : Nat} {v : Value} (h : w.cell? ⟨b, o, none⟩ = some v) : b < w.heap.size := World.block_lt_of_cell? w _ h
theorem ret_bool {a b : Bool} (h : a = b) : Ending.returned (.bool a) = .returned (.bool b) := by rw [h]
theorem ret_int {k : IntKind} {a b : Int} (h : a = b) : Ending.returned (.int k a) = .returned (.int k b) := by rw [h]
theorem below_after {W X u : World} (k : Below X.heap.size X u) (h : Below W.heap.size W X) : Below W.heap.size W u := h.trans (k.mono h.size)
/-- Of the blocks that were there only those of xs may have turned. -/
structure Fr (xs : List Nat) (w w' : World) : Prop where
  os : w'.os = w.os
  tape : w'.tape = w.tape
  output : w'.output = w.output
  size : w.heap.size ≤ w'.heap.size
  block : ∀ k, k < w.heap.size → k ∉ xs → w'.heap[k]? = w.heap[k]?
theorem Fr.refl (xs : List Nat) (w : World) : Fr xs w w := ⟨rfl, rfl, rfl, Nat.le_refl _, fun _ _ _ => rfl⟩
theorem Fr.trans {xs : List Nat} {a b c : World} (h : Fr xs a b) (k : Fr xs b c) : Fr xs a c :=
  ⟨k.os.trans h.os, k.tape.trans h.tape, k.output.trans h.output, Nat.le_trans h.size k.size, fun i hi hx => (k.block i (Nat.lt_of_lt_of_le hi h.size) hx).trans (h.block i hi hx)⟩
theorem Fr.more {xs ys : List Nat} {a b : World} (h : Fr xs a b) (hy : ∀ k, k < a.heap.size → k ∈ xs → k ∈ ys) : Fr ys a b :=
  ⟨h.os, h.tape, h.output, h.size, fun i hi hx => h.block i hi (fun hm => hx (hy i hi hm))⟩
theorem Fr.alloc {xs : List Nat} {a w : World} (h : Fr xs a w) (o : Obj) : Fr xs a (w.alloc o) :=
  h.trans ⟨rfl, rfl, rfl, by simp, fun k hk _ => Below.heap_alloc _ _ _ hk⟩
theorem Fr.setCell {xs : List Nat} {a w : World} (h : Fr xs a w) {p : Addr} (hp : p.block ∈ xs ∨ a.heap.size ≤ p.block) (u : Value) : Fr xs a (w.setCell p u) :=
  ⟨h.os, h.tape, h.output, by simpa using h.size, fun k hk hx => by
    rw [Below.heap_setCell _ _ _ _ (by rcases hp with hp | hp; exact fun e => hx (e ▸ hp); omega)]; exact h.block k hk hx⟩
theorem Fr.drewN {xs : List Nat} {a w : World} (h : Fr xs a w) (n : Nat) : Fr xs a (w.drewN n) := ⟨h.os, h.tape, h.output, h.size, h.block⟩
theorem Fr.drew {xs : List Nat} {a w : World} (h : Fr xs a w) : Fr xs a w.drew := ⟨h.os, h.tape, h.output, h.size, h.block⟩
theorem Fr.below {xs : List Nat} {a b : World} (h : Below a.heap.size a b) : Fr xs a b := ⟨h.os, h.tape, h.output, h.size, fun k hk _ => h.block k hk⟩
theorem Fr.toBelow {xs : List Nat} {a b : World} {B : Nat} (h : Fr xs a b) (hB : B ≤ a.heap.size) (hx : ∀ k ∈ xs, B ≤ k) : Below B a b :=
  ⟨h.os, h.tape, h.output, h.size, fun k hk => h.block k (by omega) (fun hm => by have := hx k hm; omega)⟩
theorem Fr.cell {xs : List Nat} {a b : World} (h : Fr xs a b) {p : Addr} (hp : p.block < a.heap.size) (hx : p.block ∉ xs) : b.cell? p = a.cell? p := World.cell?_of_block (w := a) (h.block p.block hp hx)
theorem Fr.frozen {xs : List Nat} {a b : World} (h : Fr xs a b) {p : Addr} (hp : p.block < a.heap.size) (hx : p.block ∉ xs) : b.frozen? p = a.frozen? p := World.frozen?_of_block (w := a) (h.block p.block hp hx)


/-- Cells behind a slice. -/
def CsAt (w : World) (la : Option Addr) (cs : List Value) : Prop :=
  cs = [] ∨ ∃ b o, la = some ⟨b, o, none⟩ ∧ ∀ j u, cs[j]? = some u → w.cell? ⟨b, o + j, none⟩ = some u
theorem CsAt.keep {w w' : World} {la : Option Addr} {cs : List Value} (h : CsAt w la cs) (hb : Below w.heap.size w w') : CsAt w' la cs := by
  rcases h with h | ⟨b, o, rfl, hc⟩
  · exact .inl h
  · refine .inr ⟨b, o, rfl, fun j u hu => ?_⟩
    have := hc j u hu
    rw [hb.cell (p := ⟨b, o + j, none⟩) (cell_lt this)]; exact this
theorem CsAt.at {w : World} {la : Option Addr} {cs : List Value} (h : CsAt w la cs) (hne : cs ≠ []) : ∃ b o, la = some ⟨b, o, none⟩ ∧ ∀ j u, cs[j]? = some u → w.cell? ⟨b, o + j, none⟩ = some u := by
  rcases h with h | h
  · exact absurd h hne
  · exact h
theorem own_cs {w : World} {B e n cap m : Nat} {A : Option Addr} {cs : List Value} (h : w.ownsRow B e m (.slice A n cap) n cs) (hn : cs.length = n * m) : CsAt w A cs ∧ n ≤ cap := by
  rcases h.2 with ⟨h0, h1⟩ | ⟨g, cap', cur, h0, hb, hg, hle, hm, hs, ht⟩
  · subst h1
    exact ⟨.inl (List.eq_nil_of_length_eq_zero (by simpa using hn)), by omega⟩
  · simp at h0
    obtain ⟨rfl, rfl⟩ := h0
    refine ⟨.inr ⟨g, 0, rfl, fun j u hu => ?_⟩, hle⟩
    have hj : j < n * m := by
      rw [← hn]
      exact (List.getElem?_eq_some_iff.1 hu).1
    rw [Nat.zero_add, h.cellAt j hj, hu]
theorem row_slice {w : World} {B n e m : Nat} {v : Value} {xs : List Value} (h : w.ownsRow B e m v n xs) : ∃ A cap, v = .slice A n cap := by
  rcases h.2 with ⟨h0, h1⟩ | ⟨g, cap', cur, h0, _⟩
  · exact ⟨none, 0, by rw [h0, h1]⟩
  · exact ⟨_, _, h0⟩
/-- An error, or none. -/
def errV (k : Nat) : Value := if k = 0 then .nilIface else .iface 38 (.int .i64 k)
theorem any_snoc {α : Type} (f : α → Bool) (l : List α) (k : Nat) (h : k < l.length) : (l.take (k + 1)).any f = ((l.take k).any f || f l[k]) := by
  rw [List.take_succ_eq_append_getElem h, List.any_append, List.any_cons, List.any_nil, Bool.or_false]
theorem any_at {α : Type} {f : α → Bool} {l : List α} (k : Nat) (h : k < l.length) (hf : f l[k] = true) : l.any f = true := List.any_eq_true.2 ⟨_, List.getElem_mem h, hf⟩
theorem info_parts {o : Option TypeInfo} {z : Option Value} {s b : Nat} (h : o.map (fun i => (i.zero, i.size, i.bytes)) = some (z, s, b)) : ∃ i, o = some i ∧ i.zero = z ∧ i.size = s ∧ i.bytes = b := by
  cases o with
  | none => cases h
  | some i => simp at h; exact ⟨i, rfl, h.1, h.2.1, h.2.2⟩

/-- A row of numbers, one after the other from the first cell of its block. -/
def IR (w : World) (b : Nat) (L : List Nat) : Prop := ∀ k x : Nat, L[k]? = some x → w.cell? ⟨b, k, none⟩ = some (.int .i64 (x : Int)) ∧ w.frozen? ⟨b, k, none⟩ = false
theorem IR.fr {w w' : World} {b : Nat} {L : List Nat} {xs : List Nat} (h : IR w b L) (hx : b ∉ xs) (f : Fr xs w w') : IR w' b L := fun k x hk => by
  obtain ⟨h1, h2⟩ := h k x hk
  exact ⟨by rw [f.cell (p := ⟨b, k, none⟩) (cell_lt h1) hx]; exact h1, by rw [f.frozen (p := ⟨b, k, none⟩) (cell_lt h1) hx]; exact h2⟩
theorem IR.drewN {w : World} {b : Nat} {L : List Nat} (h : IR w b L) (n : Nat) : IR (w.drewN n) b L := h
theorem IR.set {w : World} {b : Nat} {L : List Nat} (h : IR w b L) (p v : Nat) : IR (w.setCell ⟨b, p, none⟩ (.int .i64 (v : Int))) b (L.set p v) := fun k x hk => by
  by_cases hp : p = k
  · subst hp
    rw [List.getElem?_set] at hk
    simp only [if_true] at hk
    split at hk
    · rename_i hlt
      injection hk with hk
      subst hk
      obtain ⟨h1, h2⟩ := h p L[p] (List.getElem?_eq_getElem hlt)
      exact ⟨World.cell?_setCell_same _ _ _ h1, by rw [World.frozen?_setCell]; exact h2⟩
    · cases hk
  · rw [List.getElem?_set_ne hp] at hk
    obtain ⟨h1, h2⟩ := h k x hk
    exact ⟨by rw [World.cell?_setCell_other (h := by intro e; injection e with _ e2 _; exact hp e2)]; exact h1, by rw [World.frozen?_setCell]; exact h2⟩
theorem IR.swp {w : World} {b : Nat} {D : List Nat} (h : IR w b D) {p q x y : Nat} (hp : D[p]? = some x) (hq : D[q]? = some y) :
    IR ((w.setCell ⟨b, p, none⟩ (.int .i64 (y : Int))).setCell ⟨b, q, none⟩ (.int .i64 (x : Int))) b (swp D p q) := by
  have e1 : D.getD q 0 = y := by rw [List.getD_eq_getElem?_getD, hq]; rfl
  have e2 : D.getD p 0 = x := by rw [List.getD_eq_getElem?_getD, hp]; rfl
  have := (h.set p y).set q x
  unfold Go.Proofs.YtfkeokeedljomaaDoor.swp
  rw [e1, e2]
  exact this
theorem at_lt {α : Type} {l : List α} {k : Nat} (h : k < l.length) : ∃ x, l[k]? = some x := ⟨_, List.getElem?_eq_getElem h⟩
end Go.Proofs.YtfkeokeedljomaaDoor
