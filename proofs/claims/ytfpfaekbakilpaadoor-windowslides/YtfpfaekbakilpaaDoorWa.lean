/- Records and panes in memory; what stays. -/
import Derived.Test.YtfpfaekbakilpaaDoorChecked
import Derived.Test.YtfpfaekbakilpaaDoorPureWa
import Derived.WalkKit
import Derived.ProofKit
import Derived.OpenShut
import Derived.Deep.QuietTactic
import Derived.BigQuiet
import Derived.Lib.Slices
import Derived.Lib.Hide
import Derived.Lib.SliceRun
import Derived.SizedLaws
import Derived.OwnWalk
import Derived.BigCall
import Derived.BigRegion
import Derived.Deep.RegionWith
import Derived.Deep.RegionLaw
import Derived.Deep.RegionHeld3
import Derived.Laws.IdiomCopy
import Derived.Deep.Onto
namespace Go.Proofs.YtfpfaekbakilpaaDoor
open Go.RowKit
set_option linter.unusedVariables false

theorem some_lt {w : World} {k : Nat} {o : Obj} (h : w.heap[k]? = some o) : k < w.heap.size := (Array.getElem?_eq_some_iff.1 h).1
theorem cell_lt {w : World} {b o : Nat} {v : Value} (h : w.cell? ⟨b, o, none⟩ = some v) : b < w.heap.size := World.block_lt_of_cell? w _ h
theorem ret_bool {a b : Bool} (h : a = b) : Ending.returned (.bool a) = .returned (.bool b) := by rw [h]
theorem ret_int {k : IntKind} {a b : Int} (h : a = b) : Ending.returned (.int k a) = .returned (.int k b) := by rw [h]
theorem below_after {W X u : World} (k : Below X.heap.size X u) (h : Below W.heap.size W X) : Below W.heap.size W u := h.trans (k.mono h.size)
/-- Of the blocks that were there only those of xs may have turned. -/
structure Fr (xs : List Nat) (w w' : World) : Prop where
  os : w'.os = w.os
  tape : w'.tape = w.tape
  output : w'.output = w.output
  size : w.heap.size ≤ w'.heap.size
  block : ∀ k, k < w.heap.size → k ∉ xs → w'.heap[k]? = w.heap[k]?
theorem Fr.refl (xs : List Nat) (w : World) : Fr xs w w := ⟨rfl, rfl, rfl, Nat.le_refl _, fun _ _ _ => rfl⟩
theorem Fr.trans {xs : List Nat} {a b c : World} (h : Fr xs a b) (k : Fr xs b c) : Fr xs a c :=
  ⟨k.os.trans h.os, k.tape.trans h.tape, k.output.trans h.output, Nat.le_trans h.size k.size, fun i hi hx => (k.block i (Nat.lt_of_lt_of_le hi h.size) hx).trans (h.block i hi hx)⟩
theorem Fr.more {xs ys : List Nat} {a b : World} (h : Fr xs a b) (hy : ∀ k, k < a.heap.size → k ∈ xs → k ∈ ys) : Fr ys a b :=
  ⟨h.os, h.tape, h.output, h.size, fun i hi hx => h.block i hi (fun hm => hx (hy i hi hm))⟩
theorem Fr.alloc {xs : List Nat} {a w : World} (h : Fr xs a w) (o : Obj) : Fr xs a (w.alloc o) :=
  h.trans ⟨rfl, rfl, rfl, by simp, fun k hk _ => Below.heap_alloc _ _ _ hk⟩
theorem Fr.setCell {xs : List Nat} {a w : World} (h : Fr xs a w) {p : Addr} (hp : p.block ∈ xs ∨ a.heap.size ≤ p.block) (u : Value) : Fr xs a (w.setCell p u) :=
  ⟨h.os, h.tape, h.output, by simpa using h.size, fun k hk hx => by
    rw [Below.heap_setCell _ _ _ _ (by rcases hp with hp | hp; exact fun e => hx (e ▸ hp); omega)]; exact h.block k hk hx⟩
theorem Fr.drewN {xs : List Nat} {a w : World} (h : Fr xs a w) (n : Nat) : Fr xs a (w.drewN n) := ⟨h.os, h.tape, h.output, h.size, h.block⟩
theorem Fr.drew {xs : List Nat} {a w : World} (h : Fr xs a w) : Fr xs a w.drew := ⟨h.os, h.tape, h.output, h.size, h.block⟩
theorem Fr.below {xs : List Nat} {a b : World} (h : Below a.heap.size a b) : Fr xs a b := ⟨h.os, h.tape, h.output, h.size, fun k hk _ => h.block k hk⟩
theorem Fr.toBelow {xs : List Nat} {a b : World} {B : Nat} (h : Fr xs a b) (hB : B ≤ a.heap.size) (hx : ∀ k ∈ xs, B ≤ k) : Below B a b :=
  ⟨h.os, h.tape, h.output, h.size, fun k hk => h.block k (by omega) (fun hm => by have := hx k hm; omega)⟩
theorem Fr.cell {xs : List Nat} {a b : World} (h : Fr xs a b) {p : Addr} (hp : p.block < a.heap.size) (hx : p.block ∉ xs) : b.cell? p = a.cell? p := World.cell?_of_block (w := a) (h.block p.block hp hx)
theorem Fr.frozen {xs : List Nat} {a b : World} (h : Fr xs a b) {p : Addr} (hp : p.block < a.heap.size) (hx : p.block ∉ xs) : b.frozen? p = a.frozen? p := World.frozen?_of_block (w := a) (h.block p.block hp hx)

def rcells : List Rg → List Value
  | [] => []
  | r :: l => .string r.key :: .int .i64 r.num :: .int .i64 r.tm :: rcells l
theorem rcells_len : ∀ l : List Rg, (rcells l).length = l.length * 3
  | [] => rfl
  | r :: l => by simp only [rcells, List.length_cons, rcells_len l]; omega
theorem rcells_append : ∀ (a b : List Rg), rcells (a ++ b) = rcells a ++ rcells b
  | [], b => rfl
  | r :: a, b => by simp only [List.cons_append, rcells, rcells_append a b]
theorem rcells_at : ∀ (l : List Rg) (i : Nat) (h : i < l.length), (rcells l)[i * 3]? = some (.string l[i].key) ∧ (rcells l)[i * 3 + 1]? = some (.int .i64 l[i].num) ∧ (rcells l)[i * 3 + 2]? = some (.int .i64 l[i].tm)
  | [], i, h => by simp at h
  | r :: l, 0, _ => by simp [rcells]
  | r :: l, i + 1, h => by
    have := rcells_at l i (by simpa using h)
    rw [show (i + 1) * 3 = i * 3 + 3 from by omega]
    simpa [rcells] using this
theorem rcells_one (l : List Rg) : ∀ u ∈ rcells l, u.oneCell' = true := by
  induction l with
  | nil => simp [rcells]
  | cons r l ih =>
    intro u hu
    simp only [rcells, List.mem_cons] at hu
    rcases hu with rfl | rfl | rfl | hu
    · rfl
    · rfl
    · rfl
    · exact ih u hu
def pcells : List Pn → List Value
  | [] => []
  | r :: l => .string r.key :: .int .i64 r.fr :: .int .i64 r.to :: .int .i64 r.mn :: .int .i64 r.sm :: .int .i64 r.lt :: pcells l
theorem pcells_len : ∀ l : List Pn, (pcells l).length = l.length * 6
  | [] => rfl
  | r :: l => by simp only [pcells, List.length_cons, pcells_len l]; omega
theorem pcells_append : ∀ (a b : List Pn), pcells (a ++ b) = pcells a ++ pcells b
  | [], b => rfl
  | r :: a, b => by simp only [List.cons_append, pcells, pcells_append a b]
theorem pcells_at : ∀ (l : List Pn) (i : Nat) (h : i < l.length), (pcells l)[i * 6]? = some (.string l[i].key) ∧ (pcells l)[i * 6 + 1]? = some (.int .i64 l[i].fr) ∧ (pcells l)[i * 6 + 2]? = some (.int .i64 l[i].to) ∧ (pcells l)[i * 6 + 3]? = some (.int .i64 l[i].mn) ∧ (pcells l)[i * 6 + 4]? = some (.int .i64 l[i].sm) ∧ (pcells l)[i * 6 + 5]? = some (.int .i64 l[i].lt)
  | [], i, h => by simp at h
  | r :: l, 0, _ => by simp [pcells]
  | r :: l, i + 1, h => by
    have := pcells_at l i (by simpa using h)
    rw [show (i + 1) * 6 = i * 6 + 6 from by omega]
    simpa [pcells] using this
def pV (p : Pn) : Value := .agg #[.string p.key, .int .i64 p.fr, .int .i64 p.to, .int .i64 p.mn, .int .i64 p.sm, .int .i64 p.lt]
def rV (r : Rg) : Value := .agg #[.string r.key, .int .i64 r.num, .int .i64 r.tm]
/-- Cells behind a slice. -/
def CsAt (w : World) (la : Option Addr) (cs : List Value) : Prop :=
  cs = [] ∨ ∃ b o, la = some ⟨b, o, none⟩ ∧ ∀ j u, cs[j]? = some u → w.cell? ⟨b, o + j, none⟩ = some u
theorem CsAt.keep {w w' : World} {la : Option Addr} {cs : List Value} (h : CsAt w la cs) (hb : Below w.heap.size w w') : CsAt w' la cs := by
  rcases h with h | ⟨b, o, rfl, hc⟩
  · exact .inl h
  · refine .inr ⟨b, o, rfl, fun j u hu => ?_⟩
    have := hc j u hu
    rw [hb.cell (p := ⟨b, o + j, none⟩) (cell_lt this)]; exact this
theorem CsAt.at {w : World} {la : Option Addr} {cs : List Value} (h : CsAt w la cs) (hne : cs ≠ []) : ∃ b o, la = some ⟨b, o, none⟩ ∧ ∀ j u, cs[j]? = some u → w.cell? ⟨b, o + j, none⟩ = some u := by
  rcases h with h | h
  · exact absurd h hne
  · exact h
theorem own_cs {w : World} {B e n cap m : Nat} {A : Option Addr} {cs : List Value} (h : w.ownsRow B e m (.slice A n cap) n cs) (hn : cs.length = n * m) : CsAt w A cs ∧ n ≤ cap := by
  rcases h.2 with ⟨h0, h1⟩ | ⟨g, cap', cur, h0, hb, hg, hle, hm, hs, ht⟩
  · subst h1
    exact ⟨.inl (List.eq_nil_of_length_eq_zero (by simpa using hn)), by omega⟩
  · simp at h0
    obtain ⟨rfl, rfl⟩ := h0
    refine ⟨.inr ⟨g, 0, rfl, fun j u hu => ?_⟩, hle⟩
    have hj : j < n * m := by
      rw [← hn]
      exact (List.getElem?_eq_some_iff.1 hu).1
    rw [Nat.zero_add, h.cellAt j hj, hu]
theorem rcs_at {w : World} {la : Option Addr} {L : List Rg} (h : CsAt w la (rcells L)) (k : Nat) (hk : k < L.length) : ∃ b o, la = some ⟨b, o, none⟩ ∧ w.cell? ⟨b, o + k * 3, none⟩ = some (.string L[k].key) ∧ w.cell? ⟨b, o + k * 3 + 1, none⟩ = some (.int .i64 L[k].num) ∧ w.cell? ⟨b, o + k * 3 + 2, none⟩ = some (.int .i64 L[k].tm) := by
  obtain ⟨b, o, rfl, hc⟩ := h.at (by intro e; have := rcells_len L; rw [e] at this; simp at this; omega)
  obtain ⟨h0, h1, h2⟩ := rcells_at L k hk
  exact ⟨b, o, rfl, hc _ _ h0, by rw [Nat.add_assoc]; exact hc _ _ h1, by rw [Nat.add_assoc]; exact hc _ _ h2⟩
theorem pns_at {w : World} {la : Option Addr} {L : List Pn} (h : CsAt w la (pcells L)) (k : Nat) (hk : k < L.length) : ∃ b o, la = some ⟨b, o, none⟩ ∧ w.cell? ⟨b, o + k * 6, none⟩ = some (.string L[k].key) ∧ w.cell? ⟨b, o + k * 6 + 1, none⟩ = some (.int .i64 L[k].fr) ∧ w.cell? ⟨b, o + k * 6 + 2, none⟩ = some (.int .i64 L[k].to) ∧ w.cell? ⟨b, o + k * 6 + 3, none⟩ = some (.int .i64 L[k].mn) ∧ w.cell? ⟨b, o + k * 6 + 4, none⟩ = some (.int .i64 L[k].sm) ∧ w.cell? ⟨b, o + k * 6 + 5, none⟩ = some (.int .i64 L[k].lt) := by
  obtain ⟨b, o, rfl, hc⟩ := h.at (by intro e; have := pcells_len L; rw [e] at this; simp at this; omega)
  obtain ⟨h0, h1, h2, h3, h4, h5⟩ := pcells_at L k hk
  exact ⟨b, o, rfl, hc _ _ h0, by rw [Nat.add_assoc]; exact hc _ _ h1, by rw [Nat.add_assoc]; exact hc _ _ h2, by rw [Nat.add_assoc]; exact hc _ _ h3, by rw [Nat.add_assoc]; exact hc _ _ h4, by rw [Nat.add_assoc]; exact hc _ _ h5⟩
theorem rcs_of {W : World} {b o : Nat} : ∀ {L : List Rg}, (∀ i (hi : i < L.length), W.cell? ⟨b, o + i * 3, none⟩ = some (.string L[i].key) ∧ W.cell? ⟨b, o + i * 3 + 1, none⟩ = some (.int .i64 L[i].num) ∧ W.cell? ⟨b, o + i * 3 + 2, none⟩ = some (.int .i64 L[i].tm)) → CsAt W (some ⟨b, o, none⟩) (rcells L) := by
  intro L h
  refine .inr ⟨b, o, rfl, fun j u hu => ?_⟩
  have hj : j < L.length * 3 := by rw [← rcells_len]; exact (List.getElem?_eq_some_iff.1 hu).1
  have hi : j / 3 < L.length := by omega
  obtain ⟨g0, g1, g2⟩ := rcells_at L (j / 3) hi
  obtain ⟨k0, k1, k2⟩ := h (j / 3) hi
  have hm : j = j / 3 * 3 ∨ j = j / 3 * 3 + 1 ∨ j = j / 3 * 3 + 2 := by omega
  rcases hm with e | e | e
  · rw [e, g0] at hu; rw [e]; rw [← hu]; exact k0
  · rw [e, g1] at hu; rw [e]; rw [← Nat.add_assoc]; rw [← hu]; exact k1
  · rw [e, g2] at hu; rw [e]; rw [← Nat.add_assoc]; rw [← hu]; exact k2
theorem pns_of {W : World} {b o : Nat} : ∀ {L : List Pn}, (∀ i (hi : i < L.length), W.cell? ⟨b, o + i * 6, none⟩ = some (.string L[i].key) ∧ W.cell? ⟨b, o + i * 6 + 1, none⟩ = some (.int .i64 L[i].fr) ∧ W.cell? ⟨b, o + i * 6 + 2, none⟩ = some (.int .i64 L[i].to) ∧ W.cell? ⟨b, o + i * 6 + 3, none⟩ = some (.int .i64 L[i].mn) ∧ W.cell? ⟨b, o + i * 6 + 4, none⟩ = some (.int .i64 L[i].sm) ∧ W.cell? ⟨b, o + i * 6 + 5, none⟩ = some (.int .i64 L[i].lt)) → CsAt W (some ⟨b, o, none⟩) (pcells L) := by
  intro L h
  refine .inr ⟨b, o, rfl, fun j u hu => ?_⟩
  have hj : j < L.length * 6 := by rw [← pcells_len]; exact (List.getElem?_eq_some_iff.1 hu).1
  have hi : j / 6 < L.length := by omega
  obtain ⟨g0, g1, g2, g3, g4, g5⟩ := pcells_at L (j / 6) hi
  obtain ⟨k0, k1, k2, k3, k4, k5⟩ := h (j / 6) hi
  have hm : j = j / 6 * 6 ∨ j = j / 6 * 6 + 1 ∨ j = j / 6 * 6 + 2 ∨ j = j / 6 * 6 + 3 ∨ j = j / 6 * 6 + 4 ∨ j = j / 6 * 6 + 5 := by omega
  rcases hm with e | e | e | e | e | e
  · rw [e, g0] at hu; rw [e]; rw [← hu]; exact k0
  · rw [e, g1] at hu; rw [e]; rw [← Nat.add_assoc]; rw [← hu]; exact k1
  · rw [e, g2] at hu; rw [e]; rw [← Nat.add_assoc]; rw [← hu]; exact k2
  · rw [e, g3] at hu; rw [e]; rw [← Nat.add_assoc]; rw [← hu]; exact k3
  · rw [e, g4] at hu; rw [e]; rw [← Nat.add_assoc]; rw [← hu]; exact k4
  · rw [e, g5] at hu; rw [e]; rw [← Nat.add_assoc]; rw [← hu]; exact k5
theorem row_slice {w : World} {B n e m : Nat} {v : Value} {xs : List Value} (h : w.ownsRow B e m v n xs) : ∃ A cap, v = .slice A n cap := by
  rcases h.2 with ⟨h0, h1⟩ | ⟨g, cap', cur, h0, _⟩
  · exact ⟨none, 0, by rw [h0, h1]⟩
  · exact ⟨_, _, h0⟩
/-- An error, or none. -/
def errV (k : Nat) : Value := if k = 0 then .nilIface else .iface 52 (.int .i64 k)
theorem any_snoc {α : Type} (f : α → Bool) (l : List α) (k : Nat) (h : k < l.length) : (l.take (k + 1)).any f = ((l.take k).any f || f l[k]) := by
  rw [List.take_succ_eq_append_getElem h, List.any_append, List.any_cons, List.any_nil, Bool.or_false]
theorem any_at {α : Type} {f : α → Bool} {l : List α} (k : Nat) (h : k < l.length) (hf : f l[k] = true) : l.any f = true := List.any_eq_true.2 ⟨_, List.getElem_mem h, hf⟩
theorem info_parts {o : Option TypeInfo} {z : Option Value} {s b : Nat} (h : o.map (fun i => (i.zero, i.size, i.bytes)) = some (z, s, b)) : ∃ i, o = some i ∧ i.zero = z ∧ i.size = s ∧ i.bytes = b := by
  cases o with
  | none => cases h
  | some i => simp at h; exact ⟨i, rfl, h.1, h.2.1, h.2.2⟩
theorem infoR : (Tryd.prog.info? 47).map (fun i => (i.zero, i.size, i.bytes)) = some (some (.agg #[.string ⟨#[]⟩, .int .i64 0, .int .i64 0]), 3, 32) := by kernel_rfl
theorem infoP : (Tryd.prog.info? 49).map (fun i => (i.zero, i.size, i.bytes)) = some (some (.agg #[.string ⟨#[]⟩, .int .i64 0, .int .i64 0, .int .i64 0, .int .i64 0, .int .i64 0]), 6, 56) := by kernel_rfl
end Go.Proofs.YtfpfaekbakilpaaDoor
