/- Memory of a reading: the reader's block, the trees made, what stays as it was. -/
import Derived.Test.YthadeccnibnioaaGreatDoorShelf
import Derived.Test.YthadeccnibnioaaGreatDoorPureE
import Derived.WalkKit
import Derived.ProofKit
import Derived.OpenShut
import Derived.Recover
import Derived.Deep.QuietTactic
import Derived.BigQuiet
import Derived.Deep.RegionWith
namespace Go.Proofs.YthadeccnibnioaaGreatDoor
open Go.RowKit

/-- Of the blocks that were there only those of xs may have turned. -/
structure Fr (xs : List Nat) (w w' : World) : Prop where
  os : w'.os = w.os
  tape : w'.tape = w.tape
  output : w'.output = w.output
  size : w.heap.size ≤ w'.heap.size
  block : ∀ k, k < w.heap.size → k ∉ xs → w'.heap[k]? = w.heap[k]?

theorem Fr.refl (xs : List Nat) (w : World) : Fr xs w w := ⟨rfl, rfl, rfl, Nat.le_refl _, fun _ _ _ => rfl⟩
theorem Fr.trans {xs : List Nat} {a b c : World} (h : Fr xs a b) (k : Fr xs b c) : Fr xs a c :=
  ⟨k.os.trans h.os, k.tape.trans h.tape, k.output.trans h.output, Nat.le_trans h.size k.size, fun i hi hx => (k.block i (Nat.lt_of_lt_of_le hi h.size) hx).trans (h.block i hi hx)⟩
theorem Fr.more {xs ys : List Nat} {a b : World} (h : Fr xs a b) (hy : ∀ k, k < a.heap.size → k ∈ xs → k ∈ ys) : Fr ys a b :=
  ⟨h.os, h.tape, h.output, h.size, fun i hi hx => h.block i hi (fun hm => hx (hy i hi hm))⟩
theorem Fr.alloc {xs : List Nat} {a w : World} (h : Fr xs a w) (o : Obj) : Fr xs a (w.alloc o) :=
  h.trans ⟨rfl, rfl, rfl, by simp, fun k hk _ => Below.heap_alloc _ _ _ hk⟩
theorem Fr.setCell {xs : List Nat} {a w : World} (h : Fr xs a w) {p : Addr} (hp : p.block ∈ xs ∨ a.heap.size ≤ p.block) (u : Value) : Fr xs a (w.setCell p u) :=
  ⟨h.os, h.tape, h.output, by simpa using h.size, fun k hk hx => by
    rw [Below.heap_setCell _ _ _ _ (by rcases hp with hp | hp; exact fun e => hx (e ▸ hp); omega)]; exact h.block k hk hx⟩
theorem Fr.drewN {xs : List Nat} {a w : World} (h : Fr xs a w) (n : Nat) : Fr xs a (w.drewN n) := ⟨h.os, h.tape, h.output, h.size, h.block⟩
theorem Fr.below {xs : List Nat} {a b : World} (h : Below a.heap.size a b) : Fr xs a b := ⟨h.os, h.tape, h.output, h.size, fun k hk _ => h.block k hk⟩
theorem Fr.toBelow {xs : List Nat} {a b : World} {B : Nat} (h : Fr xs a b) (hB : B ≤ a.heap.size) (hx : ∀ k ∈ xs, B ≤ k) : Below B a b :=
  ⟨h.os, h.tape, h.output, h.size, fun k hk => h.block k (by omega) (fun hm => by have := hx k hm; omega)⟩
theorem Fr.cell {xs : List Nat} {a b : World} (h : Fr xs a b) {p : Addr} (hp : p.block < a.heap.size) (hx : p.block ∉ xs) : b.cell? p = a.cell? p := World.cell?_of_block (w := a) (h.block p.block hp hx)
theorem Fr.frozen {xs : List Nat} {a b : World} (h : Fr xs a b) {p : Addr} (hp : p.block < a.heap.size) (hx : p.block ∉ xs) : b.frozen? p = a.frozen? p := World.frozen?_of_block (w := a) (h.block p.block hp hx)

/-- The reader: its text, how far it is read, within how many levels. -/
def Rd (w : World) (rb : Nat) (s : ByteArray) (k dp : Nat) : Prop := w.heap[rb]? = some (.cells #[.string s, .int .i64 k, .int .i64 dp] 123)

theorem Rd.lt {w : World} {rb k dp : Nat} {s : ByteArray} (h : Rd w rb s k dp) : rb < w.heap.size := by
  unfold Rd at h
  rcases Nat.lt_or_ge rb w.heap.size with h' | h'
  · exact h'
  · rw [Array.getElem?_eq_none h'] at h; cases h
theorem Rd.c0 {w : World} {rb k dp : Nat} {s : ByteArray} (h : Rd w rb s k dp) : w.cell? ⟨rb, 0, none⟩ = some (.string s) := by unfold Rd at h; simp [World.cell?, h]
theorem Rd.c1 {w : World} {rb k dp : Nat} {s : ByteArray} (h : Rd w rb s k dp) : w.cell? ⟨rb, 1, none⟩ = some (.int .i64 k) := by unfold Rd at h; simp [World.cell?, h]
theorem Rd.c2 {w : World} {rb k dp : Nat} {s : ByteArray} (h : Rd w rb s k dp) : w.cell? ⟨rb, 2, none⟩ = some (.int .i64 dp) := by unfold Rd at h; simp [World.cell?, h]
theorem Rd.fz {w : World} {rb k dp : Nat} {s : ByteArray} (h : Rd w rb s k dp) (o : Nat) : w.frozen? ⟨rb, o, none⟩ = false := by unfold Rd at h; simp [World.frozen?, h]
theorem Rd.set1 {w : World} {rb k dp : Nat} {s : ByteArray} (h : Rd w rb s k dp) (j : Nat) : Rd (w.setCell ⟨rb, 1, none⟩ (.int .i64 j)) rb s j dp := by
  unfold Rd at h ⊢; simp [World.setCell, Array.getElem?_modify, h]
theorem Rd.set2 {w : World} {rb k dp : Nat} {s : ByteArray} (h : Rd w rb s k dp) (j : Nat) : Rd (w.setCell ⟨rb, 2, none⟩ (.int .i64 j)) rb s k j := by
  unfold Rd at h ⊢; simp [World.setCell, Array.getElem?_modify, h]
theorem Rd.alloc {w : World} {rb k dp : Nat} {s : ByteArray} (h : Rd w rb s k dp) (o : Obj) : Rd (w.alloc o) rb s k dp := by
  have := h.lt; unfold Rd at h ⊢; rw [Below.heap_alloc _ _ _ this]; exact h
theorem Rd.setOther {w : World} {rb k dp : Nat} {s : ByteArray} (h : Rd w rb s k dp) {p : Addr} (hp : p.block ≠ rb) (v : Value) : Rd (w.setCell p v) rb s k dp := by
  unfold Rd at h ⊢; rw [Below.heap_setCell _ _ _ _ (Ne.symm hp)]; exact h
theorem Rd.drewN {w : World} {rb k dp : Nat} {s : ByteArray} (h : Rd w rb s k dp) (n : Nat) : Rd (w.drewN n) rb s k dp := h
theorem Rd.fr {xs : List Nat} {w w' : World} {rb k dp : Nat} {s : ByteArray} (h : Rd w rb s k dp) (f : Fr xs w w') (hx : rb ∉ xs) : Rd w' rb s k dp := by
  have := h.lt; unfold Rd at h ⊢; rw [f.block _ this hx]; exact h

/-- The two errors that the library tells stand in their variables. -/
def Gl (w : World) : Prop := 10 ≤ w.heap.size ∧ (∃ ev, w.cell? ⟨3, 0, none⟩ = some ev ∧ (ev = .nilIface ∨ ∃ te pe, ev = .iface te pe)) ∧ (∃ ev, w.cell? ⟨4, 0, none⟩ = some ev ∧ (ev = .nilIface ∨ ∃ te pe, ev = .iface te pe))
theorem Gl.fr {xs : List Nat} {w w' : World} (h : Gl w) (f : Fr xs w w') (hx : ∀ k ∈ xs, 10 ≤ k) : Gl w' := by
  obtain ⟨h0, ⟨e1, h1, h1'⟩, ⟨e2, h2, h2'⟩⟩ := h
  have hs := f.size
  refine ⟨by omega, ⟨e1, ?_, h1'⟩, ⟨e2, ?_, h2'⟩⟩
  · rw [f.cell (by show _ < _; simp; omega) (fun hm => by have := hx _ hm; simp at this)]; exact h1
  · rw [f.cell (by show _ < _; simp; omega) (fun hm => by have := hx _ hm; simp at this)]; exact h2

/-- A tree in memory, all of it in blocks from lo on. -/
def Tr (lo : Nat) (w : World) : Tm → Nat → Prop
  | .num v, p => lo ≤ p ∧ v < 9223372036854775808 ∧ w.heap[p]? = some (.cells #[.int .u8 48, .int .i64 v, .slice none 0 0] 138)
  | .vn, p => lo ≤ p ∧ w.heap[p]? = some (.cells #[.int .u8 110, .int .i64 0, .slice none 0 0] 138)
  | .vs, p => lo ≤ p ∧ w.heap[p]? = some (.cells #[.int .u8 115, .int .i64 0, .slice none 0 0] 138)
  | .neg a, p => lo ≤ p ∧ ∃ q pa, lo ≤ q ∧ w.heap[p]? = some (.cells #[.int .u8 126, .int .i64 0, .slice (some ⟨q, 0, none⟩) 1 1] 138) ∧ w.heap[q]? = some (.cells #[.pointer (some ⟨pa, 0, none⟩)] 74) ∧ Tr lo w a pa
  | .two op a b, p => lo ≤ p ∧ ∃ q pa pb, lo ≤ q ∧ w.heap[p]? = some (.cells #[.int .u8 op.toNat, .int .i64 0, .slice (some ⟨q, 0, none⟩) 2 2] 138) ∧ w.heap[q]? = some (.cells #[.pointer (some ⟨pa, 0, none⟩), .pointer (some ⟨pb, 0, none⟩)] 74) ∧ Tr lo w a pa ∧ Tr lo w b pb
  | .cond a b c, p => lo ≤ p ∧ ∃ q pa pb pc, lo ≤ q ∧ w.heap[p]? = some (.cells #[.int .u8 63, .int .i64 0, .slice (some ⟨q, 0, none⟩) 3 3] 138) ∧ w.heap[q]? = some (.cells #[.pointer (some ⟨pa, 0, none⟩), .pointer (some ⟨pb, 0, none⟩), .pointer (some ⟨pc, 0, none⟩)] 74) ∧ Tr lo w a pa ∧ Tr lo w b pb ∧ Tr lo w c pc

theorem some_lt {w : World} {p : Nat} {o : Obj} (h : w.heap[p]? = some o) : p < w.heap.size := by
  rcases Nat.lt_or_ge p w.heap.size with h' | h'
  · exact h'
  · rw [Array.getElem?_eq_none h'] at h; cases h

theorem Tr.keep {lo : Nat} {w w' : World} (key : ∀ (p : Nat) (o : Obj), lo ≤ p → w.heap[p]? = some o → w'.heap[p]? = some o) : ∀ (t : Tm) (p : Nat), Tr lo w t p → Tr lo w' t p := by
  intro t
  induction t with
  | num v => intro p h; exact ⟨h.1, h.2.1, key _ _ h.1 h.2.2⟩
  | vn => intro p h; exact ⟨h.1, key _ _ h.1 h.2⟩
  | vs => intro p h; exact ⟨h.1, key _ _ h.1 h.2⟩
  | neg a ih =>
    intro p h
    obtain ⟨h1, q, pa, h2, h3, h4, h5⟩ := h
    exact ⟨h1, q, pa, h2, key _ _ h1 h3, key _ _ h2 h4, ih _ h5⟩
  | two op a b iha ihb =>
    intro p h
    obtain ⟨h1, q, pa, pb, h2, h3, h4, h5, h6⟩ := h
    exact ⟨h1, q, pa, pb, h2, key _ _ h1 h3, key _ _ h2 h4, iha _ h5, ihb _ h6⟩
  | cond a b c iha ihb ihc =>
    intro p h
    obtain ⟨h1, q, pa, pb, pc, h2, h3, h4, h5, h6, h7⟩ := h
    exact ⟨h1, q, pa, pb, pc, h2, key _ _ h1 h3, key _ _ h2 h4, iha _ h5, ihb _ h6, ihc _ h7⟩

theorem Tr.fr {xs : List Nat} {w w' : World} {lo : Nat} (f : Fr xs w w') (hx : ∀ k ∈ xs, k < lo) (t : Tm) (p : Nat) (h : Tr lo w t p) : Tr lo w' t p :=
  Tr.keep (fun p o hp h => by rw [f.block p (some_lt h) (fun hm => by have := hx p hm; omega)]; exact h) t p h

theorem Tr.mono {w : World} {lo lo' : Nat} (hl : lo' ≤ lo) : ∀ (t : Tm) (p : Nat), Tr lo w t p → Tr lo' w t p := by
  intro t
  induction t with
  | num v => intro p h; exact ⟨Nat.le_trans hl h.1, h.2⟩
  | vn => intro p h; exact ⟨Nat.le_trans hl h.1, h.2⟩
  | vs => intro p h; exact ⟨Nat.le_trans hl h.1, h.2⟩
  | neg a ih =>
    intro p h
    obtain ⟨h1, q, pa, h2, h3, h4, h5⟩ := h
    exact ⟨Nat.le_trans hl h1, q, pa, Nat.le_trans hl h2, h3, h4, ih _ h5⟩
  | two op a b iha ihb =>
    intro p h
    obtain ⟨h1, q, pa, pb, h2, h3, h4, h5, h6⟩ := h
    exact ⟨Nat.le_trans hl h1, q, pa, pb, Nat.le_trans hl h2, h3, h4, iha _ h5, ihb _ h6⟩
  | cond a b c iha ihb ihc =>
    intro p h
    obtain ⟨h1, q, pa, pb, pc, h2, h3, h4, h5, h6, h7⟩ := h
    exact ⟨Nat.le_trans hl h1, q, pa, pb, pc, Nat.le_trans hl h2, h3, h4, iha _ h5, ihb _ h6, ihc _ h7⟩

theorem Tr.lt {w : World} {lo : Nat} {t : Tm} {p : Nat} (h : Tr lo w t p) : p < w.heap.size := by
  cases t with
  | num v => exact some_lt h.2.2
  | vn => exact some_lt h.2
  | vs => exact some_lt h.2
  | neg a => obtain ⟨h1, q, pa, h2, h3, _⟩ := h; exact some_lt h3
  | two op a b => obtain ⟨h1, q, pa, pb, h2, h3, _⟩ := h; exact some_lt h3
  | cond a b c => obtain ⟨h1, q, pa, pb, pc, h2, h3, _⟩ := h; exact some_lt h3

theorem Tr.alloc {w : World} {lo : Nat} {t : Tm} {p : Nat} (h : Tr lo w t p) (o : Obj) : Tr lo (w.alloc o) t p := Tr.fr (xs := []) ((Fr.refl _ _).alloc o) (by simp) t p h

/-- What a reader is when a call begins. -/
structure Cx (w : World) (rb : Nat) (s : ByteArray) (k dp : Nat) : Prop where
  rd : Rd w rb s k dp
  gl : Gl w
  lo : 10 ≤ rb
  le : k ≤ s.size
  short : s.size ≤ 120

theorem Cx.fr {w w' : World} {rb k dp k' dp' : Nat} {s : ByteArray} (h : Cx w rb s k dp) (f : Fr [rb] w w') (hr : Rd w' rb s k' dp') (hk : k' ≤ s.size) : Cx w' rb s k' dp' :=
  ⟨hr, h.gl.fr f (by simpa using h.lo), h.lo, hk, h.short⟩
theorem Cx.frx {xs : List Nat} {w w' : World} {rb k dp k' dp' : Nat} {s : ByteArray} (h : Cx w rb s k dp) (f : Fr xs w w') (hx : ∀ k ∈ xs, 10 ≤ k) (hr : Rd w' rb s k' dp') (hk : k' ≤ s.size) : Cx w' rb s k' dp' :=
  ⟨hr, h.gl.fr f hx, h.lo, hk, h.short⟩

def flt (pl e : Nat) : List PanicEntry := [{ v := .iface 120 (.agg #[.int .i64 pl, .int .i64 e]), recovered := false }]

/-- How a reading call ends: a tree, and the reader goes on; or a panic with a place. -/
def Out (rb : Nat) (s : ByteArray) (dp : Nat) (w : World) (r : Res) (e : Ending) (w' : World) : Prop :=
  match r with
  | .ok t u => ∃ p k, e = .returned (.pointer (some ⟨p, 0, none⟩)) ∧ Tr w.heap.size w' t p ∧ Rd w' rb s k dp ∧ k ≤ s.size ∧ u = s.data.toList.drop k ∧ Fr [rb] w w'
  | .bad pl er => e = .panicked (flt (s.size - pl) er) ∧ Fr [rb] w w'

/-- How a call ends that lays its tree into a variable. -/
def OutV (rb cv : Nat) (s : ByteArray) (dp : Nat) (w : World) (r : Res) (e : Ending) (w' : World) : Prop :=
  match r with
  | .ok t u => ∃ p k, e = .returned (.tuple #[]) ∧ Tr w.heap.size w' t p ∧ w'.heap[cv]? = some (.cells #[.pointer (some ⟨p, 0, none⟩)] 74) ∧ Rd w' rb s k dp ∧ k ≤ s.size ∧ u = s.data.toList.drop k ∧ Fr [rb, cv] w w'
  | .bad pl er => e = .panicked (flt (s.size - pl) er) ∧ Fr [rb, cv] w w'

theorem cell1 {w : World} {b : Nat} {v : Value} {t : TypeId} (h : w.heap[b]? = some (.cells #[v] t)) : w.cell? ⟨b, 0, none⟩ = some v ∧ w.frozen? ⟨b, 0, none⟩ = false := by
  simp [World.cell?, World.frozen?, h]
theorem heap_set1 {w : World} {b : Nat} {v u : Value} {t : TypeId} (h : w.heap[b]? = some (.cells #[v] t)) : (w.setCell ⟨b, 0, none⟩ u).heap[b]? = some (.cells #[u] t) := by
  simp [World.setCell, Array.getElem?_modify, h]

end Go.Proofs.YthadeccnibnioaaGreatDoor
