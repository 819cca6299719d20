/- Bytes in memory; what stays. -/
import Derived.Test.YtcmnijpcinmbbaaGreatDoorFe
import Derived.Test.YtcmnijpcinmbbaaGreatDoorPureDk
import Derived.WalkKit
import Derived.ProofKit
import Derived.OpenShut
import Derived.Deep.QuietTactic
import Derived.BigQuiet
import Derived.Lib.AppendStr
import Derived.Lib.Slices
import Derived.Lib.Hide
import Derived.Lib.SliceRun
import Derived.Laws.IdiomStrings
import Derived.Laws.BytesArg
import Derived.SizedLaws
import Derived.OwnWalk
import Derived.BigCall
import Derived.Maps.OwnSet
import Derived.Maps.AppendAt
import Derived.Deep.RegionWith
import Derived.Deep.RegionHeld3
namespace Go.Proofs.YtcmnijpcinmbbaaGreatDoor
open Go.ChangeShapes Go.WideShapes Go.RowKit
/-- Of the blocks that were there only those of xs may have turned. -/
structure Fr (xs : List Nat) (w w' : World) : Prop where
  os : w'.os = w.os
  tape : w'.tape = w.tape
  output : w'.output = w.output
  size : w.heap.size ≤ w'.heap.size
  block : ∀ k, k < w.heap.size → k ∉ xs → w'.heap[k]? = w.heap[k]?

theorem Fr.refl (xs : List Nat) (w : World) : Fr xs w w := ⟨rfl, rfl, rfl, Nat.le_refl _, fun _ _ _ => rfl⟩
theorem Fr.trans {xs : List Nat} {a b c : World} (h : Fr xs a b) (k : Fr xs b c) : Fr xs a c :=
  ⟨k.os.trans h.os, k.tape.trans h.tape, k.output.trans h.output, Nat.le_trans h.size k.size, fun i hi hx => (k.block i (Nat.lt_of_lt_of_le hi h.size) hx).trans (h.block i hi hx)⟩
theorem Fr.more {xs ys : List Nat} {a b : World} (h : Fr xs a b) (hy : ∀ k, k < a.heap.size → k ∈ xs → k ∈ ys) : Fr ys a b :=
  ⟨h.os, h.tape, h.output, h.size, fun i hi hx => h.block i hi (fun hm => hx (hy i hi hm))⟩
theorem Fr.alloc {xs : List Nat} {a w : World} (h : Fr xs a w) (o : Obj) : Fr xs a (w.alloc o) :=
  h.trans ⟨rfl, rfl, rfl, by simp, fun k hk _ => Below.heap_alloc _ _ _ hk⟩
theorem Fr.setCell {xs : List Nat} {a w : World} (h : Fr xs a w) {p : Addr} (hp : p.block ∈ xs ∨ a.heap.size ≤ p.block) (u : Value) : Fr xs a (w.setCell p u) :=
  ⟨h.os, h.tape, h.output, by simpa using h.size, fun k hk hx => by
    rw [Below.heap_setCell _ _ _ _ (by rcases hp with hp | hp; exact fun e => hx (e ▸ hp); omega)]; exact h.block k hk hx⟩
theorem Fr.drewN {xs : List Nat} {a w : World} (h : Fr xs a w) (n : Nat) : Fr xs a (w.drewN n) := ⟨h.os, h.tape, h.output, h.size, h.block⟩
theorem Fr.below {xs : List Nat} {a b : World} (h : Below a.heap.size a b) : Fr xs a b := ⟨h.os, h.tape, h.output, h.size, fun k hk _ => h.block k hk⟩
theorem Fr.toBelow {xs : List Nat} {a b : World} {B : Nat} (h : Fr xs a b) (hB : B ≤ a.heap.size) (hx : ∀ k ∈ xs, B ≤ k) : Below B a b :=
  ⟨h.os, h.tape, h.output, h.size, fun k hk => h.block k (by omega) (fun hm => by have := hx k hm; omega)⟩
theorem Fr.cell {xs : List Nat} {a b : World} (h : Fr xs a b) {p : Addr} (hp : p.block < a.heap.size) (hx : p.block ∉ xs) : b.cell? p = a.cell? p := World.cell?_of_block (w := a) (h.block p.block hp hx)
theorem Fr.frozen {xs : List Nat} {a b : World} (h : Fr xs a b) {p : Addr} (hp : p.block < a.heap.size) (hx : p.block ∉ xs) : b.frozen? p = a.frozen? p := World.frozen?_of_block (w := a) (h.block p.block hp hx)

end Go.Proofs.YtcmnijpcinmbbaaGreatDoor
