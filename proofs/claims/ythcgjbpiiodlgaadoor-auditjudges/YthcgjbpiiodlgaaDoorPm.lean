/- Numbers and lines in memory. -/
import Derived.Test.YthcgjbpiiodlgaaDoorProg
import Derived.Test.YthcgjbpiiodlgaaDoorPureP
import Derived.WalkKit
import Derived.ProofKit
import Derived.OpenShut
import Derived.Deep.QuietTactic
import Derived.BigQuiet
import Derived.Deep.RegionWith
import Derived.Laws.OwnMore
namespace Go.Proofs.YthcgjbpiiodlgaaDoor
open Go.RowKit

/-- Numbers in memory, behind a slice. -/
def IntsAt (w : World) (fa : Option Addr) (zs : List Int) : Prop :=
  zs = [] ∨ ∃ b o, fa = some ⟨b, o, none⟩ ∧ ∀ (j : Nat) (h : j < zs.length), w.cell? ⟨b, o + j, none⟩ = some (.int .i64 zs[j])

theorem cell_lt {w : World} {p : Addr} {v : Value} (h : w.cell? p = some v) : p.block < w.heap.size := World.block_lt_of_cell? _ _ h

/-- What two worlds have alike where one of them has a cell. -/
def Keeps (w w' : World) : Prop := ∀ (p : Addr) (v : Value), w.cell? p = some v → w'.cell? p = some v
theorem Keeps.of {w w' : World} (h : Below w.heap.size w w') : Keeps w w' := fun p v hv => by
  rw [World.cell?_of_block (w := w) (h.block p.block (cell_lt hv))]; exact hv
theorem Keeps.trans {a b c : World} (h : Keeps a b) (k : Keeps b c) : Keeps a c := fun p v hv => k p v (h p v hv)
theorem Keeps.alloc (w : World) (o : Obj) : Keeps w (w.alloc o) := Keeps.of ((Below.refl _ _).alloc (Nat.le_refl _) o)

theorem IntsAt.keep {w w' : World} {fa : Option Addr} {zs : List Int} (h : IntsAt w fa zs) (k : Keeps w w') : IntsAt w' fa zs := by
  rcases h with h | ⟨b, o, h1, h2⟩
  · exact .inl h
  · exact .inr ⟨b, o, h1, fun j hj => k _ _ (h2 j hj)⟩
end Go.Proofs.YthcgjbpiiodlgaaDoor
