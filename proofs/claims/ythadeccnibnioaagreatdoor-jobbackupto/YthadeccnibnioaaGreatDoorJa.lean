/- Nodes in memory. -/
import Derived.Test.YthadeccnibnioaaGreatDoorRpc
import Derived.Test.YthadeccnibnioaaGreatDoorHp
import Derived.Laws.OwnMore
namespace Go.Proofs.YthadeccnibnioaaGreatDoor
open Go.RowKit

/-- Numbers in memory, behind a slice. -/
def IntsAt (w : World) (fa : Option Addr) (zs : List Int) : Prop :=
  zs = [] ∨ ∃ b o, fa = some ⟨b, o, none⟩ ∧ ∀ (j : Nat) (h : j < zs.length), w.cell? ⟨b, o + j, none⟩ = some (.int .i64 zs[j])

/-- A node's four cells. -/
def NdAt (w : World) (b o : Nat) (nd : Nd) : Prop :=
  w.cell? ⟨b, o, none⟩ = some (.int .i64 nd.k) ∧ (∃ fa fc, w.cell? ⟨b, o + 1, none⟩ = some (.slice fa nd.fs.length fc) ∧ IntsAt w fa nd.fs) ∧
    w.cell? ⟨b, o + 2, none⟩ = some (.string nd.tx) ∧ w.cell? ⟨b, o + 3, none⟩ = some (.int .i64 nd.n) ∧ nd.tx.size ≤ 9223372036854775807 ∧ nd.fs.length ≤ 9223372036854775807

def NdsAt (w : World) (la : Option Addr) (L : List Nd) : Prop :=
  L = [] ∨ ∃ b o, la = some ⟨b, o, none⟩ ∧ ∀ (i : Nat) (h : i < L.length), NdAt w b (o + i * 4) L[i]

theorem cell_lt {w : World} {p : Addr} {v : Value} (h : w.cell? p = some v) : p.block < w.heap.size := World.block_lt_of_cell? _ _ h

/-- What two worlds have alike where one of them has a cell. -/
def Keeps (w w' : World) : Prop := ∀ (p : Addr) (v : Value), w.cell? p = some v → w'.cell? p = some v
theorem Keeps.of {w w' : World} (h : Below w.heap.size w w') : Keeps w w' := fun p v hv => by
  rw [World.cell?_of_block (w := w) (h.block p.block (cell_lt hv))]; exact hv
theorem Keeps.trans {a b c : World} (h : Keeps a b) (k : Keeps b c) : Keeps a c := fun p v hv => k p v (h p v hv)
theorem Keeps.alloc (w : World) (o : Obj) : Keeps w (w.alloc o) := Keeps.of ((Below.refl _ _).alloc (Nat.le_refl _) o)

theorem IntsAt.keep {w w' : World} {fa : Option Addr} {zs : List Int} (h : IntsAt w fa zs) (k : Keeps w w') : IntsAt w' fa zs := by
  rcases h with h | ⟨b, o, h1, h2⟩
  · exact .inl h
  · exact .inr ⟨b, o, h1, fun j hj => k _ _ (h2 j hj)⟩
theorem NdAt.keep {w w' : World} {b o : Nat} {nd : Nd} (h : NdAt w b o nd) (k : Keeps w w') : NdAt w' b o nd := by
  obtain ⟨h0, ⟨fa, fc, h1, h2⟩, h3, h4, h5⟩ := h
  exact ⟨k _ _ h0, ⟨fa, fc, k _ _ h1, h2.keep k⟩, k _ _ h3, k _ _ h4, h5⟩
theorem NdsAt.keep {w w' : World} {la : Option Addr} {L : List Nd} (h : NdsAt w la L) (k : Keeps w w') : NdsAt w' la L := by
  rcases h with h | ⟨b, o, h1, h2⟩
  · exact .inl h
  · exact .inr ⟨b, o, h1, fun i hi => (h2 i hi).keep k⟩

/-- A node as a value. -/
def ndV (nd : Nd) (fa : Option Addr) (fc : Nat) : Value := .agg #[.int .i64 nd.k, .slice fa nd.fs.length fc, .string nd.tx, .int .i64 nd.n]
def errV (e : Nat) : Value := if e = 0 then .nilIface else .iface 77 (.int .i64 e)
theorem errV_zero : errV 0 = .nilIface := by rw [errV, if_pos rfl]
theorem errV_pos {e : Nat} (h : e ≠ 0) : errV e = .iface 77 (.int .i64 e) := by rw [errV, if_neg h]
theorem ck_err (l : List UInt8) : ∃ at_, ckP l = .tuple #[.int .i64 at_, errV (txP l)] := by
  unfold ckP txP
  cases h : readP l with
  | ok t u => exact ⟨0, by simp [errV_zero]⟩
  | bad pl er =>
    refine ⟨((l.length - pl : Nat) : Int), ?_⟩
    simp only
    rw [errV_pos (read_bad_pos h)]
end Go.Proofs.YthadeccnibnioaaGreatDoor
