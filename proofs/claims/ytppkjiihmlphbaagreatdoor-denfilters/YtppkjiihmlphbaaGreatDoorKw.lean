import Derived.Test.YtppkjiihmlphbaaGreatDoorRa
import Derived.Test.YtppkjiihmlphbaaGreatDoorRows
import Derived.ChangeSame
import Derived.ChangeVars
import Derived.JoinedOf
import Derived.RowKit
import Derived.RowKitTokens
import Derived.LaidLaws
import Derived.LaidHandle
import Derived.Stop.Joined
import Derived.Stop.LaidErr
import Derived.Test.YtppkjiihmlphbaaGreatDoorKm
import Derived.Test.YtppkjiihmlphbaaGreatDoorPureQ
/- From the rows' condition on the listed variables to the cells that the walks read; a world that meets it. -/
namespace Go.Proofs.YtppkjiihmlphbaaGreatDoor
open Go.ChangeShapes Go.WideShapes Go.RowKit

def laidL : List (String × DataW Unit) := [("math/bits.deBruijn32tab", Rows.laid_math_bits_deBruijn32tab), ("math/bits.deBruijn64tab", Rows.laid_math_bits_deBruijn64tab), ("internal/strconv.uint64pow10", Rows.laid_internal_strconv_uint64pow10), ("strconv.ErrRange", Rows.laid_strconv_ErrRange), ("strconv.ErrSyntax", Rows.laid_strconv_ErrSyntax)]
theorem Tryz.own : ownKnob Tryz.prog.godebug = none := by kernel_rfl
theorem Tryz.cellsES : Tryz.prog.cellsOf 184 = 1 := by kernel_rfl
theorem Tryz.cells9 : Tryz.prog.cellsOf 9 = 1 := by kernel_rfl
theorem Tryz.star : "*" ++ "errors.errorString" = "*errors.errorString" := by decide
theorem Tryz.rowES (u : TypeId) (h : Tryz.prog.typeName? 3 u = some "*errors.errorString") : u = 182 :=
  typeName_ptr_named (nm := "errors.errorString") (by rw [Tryz.star]; kernel_rfl) (by kernel_rfl) (by decide) u (by rw [Tryz.star]; exact h)
theorem Tryz.gES : Tryz.prog.globalNamed "strconv.ErrSyntax" = some 4 := by kernel_rfl
theorem Tryz.gESType : (Tryz.prog.globals[4]?).map (·.type) = some 29 := by kernel_rfl
theorem Tryz.gER : Tryz.prog.globalNamed "strconv.ErrRange" = some 5 := by kernel_rfl
theorem Tryz.gERType : (Tryz.prog.globals[5]?).map (·.type) = some 29 := by kernel_rfl

theorem lt_of_cell {w : World} {p : Addr} {v : Value} (h : w.cell? p = some v) : p.block < w.heap.size := by
  rcases Nat.lt_or_ge p.block w.heap.size with h' | h'
  · exact h'
  · unfold World.cell? at h; rw [Array.getElem?_eq_none h'] at h; cases h

theorem lt_of_var {P : Program} {W : World} {name : String} {g : Nat} {cs : Array Value} (hg : P.globalNamed name = some g) (h : W.var? P name = some cs) : g < W.heap.size := by
  unfold World.var? at h
  rw [hg] at h
  rcases Nat.lt_or_ge g W.heap.size with h' | h'
  · exact h'
  · simp [Array.getElem?_eq_none h'] at h
theorem Tryz.gLast : Tryz.prog.globalNamed "strconv.ErrRange" = some 5 := by kernel_rfl

/-- What the condition gives a walk: the two errors' cells. -/
theorem gl_of_laid {W : World} (h : laidMet Tryz.prog laidL W) : Gl W := by
  have h' := h
  obtain ⟨a0, s0, hv0, -, -, -⟩ := laid_sentinel (h'.tail.tail.tail.tail) Tryz.gES Tryz.gESType Tryz.underlying29 Tryz.rowES Tryz.underlying182 Tryz.underlying184 rfl rfl Tryz.underlying9 Tryz.cellsES Tryz.cells9
  obtain ⟨a1, s1, hv1, -, -, -⟩ := laid_sentinel (h'.tail.tail.tail) Tryz.gER Tryz.gERType Tryz.underlying29 Tryz.rowES Tryz.underlying182 Tryz.underlying184 rfl rfl Tryz.underlying9 Tryz.cellsES Tryz.cells9
  have c0 : W.cell? ⟨4, 0, none⟩ = some (.iface 182 (.pointer (some a0))) := by
    have h0 := World.var?_cell Tryz.gES hv0 0; simpa using h0
  have c1 : W.cell? ⟨5, 0, none⟩ = some (.iface 182 (.pointer (some a1))) := by
    have h0 := World.var?_cell Tryz.gER hv1 0; simpa using h0
  have l0 := lt_of_cell c0
  have l1 := lt_of_cell c1
  have l2 : 5 < W.heap.size := by
    obtain ⟨ps, ⟨g', t', cs, fuel, p, q, hg', ht', hvar, hd, _, _⟩, _⟩ := h'.tail.tail.tail
    exact lt_of_var Tryz.gLast hvar
  exact ⟨by simp at l0 l1; omega, ⟨_, c0, .inr ⟨_, _, rfl⟩⟩, ⟨_, c1, .inr ⟨_, _, rfl⟩⟩⟩
def lay2 : Obj → Obj
  | .cells _ t frozen => .cells #[.int .u8 0, .int .u8 1, .int .u8 28, .int .u8 2, .int .u8 29, .int .u8 14, .int .u8 24, .int .u8 3, .int .u8 30, .int .u8 22, .int .u8 20, .int .u8 15, .int .u8 25, .int .u8 17, .int .u8 4, .int .u8 8, .int .u8 31, .int .u8 27, .int .u8 13, .int .u8 23, .int .u8 21, .int .u8 19, .int .u8 16, .int .u8 7, .int .u8 26, .int .u8 12, .int .u8 18, .int .u8 6, .int .u8 11, .int .u8 5, .int .u8 10, .int .u8 9] t frozen
  | o => o
def lay3 : Obj → Obj
  | .cells _ t frozen => .cells #[.int .u8 0, .int .u8 1, .int .u8 56, .int .u8 2, .int .u8 57, .int .u8 49, .int .u8 28, .int .u8 3, .int .u8 61, .int .u8 58, .int .u8 42, .int .u8 50, .int .u8 38, .int .u8 29, .int .u8 17, .int .u8 4, .int .u8 62, .int .u8 47, .int .u8 59, .int .u8 36, .int .u8 45, .int .u8 43, .int .u8 51, .int .u8 22, .int .u8 53, .int .u8 39, .int .u8 33, .int .u8 30, .int .u8 24, .int .u8 18, .int .u8 12, .int .u8 5, .int .u8 63, .int .u8 55, .int .u8 48, .int .u8 27, .int .u8 60, .int .u8 41, .int .u8 37, .int .u8 16, .int .u8 46, .int .u8 35, .int .u8 44, .int .u8 21, .int .u8 52, .int .u8 32, .int .u8 23, .int .u8 11, .int .u8 54, .int .u8 26, .int .u8 40, .int .u8 15, .int .u8 34, .int .u8 20, .int .u8 31, .int .u8 10, .int .u8 25, .int .u8 14, .int .u8 19, .int .u8 9, .int .u8 13, .int .u8 8, .int .u8 7, .int .u8 6] t frozen
  | o => o
def lay1 : Obj → Obj
  | .cells _ t frozen => .cells #[.int .u64 1, .int .u64 10, .int .u64 100, .int .u64 1000, .int .u64 10000, .int .u64 100000, .int .u64 1000000, .int .u64 10000000, .int .u64 100000000, .int .u64 1000000000, .int .u64 10000000000, .int .u64 100000000000, .int .u64 1000000000000, .int .u64 10000000000000, .int .u64 100000000000000, .int .u64 1000000000000000, .int .u64 10000000000000000, .int .u64 100000000000000000, .int .u64 1000000000000000000, .int .u64 10000000000000000000] t frozen
  | o => o
def lay5 (n : Nat) : Obj → Obj
  | .cells _ t frozen => .cells #[.iface 182 (.pointer (some ⟨n + 0, 0, none⟩))] t frozen
  | o => o
def lay4 (n : Nat) : Obj → Obj
  | .cells _ t frozen => .cells #[.iface 182 (.pointer (some ⟨n + 1, 0, none⟩))] t frozen
  | o => o
/-- A world with the listed variables laid; its last blocks are the errors' own. -/
def laidAt (w : World) : World := { w with heap := (((((w.heap).modify 2 (lay2)).modify 3 (lay3)).modify 1 (lay1)).modify 5 (lay5 (w.heap.size - 2))).modify 4 (lay4 (w.heap.size - 2)) }
def ownBlocks : Array Obj := #[.cells #[.string ⟨#[118, 97, 108, 117, 101, 32, 111, 117, 116, 32, 111, 102, 32, 114, 97, 110, 103, 101]⟩] 184, .cells #[.string ⟨#[105, 110, 118, 97, 108, 105, 100, 32, 115, 121, 110, 116, 97, 120]⟩] 184]
theorem laidWorld_met (os : Os) (args : Array Value) : laidMetH Tryz.prog laidL ((laidAt (World.holding Tryz.prog os ⟨ownBlocks, #[], []⟩)).forCall (fun _ _ => 0) ⟨#[], args, []⟩).memory :=
  laidMetH_of_parts (laidMet_of_run' 8 (by kernel_rfl) (by kernel_rfl)) (by kernel_rfl)
end Go.Proofs.YtppkjiihmlphbaaGreatDoor

/- The walk of DenFilters. -/
namespace Go.Proofs.YtppkjiihmlphbaaGreatDoor
open Go.RowKit
set_option linter.unusedVariables false

theorem nds_take {w : World} {la : Option Addr} {L : List Nd} (h : NdsAt w la L) (k : Nat) : NdsAt w la (L.take k) := by
  rcases h with h | ⟨b, o, h1, h2⟩
  · exact .inl (by simp [h])
  · refine .inr ⟨b, o, h1, fun i hi => ?_⟩
    have hi' : i < L.length := by simp at hi; omega
    rw [List.getElem_take]; exact h2 i hi'

set_option maxRecDepth 100000 in
theorem lit_plain (w : World) (tx : ByteArray) (hz : tx.size ≤ 9223372036854775807) : NdsAt (((w.alloc (.cells #[.int .i64 0] 3)).alloc (.cells #[.int .i64 1] 3)).alloc (.cells #[.int .i64 1, .slice none 0 0, .string ⟨#[]⟩, .int .i64 2, .int .i64 2, .slice (some ⟨w.heap.size, 0, none⟩) 1 1, .string tx, .int .i64 0, .int .i64 10, .slice (some ⟨w.heap.size + 1, 0, none⟩) 1 1, .string ⟨#[]⟩, .int .i64 0] 26)) (some ⟨w.heap.size + 1 + 1, 0, none⟩) (jPlain tx) ∧ Below w.heap.size w (((w.alloc (.cells #[.int .i64 0] 3)).alloc (.cells #[.int .i64 1] 3)).alloc (.cells #[.int .i64 1, .slice none 0 0, .string ⟨#[]⟩, .int .i64 2, .int .i64 2, .slice (some ⟨w.heap.size, 0, none⟩) 1 1, .string tx, .int .i64 0, .int .i64 10, .slice (some ⟨w.heap.size + 1, 0, none⟩) 1 1, .string ⟨#[]⟩, .int .i64 0] 26)) := by
  have i0 : IntsAt ((w.alloc (.cells #[.int .i64 0] 3)).alloc (.cells #[.int .i64 1] 3)) (some ⟨w.heap.size, 0, none⟩) [0] := by
    have h := int_new (w) 0 3
    exact (h).keep (Keeps.alloc _ _)
  have i1 : IntsAt ((w.alloc (.cells #[.int .i64 0] 3)).alloc (.cells #[.int .i64 1] 3)) (some ⟨w.heap.size + 1, 0, none⟩) [1] := by
    have h := int_new (w.alloc (.cells #[.int .i64 0] 3)) 1 3
    rw [World.size_alloc] at h
    exact h
  have hn := nodes_new ((w.alloc (.cells #[.int .i64 0] 3)).alloc (.cells #[.int .i64 1] 3)) [((⟨1, [], emp, 2⟩ : Nd), (none : Option Addr), 0), ((⟨2, [0], tx, 0⟩ : Nd), some ⟨w.heap.size, 0, none⟩, 1), ((⟨10, [1], emp, 0⟩ : Nd), some ⟨w.heap.size + 1, 0, none⟩, 1)] 26 (by
    intro x hx
    simp only [List.mem_cons, List.not_mem_nil, or_false] at hx
    rcases hx with rfl | rfl | rfl
    · exact ⟨.inl rfl, (show emp.size ≤ _ by decide), by simp⟩
    · exact ⟨i0, hz, by simp⟩
    · exact ⟨i1, (show emp.size ≤ _ by decide), by simp⟩)
  rw [World.size_alloc, World.size_alloc] at hn
  exact ⟨hn, (((Below.refl _ w).alloc (by simp <;> omega) _).alloc (by simp <;> omega) _).alloc (by simp <;> omega) _⟩

set_option maxRecDepth 100000 in
theorem lit_long (w : World) (tx : ByteArray) (hz : tx.size ≤ 9223372036854775807) : NdsAt ((((((((w.alloc (.cells #[.int .i64 0] 3)).alloc (.cells #[.int .i64 1] 3)).alloc (.cells #[.int .i64 2] 3)).alloc (.cells #[.int .i64 3] 3)).alloc (.cells #[.int .i64 4] 3)).alloc (.cells #[.int .i64 4] 3)).alloc (.cells #[.int .i64 6] 3)).alloc (.cells #[.int .i64 1, .slice none 0 0, .string ⟨#[]⟩, .int .i64 2, .int .i64 3, .slice (some ⟨w.heap.size, 0, none⟩) 1 1, .string ⟨#[49]⟩, .int .i64 0, .int .i64 2, .slice (some ⟨w.heap.size + 1, 0, none⟩) 1 1, .string ⟨#[110]⟩, .int .i64 0, .int .i64 5, .slice (some ⟨w.heap.size + 1 + 1, 0, none⟩) 1 1, .string ⟨#[]⟩, .int .i64 1, .int .i64 2, .slice (some ⟨w.heap.size + 1 + 1 + 1, 0, none⟩) 1 1, .string tx, .int .i64 0, .int .i64 10, .slice (some ⟨w.heap.size + 1 + 1 + 1 + 1, 0, none⟩) 1 1, .string ⟨#[]⟩, .int .i64 0, .int .i64 3, .slice (some ⟨w.heap.size + 1 + 1 + 1 + 1 + 1, 0, none⟩) 1 1, .string ⟨#[48]⟩, .int .i64 0, .int .i64 10, .slice (some ⟨w.heap.size + 1 + 1 + 1 + 1 + 1 + 1, 0, none⟩) 1 1, .string ⟨#[]⟩, .int .i64 0] 26)) (some ⟨w.heap.size + 1 + 1 + 1 + 1 + 1 + 1 + 1, 0, none⟩) (jLong tx) ∧ Below w.heap.size w ((((((((w.alloc (.cells #[.int .i64 0] 3)).alloc (.cells #[.int .i64 1] 3)).alloc (.cells #[.int .i64 2] 3)).alloc (.cells #[.int .i64 3] 3)).alloc (.cells #[.int .i64 4] 3)).alloc (.cells #[.int .i64 4] 3)).alloc (.cells #[.int .i64 6] 3)).alloc (.cells #[.int .i64 1, .slice none 0 0, .string ⟨#[]⟩, .int .i64 2, .int .i64 3, .slice (some ⟨w.heap.size, 0, none⟩) 1 1, .string ⟨#[49]⟩, .int .i64 0, .int .i64 2, .slice (some ⟨w.heap.size + 1, 0, none⟩) 1 1, .string ⟨#[110]⟩, .int .i64 0, .int .i64 5, .slice (some ⟨w.heap.size + 1 + 1, 0, none⟩) 1 1, .string ⟨#[]⟩, .int .i64 1, .int .i64 2, .slice (some ⟨w.heap.size + 1 + 1 + 1, 0, none⟩) 1 1, .string tx, .int .i64 0, .int .i64 10, .slice (some ⟨w.heap.size + 1 + 1 + 1 + 1, 0, none⟩) 1 1, .string ⟨#[]⟩, .int .i64 0, .int .i64 3, .slice (some ⟨w.heap.size + 1 + 1 + 1 + 1 + 1, 0, none⟩) 1 1, .string ⟨#[48]⟩, .int .i64 0, .int .i64 10, .slice (some ⟨w.heap.size + 1 + 1 + 1 + 1 + 1 + 1, 0, none⟩) 1 1, .string ⟨#[]⟩, .int .i64 0] 26)) := by
  have i0 : IntsAt (((((((w.alloc (.cells #[.int .i64 0] 3)).alloc (.cells #[.int .i64 1] 3)).alloc (.cells #[.int .i64 2] 3)).alloc (.cells #[.int .i64 3] 3)).alloc (.cells #[.int .i64 4] 3)).alloc (.cells #[.int .i64 4] 3)).alloc (.cells #[.int .i64 6] 3)) (some ⟨w.heap.size, 0, none⟩) [0] := by
    have h := int_new (w) 0 3
    exact ((((((h).keep (Keeps.alloc _ _)).keep (Keeps.alloc _ _)).keep (Keeps.alloc _ _)).keep (Keeps.alloc _ _)).keep (Keeps.alloc _ _)).keep (Keeps.alloc _ _)
  have i1 : IntsAt (((((((w.alloc (.cells #[.int .i64 0] 3)).alloc (.cells #[.int .i64 1] 3)).alloc (.cells #[.int .i64 2] 3)).alloc (.cells #[.int .i64 3] 3)).alloc (.cells #[.int .i64 4] 3)).alloc (.cells #[.int .i64 4] 3)).alloc (.cells #[.int .i64 6] 3)) (some ⟨w.heap.size + 1, 0, none⟩) [1] := by
    have h := int_new (w.alloc (.cells #[.int .i64 0] 3)) 1 3
    rw [World.size_alloc] at h
    exact (((((h).keep (Keeps.alloc _ _)).keep (Keeps.alloc _ _)).keep (Keeps.alloc _ _)).keep (Keeps.alloc _ _)).keep (Keeps.alloc _ _)
  have i2 : IntsAt (((((((w.alloc (.cells #[.int .i64 0] 3)).alloc (.cells #[.int .i64 1] 3)).alloc (.cells #[.int .i64 2] 3)).alloc (.cells #[.int .i64 3] 3)).alloc (.cells #[.int .i64 4] 3)).alloc (.cells #[.int .i64 4] 3)).alloc (.cells #[.int .i64 6] 3)) (some ⟨w.heap.size + 1 + 1, 0, none⟩) [2] := by
    have h := int_new ((w.alloc (.cells #[.int .i64 0] 3)).alloc (.cells #[.int .i64 1] 3)) 2 3
    rw [World.size_alloc, World.size_alloc] at h
    exact ((((h).keep (Keeps.alloc _ _)).keep (Keeps.alloc _ _)).keep (Keeps.alloc _ _)).keep (Keeps.alloc _ _)
  have i3 : IntsAt (((((((w.alloc (.cells #[.int .i64 0] 3)).alloc (.cells #[.int .i64 1] 3)).alloc (.cells #[.int .i64 2] 3)).alloc (.cells #[.int .i64 3] 3)).alloc (.cells #[.int .i64 4] 3)).alloc (.cells #[.int .i64 4] 3)).alloc (.cells #[.int .i64 6] 3)) (some ⟨w.heap.size + 1 + 1 + 1, 0, none⟩) [3] := by
    have h := int_new (((w.alloc (.cells #[.int .i64 0] 3)).alloc (.cells #[.int .i64 1] 3)).alloc (.cells #[.int .i64 2] 3)) 3 3
    rw [World.size_alloc, World.size_alloc, World.size_alloc] at h
    exact (((h).keep (Keeps.alloc _ _)).keep (Keeps.alloc _ _)).keep (Keeps.alloc _ _)
  have i4 : IntsAt (((((((w.alloc (.cells #[.int .i64 0] 3)).alloc (.cells #[.int .i64 1] 3)).alloc (.cells #[.int .i64 2] 3)).alloc (.cells #[.int .i64 3] 3)).alloc (.cells #[.int .i64 4] 3)).alloc (.cells #[.int .i64 4] 3)).alloc (.cells #[.int .i64 6] 3)) (some ⟨w.heap.size + 1 + 1 + 1 + 1, 0, none⟩) [4] := by
    have h := int_new ((((w.alloc (.cells #[.int .i64 0] 3)).alloc (.cells #[.int .i64 1] 3)).alloc (.cells #[.int .i64 2] 3)).alloc (.cells #[.int .i64 3] 3)) 4 3
    rw [World.size_alloc, World.size_alloc, World.size_alloc, World.size_alloc] at h
    exact ((h).keep (Keeps.alloc _ _)).keep (Keeps.alloc _ _)
  have i5 : IntsAt (((((((w.alloc (.cells #[.int .i64 0] 3)).alloc (.cells #[.int .i64 1] 3)).alloc (.cells #[.int .i64 2] 3)).alloc (.cells #[.int .i64 3] 3)).alloc (.cells #[.int .i64 4] 3)).alloc (.cells #[.int .i64 4] 3)).alloc (.cells #[.int .i64 6] 3)) (some ⟨w.heap.size + 1 + 1 + 1 + 1 + 1, 0, none⟩) [4] := by
    have h := int_new (((((w.alloc (.cells #[.int .i64 0] 3)).alloc (.cells #[.int .i64 1] 3)).alloc (.cells #[.int .i64 2] 3)).alloc (.cells #[.int .i64 3] 3)).alloc (.cells #[.int .i64 4] 3)) 4 3
    rw [World.size_alloc, World.size_alloc, World.size_alloc, World.size_alloc, World.size_alloc] at h
    exact (h).keep (Keeps.alloc _ _)
  have i6 : IntsAt (((((((w.alloc (.cells #[.int .i64 0] 3)).alloc (.cells #[.int .i64 1] 3)).alloc (.cells #[.int .i64 2] 3)).alloc (.cells #[.int .i64 3] 3)).alloc (.cells #[.int .i64 4] 3)).alloc (.cells #[.int .i64 4] 3)).alloc (.cells #[.int .i64 6] 3)) (some ⟨w.heap.size + 1 + 1 + 1 + 1 + 1 + 1, 0, none⟩) [6] := by
    have h := int_new ((((((w.alloc (.cells #[.int .i64 0] 3)).alloc (.cells #[.int .i64 1] 3)).alloc (.cells #[.int .i64 2] 3)).alloc (.cells #[.int .i64 3] 3)).alloc (.cells #[.int .i64 4] 3)).alloc (.cells #[.int .i64 4] 3)) 6 3
    rw [World.size_alloc, World.size_alloc, World.size_alloc, World.size_alloc, World.size_alloc, World.size_alloc] at h
    exact h
  have hn := nodes_new (((((((w.alloc (.cells #[.int .i64 0] 3)).alloc (.cells #[.int .i64 1] 3)).alloc (.cells #[.int .i64 2] 3)).alloc (.cells #[.int .i64 3] 3)).alloc (.cells #[.int .i64 4] 3)).alloc (.cells #[.int .i64 4] 3)).alloc (.cells #[.int .i64 6] 3)) [((⟨1, [], emp, 2⟩ : Nd), (none : Option Addr), 0), ((⟨3, [0], tx1, 0⟩ : Nd), some ⟨w.heap.size, 0, none⟩, 1), ((⟨2, [1], txn, 0⟩ : Nd), some ⟨w.heap.size + 1, 0, none⟩, 1), ((⟨5, [2], emp, 1⟩ : Nd), some ⟨w.heap.size + 1 + 1, 0, none⟩, 1), ((⟨2, [3], tx, 0⟩ : Nd), some ⟨w.heap.size + 1 + 1 + 1, 0, none⟩, 1), ((⟨10, [4], emp, 0⟩ : Nd), some ⟨w.heap.size + 1 + 1 + 1 + 1, 0, none⟩, 1), ((⟨3, [4], tx0, 0⟩ : Nd), some ⟨w.heap.size + 1 + 1 + 1 + 1 + 1, 0, none⟩, 1), ((⟨10, [6], emp, 0⟩ : Nd), some ⟨w.heap.size + 1 + 1 + 1 + 1 + 1 + 1, 0, none⟩, 1)] 26 (by
    intro x hx
    simp only [List.mem_cons, List.not_mem_nil, or_false] at hx
    rcases hx with rfl | rfl | rfl | rfl | rfl | rfl | rfl | rfl
    · exact ⟨.inl rfl, (show emp.size ≤ _ by decide), by simp⟩
    · exact ⟨i0, (show tx1.size ≤ _ by decide), by simp⟩
    · exact ⟨i1, (show txn.size ≤ _ by decide), by simp⟩
    · exact ⟨i2, (show emp.size ≤ _ by decide), by simp⟩
    · exact ⟨i3, hz, by simp⟩
    · exact ⟨i4, (show emp.size ≤ _ by decide), by simp⟩
    · exact ⟨i5, (show tx0.size ≤ _ by decide), by simp⟩
    · exact ⟨i6, (show emp.size ≤ _ by decide), by simp⟩)
  rw [World.size_alloc, World.size_alloc, World.size_alloc, World.size_alloc, World.size_alloc, World.size_alloc, World.size_alloc] at hn
  exact ⟨hn, ((((((((Below.refl _ w).alloc (by simp <;> omega) _).alloc (by simp <;> omega) _).alloc (by simp <;> omega) _).alloc (by simp <;> omega) _).alloc (by simp <;> omega) _).alloc (by simp <;> omega) _).alloc (by simp <;> omega) _).alloc (by simp <;> omega) _⟩

set_option maxRecDepth 100000 in
set_option maxHeartbeats 8000000 in
theorem filters_walk (tx : ByteArray) (w : World) (hg : Gd w) (zt : tx.size ≤ 9223372036854775807) {da : Option Addr} {d : List Rc} {dc : Nat} (hd : RcsAt w da d) (hdc : d.length ≤ dc) (hdm : dc ≤ 9223372036854775807) (hX : ∀ r ∈ d, r.key.size ≤ 9223372036854775807 ∧ Rng r.num) :
    Calls Tryz.prog 4 #[.string tx, .slice da d.length dc] w fun e w' => e = .returned (.bool true) ∧ Below w.heap.size w w' := by
  obtain ⟨lp1, lp2⟩ := lit_plain w tx zt
  have hp : ∀ W, Gd W → ∀ {la : Option Addr}, NdsAt W la (jPlain tx) → ∀ {ga : Option Addr}, RssAt W ga [d] → Calls Tryz.prog 9 #[.slice la 3 3, .slice ga 1 1] W (AllEnd W (denE (jPlain tx) [d]) (denV (jPlain tx) [d])) := fun W hW la h1 ga h2 =>
    all_any hW h1 (Nat.le_refl _) h2 (Nat.le_refl _) (by decide) (fun l hl => by rw [List.mem_singleton.1 hl]; omega) (fun l hl => by rw [List.mem_singleton.1 hl]; exact fun r hr => (hX r hr).1) (fun l hl => by rw [List.mem_singleton.1 hl]; exact fun r hr => (hX r hr).2)
  have hl : ∀ W, Gd W → ∀ {la : Option Addr}, NdsAt W la (jLong tx) → ∀ {ga : Option Addr}, RssAt W ga [d] → Calls Tryz.prog 9 #[.slice la 8 8, .slice ga 1 1] W (AllEnd W (denE (jLong tx) [d]) (denV (jLong tx) [d])) := fun W hW la h1 ga h2 =>
    all_any hW h1 (Nat.le_refl _) h2 (Nat.le_refl _) (by decide) (fun l hl => by rw [List.mem_singleton.1 hl]; omega) (fun l hl => by rw [List.mem_singleton.1 hl]; exact fun r hr => (hX r hr).1) (fun l hl => by rw [List.mem_singleton.1 hl]; exact fun r hr => (hX r hr).2)
  have ho : ∀ W, Gd W → ∀ {la : Option Addr}, NdsAt W la jOne → Calls Tryz.prog 9 #[.slice la 1 3, .slice none 0 0] W fun e w' => e = .returned (.tuple #[.slice none 0 0, .iface 76 (.int .i64 6)]) ∧ Below W.heap.size W w' := fun W hW la h1 => by
    have h := all_any (dc := 0) (D := []) (da := none) hW h1 (c := 3) (by decide) (.inl rfl) (by decide) (by decide) (by simp) (by simp) (by simp)
    rw [one_pure.1] at h
    refine h.mono fun e w' he => ?_
    unfold AllEnd at he
    rw [if_pos (by decide), errV_pos (by decide)] at he
    exact he
  obtain ⟨pE, pV⟩ := filters_pure tx d (fun r hr => (hX r hr).2)
  rw [← pE] at hl
  have rd : ∀ W, Below w.heap.size w W → RcsAt W da d := fun W hb => hd.keep (Keeps.of hb)
  have hr1 := rss_one (((w.alloc (.cells #[.int .i64 0] 3)).alloc (.cells #[.int .i64 1] 3)).alloc (.cells #[.int .i64 1, .slice none 0 0, .string ⟨#[]⟩, .int .i64 2, .int .i64 2, .slice (some ⟨w.heap.size, 0, none⟩) 1 1, .string tx, .int .i64 0, .int .i64 10, .slice (some ⟨w.heap.size + 1, 0, none⟩) 1 1, .string ⟨#[]⟩, .int .i64 0] 26)) (rd _ lp2) hdc 34
  have ln1 := lp1.keep (Keeps.alloc (((w.alloc (.cells #[.int .i64 0] 3)).alloc (.cells #[.int .i64 1] 3)).alloc (.cells #[.int .i64 1, .slice none 0 0, .string ⟨#[]⟩, .int .i64 2, .int .i64 2, .slice (some ⟨w.heap.size, 0, none⟩) 1 1, .string tx, .int .i64 0, .int .i64 10, .slice (some ⟨w.heap.size + 1, 0, none⟩) 1 1, .string ⟨#[]⟩, .int .i64 0] 26)) (.cells #[.slice da d.length dc] 34))
  have lb1 := lp2.alloc (by simp <;> omega) (.cells #[.slice da d.length dc] 34)
  rw [World.size_alloc, World.size_alloc, World.size_alloc] at hr1
  have HP := Lib.hid hp
  have HO := Lib.hid ho
  have HL := Lib.hid hl
  have HV := Lib.hid pV
  clear hp ho hl pV lp1 lp2 hX pE hd
  by_cases hE : denE (jPlain tx) [d] = 0
  · have HW := Lib.hid (HV.out hE)
    rw [hE] at HP HL
    have hPc := HP.out
    have hLc := HL.out
    rw [HW.out.1] at hPc
    rw [HW.out.2] at hLc
    have HLB : Hid ((linesP (d.map (mapR tx))).length ≤ 9223372036854775807) := Lib.hid (by rw [lines_len]; exact Nat.le_trans (firsts_len _) (by simp; omega))
    generalize linesP (d.map (mapR tx)) = LL at *
    have HPc := Lib.hid hPc
    have HLc := Lib.hid hLc
    clear hPc hLc HP HL HV HW hE
    go_enter Tryz.func4, Tryz.ntmps4
    go_wp2_with fail
    generalize (((w.alloc (.cells #[.int .i64 0] 3)).alloc (.cells #[.int .i64 1] 3)).alloc (.cells #[.int .i64 1, .slice none 0 0, .string ⟨#[]⟩, .int .i64 2, .int .i64 2, .slice (some ⟨w.heap.size, 0, none⟩) 1 1, .string tx, .int .i64 0, .int .i64 10, .slice (some ⟨w.heap.size + 1, 0, none⟩) 1 1, .string ⟨#[]⟩, .int .i64 0] 26)).alloc (.cells #[.slice da d.length dc] 34) = w1 at *
    refine (HPc.out w1 (hg.below lb1) ln1 hr1).mono ?_
    rintro e w2 he
    unfold AllEnd at he
    rw [if_neg (by simp)] at he
    obtain ⟨Aw, cw, rfl, hsk, hcw, hb2⟩ := he
    have B2 : Below w.heap.size w w2 := lb1.trans (hb2.mono lb1.size)
    go_wp2_with fail
    refine (HO.out w2 (hg.below B2) (nds_take (ln1.keep (Keeps.of hb2)) 1)).mono ?_
    rintro e w3 ⟨rfl, hb3⟩
    have B3 : Below w.heap.size w w3 := B2.trans (hb3.mono B2.size)
    obtain ⟨ll1, ll2⟩ := lit_long w3 tx zt
    have hr3 := rss_one ((((((((w3.alloc (.cells #[.int .i64 0] 3)).alloc (.cells #[.int .i64 1] 3)).alloc (.cells #[.int .i64 2] 3)).alloc (.cells #[.int .i64 3] 3)).alloc (.cells #[.int .i64 4] 3)).alloc (.cells #[.int .i64 4] 3)).alloc (.cells #[.int .i64 6] 3)).alloc (.cells #[.int .i64 1, .slice none 0 0, .string ⟨#[]⟩, .int .i64 2, .int .i64 3, .slice (some ⟨w3.heap.size, 0, none⟩) 1 1, .string ⟨#[49]⟩, .int .i64 0, .int .i64 2, .slice (some ⟨w3.heap.size + 1, 0, none⟩) 1 1, .string ⟨#[110]⟩, .int .i64 0, .int .i64 5, .slice (some ⟨w3.heap.size + 1 + 1, 0, none⟩) 1 1, .string ⟨#[]⟩, .int .i64 1, .int .i64 2, .slice (some ⟨w3.heap.size + 1 + 1 + 1, 0, none⟩) 1 1, .string tx, .int .i64 0, .int .i64 10, .slice (some ⟨w3.heap.size + 1 + 1 + 1 + 1, 0, none⟩) 1 1, .string ⟨#[]⟩, .int .i64 0, .int .i64 3, .slice (some ⟨w3.heap.size + 1 + 1 + 1 + 1 + 1, 0, none⟩) 1 1, .string ⟨#[48]⟩, .int .i64 0, .int .i64 10, .slice (some ⟨w3.heap.size + 1 + 1 + 1 + 1 + 1 + 1, 0, none⟩) 1 1, .string ⟨#[]⟩, .int .i64 0] 26)) (rd _ (B3.trans (ll2.mono B3.size))) hdc 34
    have ln3 := ll1.keep (Keeps.alloc ((((((((w3.alloc (.cells #[.int .i64 0] 3)).alloc (.cells #[.int .i64 1] 3)).alloc (.cells #[.int .i64 2] 3)).alloc (.cells #[.int .i64 3] 3)).alloc (.cells #[.int .i64 4] 3)).alloc (.cells #[.int .i64 4] 3)).alloc (.cells #[.int .i64 6] 3)).alloc (.cells #[.int .i64 1, .slice none 0 0, .string ⟨#[]⟩, .int .i64 2, .int .i64 3, .slice (some ⟨w3.heap.size, 0, none⟩) 1 1, .string ⟨#[49]⟩, .int .i64 0, .int .i64 2, .slice (some ⟨w3.heap.size + 1, 0, none⟩) 1 1, .string ⟨#[110]⟩, .int .i64 0, .int .i64 5, .slice (some ⟨w3.heap.size + 1 + 1, 0, none⟩) 1 1, .string ⟨#[]⟩, .int .i64 1, .int .i64 2, .slice (some ⟨w3.heap.size + 1 + 1 + 1, 0, none⟩) 1 1, .string tx, .int .i64 0, .int .i64 10, .slice (some ⟨w3.heap.size + 1 + 1 + 1 + 1, 0, none⟩) 1 1, .string ⟨#[]⟩, .int .i64 0, .int .i64 3, .slice (some ⟨w3.heap.size + 1 + 1 + 1 + 1 + 1, 0, none⟩) 1 1, .string ⟨#[48]⟩, .int .i64 0, .int .i64 10, .slice (some ⟨w3.heap.size + 1 + 1 + 1 + 1 + 1 + 1, 0, none⟩) 1 1, .string ⟨#[]⟩, .int .i64 0] 26)) (.cells #[.slice da d.length dc] 34))
    have lb3 : Below w3.heap.size w3 (((((((((w3.alloc (.cells #[.int .i64 0] 3)).alloc (.cells #[.int .i64 1] 3)).alloc (.cells #[.int .i64 2] 3)).alloc (.cells #[.int .i64 3] 3)).alloc (.cells #[.int .i64 4] 3)).alloc (.cells #[.int .i64 4] 3)).alloc (.cells #[.int .i64 6] 3)).alloc (.cells #[.int .i64 1, .slice none 0 0, .string ⟨#[]⟩, .int .i64 2, .int .i64 3, .slice (some ⟨w3.heap.size, 0, none⟩) 1 1, .string ⟨#[49]⟩, .int .i64 0, .int .i64 2, .slice (some ⟨w3.heap.size + 1, 0, none⟩) 1 1, .string ⟨#[110]⟩, .int .i64 0, .int .i64 5, .slice (some ⟨w3.heap.size + 1 + 1, 0, none⟩) 1 1, .string ⟨#[]⟩, .int .i64 1, .int .i64 2, .slice (some ⟨w3.heap.size + 1 + 1 + 1, 0, none⟩) 1 1, .string tx, .int .i64 0, .int .i64 10, .slice (some ⟨w3.heap.size + 1 + 1 + 1 + 1, 0, none⟩) 1 1, .string ⟨#[]⟩, .int .i64 0, .int .i64 3, .slice (some ⟨w3.heap.size + 1 + 1 + 1 + 1 + 1, 0, none⟩) 1 1, .string ⟨#[48]⟩, .int .i64 0, .int .i64 10, .slice (some ⟨w3.heap.size + 1 + 1 + 1 + 1 + 1 + 1, 0, none⟩) 1 1, .string ⟨#[]⟩, .int .i64 0] 26)).alloc (.cells #[.slice da d.length dc] 34)) := ll2.alloc (by simp <;> omega) _
    rw [World.size_alloc, World.size_alloc, World.size_alloc, World.size_alloc, World.size_alloc, World.size_alloc, World.size_alloc, World.size_alloc] at hr3
    clear ll1 ll2
    go_wp2_with fail
    generalize ((((((((w3.alloc (.cells #[.int .i64 0] 3)).alloc (.cells #[.int .i64 1] 3)).alloc (.cells #[.int .i64 2] 3)).alloc (.cells #[.int .i64 3] 3)).alloc (.cells #[.int .i64 4] 3)).alloc (.cells #[.int .i64 4] 3)).alloc (.cells #[.int .i64 6] 3)).alloc (.cells #[.int .i64 1, .slice none 0 0, .string ⟨#[]⟩, .int .i64 2, .int .i64 3, .slice (some ⟨w3.heap.size, 0, none⟩) 1 1, .string ⟨#[49]⟩, .int .i64 0, .int .i64 2, .slice (some ⟨w3.heap.size + 1, 0, none⟩) 1 1, .string ⟨#[110]⟩, .int .i64 0, .int .i64 5, .slice (some ⟨w3.heap.size + 1 + 1, 0, none⟩) 1 1, .string ⟨#[]⟩, .int .i64 1, .int .i64 2, .slice (some ⟨w3.heap.size + 1 + 1 + 1, 0, none⟩) 1 1, .string tx, .int .i64 0, .int .i64 10, .slice (some ⟨w3.heap.size + 1 + 1 + 1 + 1, 0, none⟩) 1 1, .string ⟨#[]⟩, .int .i64 0, .int .i64 3, .slice (some ⟨w3.heap.size + 1 + 1 + 1 + 1 + 1, 0, none⟩) 1 1, .string ⟨#[48]⟩, .int .i64 0, .int .i64 10, .slice (some ⟨w3.heap.size + 1 + 1 + 1 + 1 + 1 + 1, 0, none⟩) 1 1, .string ⟨#[]⟩, .int .i64 0] 26)).alloc (.cells #[.slice da d.length dc] 34) = w4 at *
    have B4 : Below w.heap.size w w4 := B3.trans (lb3.mono B3.size)
    refine (HLc.out w4 (hg.below B4) ln3 hr3).mono ?_
    rintro e w5 he
    unfold AllEnd at he
    rw [if_neg (by simp)] at he
    obtain ⟨Ag, cg, rfl, hsg, hcg, hb5⟩ := he
    have B5 : Below w.heap.size w w5 := B4.trans (hb5.mono B4.size)
    rcases hsg with hsg | ⟨gb, go, rfl, hsg⟩
    · simp at hsg
    have hs5 := hsk.keep (Keeps.of ((hb3.trans (lb3.mono hb3.size)).trans (hb5.mono (Nat.le_trans hb3.size lb3.size))))
    rcases hs5 with hs5 | ⟨wb, wo, rfl, hs5⟩
    · simp at hs5
    obtain ⟨l0, c0, e0, n0, m0⟩ := hsg 0 (by simp)
    obtain ⟨l1, c1, e1, n1, m1⟩ := hsg 1 (by simp)
    obtain ⟨l2, c2, e2, n2, m2⟩ := hs5 0 (by simp)
    simp only [List.getElem_cons_zero, List.getElem_cons_succ, Nat.add_zero, List.length_nil] at e0 e1 e2 n0 n2
    have hll : LL.length ≤ 9223372036854775807 := HLB.out
    have HLS : Hid (∀ m, Calls Tryz.prog 12 #[.slice l0 LL.length c0, .slice l2 LL.length c2] (w5.drewN m) fun e w' => e = .returned (.bool true) ∧ ∃ n, w' = (w5.drewN m).drewN n) := fun m => lines_same (w := w5.drewN m) (n0.keep (fun _ _ h => h)) (n2.keep (fun _ _ h => h)) c0 c2 hll
    clear hsg hs5 hsk HPc HLc HO n0 n1 n2
    go_wp2_with fail
    go_quiet ((go_at_call 12; exact Calls.quiet_of (HLS.out _)))
    go_wp2_with fail
    go_ret
    exact ⟨rfl, below_drewN B5 _⟩
  · have HE := Lib.hid hE
    generalize denE (jPlain tx) [d] = E at *
    have hPc := HP.out
    have hLc := HL.out
    have HPc := Lib.hid hPc
    have HLc := Lib.hid hLc
    clear hPc hLc HP HL HV hE
    go_enter Tryz.func4, Tryz.ntmps4
    go_wp2_with fail
    generalize (((w.alloc (.cells #[.int .i64 0] 3)).alloc (.cells #[.int .i64 1] 3)).alloc (.cells #[.int .i64 1, .slice none 0 0, .string ⟨#[]⟩, .int .i64 2, .int .i64 2, .slice (some ⟨w.heap.size, 0, none⟩) 1 1, .string tx, .int .i64 0, .int .i64 10, .slice (some ⟨w.heap.size + 1, 0, none⟩) 1 1, .string ⟨#[]⟩, .int .i64 0] 26)).alloc (.cells #[.slice da d.length dc] 34) = w1 at *
    refine (HPc.out w1 (hg.below lb1) ln1 hr1).mono ?_
    rintro e w2 he
    unfold AllEnd at he
    rw [if_pos HE.out, errV_pos HE.out] at he
    obtain ⟨rfl, hb2⟩ := he
    have B2 : Below w.heap.size w w2 := lb1.trans (hb2.mono lb1.size)
    go_wp2_with fail
    refine (HO.out w2 (hg.below B2) (nds_take (ln1.keep (Keeps.of hb2)) 1)).mono ?_
    rintro e w3 ⟨rfl, hb3⟩
    have B3 : Below w.heap.size w w3 := B2.trans (hb3.mono B2.size)
    obtain ⟨ll1, ll2⟩ := lit_long w3 tx zt
    have hr3 := rss_one ((((((((w3.alloc (.cells #[.int .i64 0] 3)).alloc (.cells #[.int .i64 1] 3)).alloc (.cells #[.int .i64 2] 3)).alloc (.cells #[.int .i64 3] 3)).alloc (.cells #[.int .i64 4] 3)).alloc (.cells #[.int .i64 4] 3)).alloc (.cells #[.int .i64 6] 3)).alloc (.cells #[.int .i64 1, .slice none 0 0, .string ⟨#[]⟩, .int .i64 2, .int .i64 3, .slice (some ⟨w3.heap.size, 0, none⟩) 1 1, .string ⟨#[49]⟩, .int .i64 0, .int .i64 2, .slice (some ⟨w3.heap.size + 1, 0, none⟩) 1 1, .string ⟨#[110]⟩, .int .i64 0, .int .i64 5, .slice (some ⟨w3.heap.size + 1 + 1, 0, none⟩) 1 1, .string ⟨#[]⟩, .int .i64 1, .int .i64 2, .slice (some ⟨w3.heap.size + 1 + 1 + 1, 0, none⟩) 1 1, .string tx, .int .i64 0, .int .i64 10, .slice (some ⟨w3.heap.size + 1 + 1 + 1 + 1, 0, none⟩) 1 1, .string ⟨#[]⟩, .int .i64 0, .int .i64 3, .slice (some ⟨w3.heap.size + 1 + 1 + 1 + 1 + 1, 0, none⟩) 1 1, .string ⟨#[48]⟩, .int .i64 0, .int .i64 10, .slice (some ⟨w3.heap.size + 1 + 1 + 1 + 1 + 1 + 1, 0, none⟩) 1 1, .string ⟨#[]⟩, .int .i64 0] 26)) (rd _ (B3.trans (ll2.mono B3.size))) hdc 34
    have ln3 := ll1.keep (Keeps.alloc ((((((((w3.alloc (.cells #[.int .i64 0] 3)).alloc (.cells #[.int .i64 1] 3)).alloc (.cells #[.int .i64 2] 3)).alloc (.cells #[.int .i64 3] 3)).alloc (.cells #[.int .i64 4] 3)).alloc (.cells #[.int .i64 4] 3)).alloc (.cells #[.int .i64 6] 3)).alloc (.cells #[.int .i64 1, .slice none 0 0, .string ⟨#[]⟩, .int .i64 2, .int .i64 3, .slice (some ⟨w3.heap.size, 0, none⟩) 1 1, .string ⟨#[49]⟩, .int .i64 0, .int .i64 2, .slice (some ⟨w3.heap.size + 1, 0, none⟩) 1 1, .string ⟨#[110]⟩, .int .i64 0, .int .i64 5, .slice (some ⟨w3.heap.size + 1 + 1, 0, none⟩) 1 1, .string ⟨#[]⟩, .int .i64 1, .int .i64 2, .slice (some ⟨w3.heap.size + 1 + 1 + 1, 0, none⟩) 1 1, .string tx, .int .i64 0, .int .i64 10, .slice (some ⟨w3.heap.size + 1 + 1 + 1 + 1, 0, none⟩) 1 1, .string ⟨#[]⟩, .int .i64 0, .int .i64 3, .slice (some ⟨w3.heap.size + 1 + 1 + 1 + 1 + 1, 0, none⟩) 1 1, .string ⟨#[48]⟩, .int .i64 0, .int .i64 10, .slice (some ⟨w3.heap.size + 1 + 1 + 1 + 1 + 1 + 1, 0, none⟩) 1 1, .string ⟨#[]⟩, .int .i64 0] 26)) (.cells #[.slice da d.length dc] 34))
    have lb3 : Below w3.heap.size w3 (((((((((w3.alloc (.cells #[.int .i64 0] 3)).alloc (.cells #[.int .i64 1] 3)).alloc (.cells #[.int .i64 2] 3)).alloc (.cells #[.int .i64 3] 3)).alloc (.cells #[.int .i64 4] 3)).alloc (.cells #[.int .i64 4] 3)).alloc (.cells #[.int .i64 6] 3)).alloc (.cells #[.int .i64 1, .slice none 0 0, .string ⟨#[]⟩, .int .i64 2, .int .i64 3, .slice (some ⟨w3.heap.size, 0, none⟩) 1 1, .string ⟨#[49]⟩, .int .i64 0, .int .i64 2, .slice (some ⟨w3.heap.size + 1, 0, none⟩) 1 1, .string ⟨#[110]⟩, .int .i64 0, .int .i64 5, .slice (some ⟨w3.heap.size + 1 + 1, 0, none⟩) 1 1, .string ⟨#[]⟩, .int .i64 1, .int .i64 2, .slice (some ⟨w3.heap.size + 1 + 1 + 1, 0, none⟩) 1 1, .string tx, .int .i64 0, .int .i64 10, .slice (some ⟨w3.heap.size + 1 + 1 + 1 + 1, 0, none⟩) 1 1, .string ⟨#[]⟩, .int .i64 0, .int .i64 3, .slice (some ⟨w3.heap.size + 1 + 1 + 1 + 1 + 1, 0, none⟩) 1 1, .string ⟨#[48]⟩, .int .i64 0, .int .i64 10, .slice (some ⟨w3.heap.size + 1 + 1 + 1 + 1 + 1 + 1, 0, none⟩) 1 1, .string ⟨#[]⟩, .int .i64 0] 26)).alloc (.cells #[.slice da d.length dc] 34)) := ll2.alloc (by simp <;> omega) _
    rw [World.size_alloc, World.size_alloc, World.size_alloc, World.size_alloc, World.size_alloc, World.size_alloc, World.size_alloc, World.size_alloc] at hr3
    clear ll1 ll2
    go_wp2_with fail
    generalize ((((((((w3.alloc (.cells #[.int .i64 0] 3)).alloc (.cells #[.int .i64 1] 3)).alloc (.cells #[.int .i64 2] 3)).alloc (.cells #[.int .i64 3] 3)).alloc (.cells #[.int .i64 4] 3)).alloc (.cells #[.int .i64 4] 3)).alloc (.cells #[.int .i64 6] 3)).alloc (.cells #[.int .i64 1, .slice none 0 0, .string ⟨#[]⟩, .int .i64 2, .int .i64 3, .slice (some ⟨w3.heap.size, 0, none⟩) 1 1, .string ⟨#[49]⟩, .int .i64 0, .int .i64 2, .slice (some ⟨w3.heap.size + 1, 0, none⟩) 1 1, .string ⟨#[110]⟩, .int .i64 0, .int .i64 5, .slice (some ⟨w3.heap.size + 1 + 1, 0, none⟩) 1 1, .string ⟨#[]⟩, .int .i64 1, .int .i64 2, .slice (some ⟨w3.heap.size + 1 + 1 + 1, 0, none⟩) 1 1, .string tx, .int .i64 0, .int .i64 10, .slice (some ⟨w3.heap.size + 1 + 1 + 1 + 1, 0, none⟩) 1 1, .string ⟨#[]⟩, .int .i64 0, .int .i64 3, .slice (some ⟨w3.heap.size + 1 + 1 + 1 + 1 + 1, 0, none⟩) 1 1, .string ⟨#[48]⟩, .int .i64 0, .int .i64 10, .slice (some ⟨w3.heap.size + 1 + 1 + 1 + 1 + 1 + 1, 0, none⟩) 1 1, .string ⟨#[]⟩, .int .i64 0] 26)).alloc (.cells #[.slice da d.length dc] 34) = w4 at *
    have B4 : Below w.heap.size w w4 := B3.trans (lb3.mono B3.size)
    refine (HLc.out w4 (hg.below B4) ln3 hr3).mono ?_
    rintro e w5 he
    unfold AllEnd at he
    rw [if_pos HE.out, errV_pos HE.out] at he
    obtain ⟨rfl, hb5⟩ := he
    have B5 : Below w.heap.size w w5 := B4.trans (hb5.mono B4.size)
    go_wp2_with fail
    go_ret
    exact ⟨rfl, B5⟩
end Go.Proofs.YtppkjiihmlphbaaGreatDoor

