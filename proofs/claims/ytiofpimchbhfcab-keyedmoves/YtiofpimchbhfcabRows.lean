/-
  No cell of these rows narrows 'for every input' (looked for: loops, veiled, ifaces, maps, wideKeys, modest, calm, conditions, laid).
  DERIVED. THE GIVEN ROWS OF THIS SEAT. 2 by the template 'for every input the law returns true; each argument reads behind the call as it read before'; 0 by the template 'total and deterministic' (their statements: YtiofpimchbhfcabTotals.lean).
  GIVEN WITH THE SEED: the statements are not yours to turn. If you find one false, say at which input.
  Laid BY PROGRAM, IN A SANDBOX (cutbox-rows.mjs): the forced cells as the released guide's own fill.sh prints them over the translation 67df6e56de3a9e12… (all of the seat's roots in one cut). By AI agents, Wed Nov 11 2026. No macro, syntax, notation, axiom, sorry.
-/
import Derived.Test.YtiofpimchbhfcabChecked
import GoSem.Claim
import GoSem.ClaimJoined
import GoSem.ClaimMapViews
import Derived.JoinedTies
import Derived.KernelRfl
namespace Go.Proofs.Ytiofpimchbhfcab
/- THE CELL 'sum', in the pinned program and in every row, IS THE sha256 OF THE DUMP (.gsa) THAT YtiofpimchbhfcabProg.lean LOADS. Nothing in Lean hashes anything: it is a label: what it is worth is what the hold of that sum in a sandbox is worth. -/
noncomputable def Try.pinned : Pinned := { name := "ytiofpimchbhfcab", sum := "67df6e56de3a9e126a0da92aacdb610b3bb3543797d537e32240dc43653bb682", checked := Try.checked }
namespace Rows
def none {H : Type} : Left H := { results := [], args := [] }

/-- 'weirlaw2.KeyedMoves': WHATEVER THE INPUT: true; the input reads as it did. -/
def keyedMovesSpec : ChangeSpec := { name := "keyedMoves", fn := fun _ => fun
  | [d1, d2, d3] => { results := [.lit (.bool true)], args := [d1, d2, d3] }
  | _ => none }
def keyedMovesRow : OpenClaim := { program := "ytiofpimchbhfcab", sum := "67df6e56de3a9e126a0da92aacdb610b3bb3543797d537e32240dc43653bb682", func := "weirgate/weirlaw2.KeyedMoves", spec := "keyedMoves", inPlace := ["internal/bytealg.abigen_runtime_cmpstring", "maps.clone"], unfollowed := true, recurses := true, plainKeys := false, apart := false }
def KeyedMovesSaid : Prop := keyedMovesRow.holds Try.pinned (OpenSpec.ofChange keyedMovesSpec)

/-- ITS FALSE NEIGHBOUR: 'it returns false'. Refute it at one input. -/
def keyedMovesWrong : ChangeSpec := { name := "keyedMoves", fn := fun _ => fun
  | [d1, d2, d3] => { results := [.lit (.bool false)], args := [d1, d2, d3] }
  | _ => none }
def KeyedMovesWrongFalsely : Prop := keyedMovesRow.holds Try.pinned (OpenSpec.ofChange keyedMovesWrong)

/-- 'weirlaw6.KeyedLast': WHATEVER THE INPUT: true; the input reads as it did. -/
def keyedLastSpec : ChangeSpec := { name := "keyedLast", fn := fun _ => fun
  | [d] => { results := [.lit (.bool true)], args := [d] }
  | _ => none }
def keyedLastRow : OpenClaim := { program := "ytiofpimchbhfcab", sum := "67df6e56de3a9e126a0da92aacdb610b3bb3543797d537e32240dc43653bb682", func := "weirgate/weirlaw6.KeyedLast", spec := "keyedLast", inPlace := ["internal/bytealg.abigen_runtime_cmpstring"], unfollowed := true, recurses := true, plainKeys := false, apart := false }
def KeyedLastSaid : Prop := keyedLastRow.holds Try.pinned (OpenSpec.ofChange keyedLastSpec)

/-- ITS FALSE NEIGHBOUR: 'it returns false'. Refute it at one input. -/
def keyedLastWrong : ChangeSpec := { name := "keyedLast", fn := fun _ => fun
  | [d] => { results := [.lit (.bool false)], args := [d] }
  | _ => none }
def KeyedLastWrongFalsely : Prop := keyedLastRow.holds Try.pinned (OpenSpec.ofChange keyedLastWrong)

/- THE SECOND FORM. 'bulk': how many values and letters a reading holds, each counted each time it is reached (what is shared counts as often as it is met; a slice's spare places count too). A statement '..UptoSaid' is the law's where the arguments, and the package variables that the reading takes, are together of bulk at most 1048576: NARROWER than '..Said'. Prove '..Said' where nothing that the law and all that it calls make is longer than what came in: it says more and counts as full. Else prove '..UptoSaid'. A law counts once. -/
mutual
def uptoBulk {H : Type} : DataW H → Nat
  | .lit (.string bytes) => bytes.length + 1
  | .lit _ => 1
  | .nil => 1
  | .ptr d => uptoBulk d + 1
  | .slice elems spare => uptoBulkAll elems + uptoBulkAll spare + 1
  | .agg parts => uptoBulkAll parts + 1
  | .iface _ d => uptoBulk d + 1
  | .map entries => uptoBulkEntries entries + 1
  | .held _ => 1
def uptoBulkAll {H : Type} : List (DataW H) → Nat
  | [] => 0
  | d :: r => uptoBulk d + uptoBulkAll r
def uptoBulkEntries {H : Type} : List (Lit × DataW H) → Nat
  | [] => 0
  | x :: r => uptoBulkEntry x + uptoBulkEntries r
def uptoBulkEntry {H : Type} : Lit × DataW H → Nat
  | (.string bytes, d) => bytes.length + uptoBulk d + 1
  | (_, d) => uptoBulk d + 1
 end
def uptoSmall : (H : Type) → List (DataW H) → Bool := fun _ ds => decide (uptoBulkAll ds ≤ 1048576)
def OpenSpec.upto (s : _root_.Go.ChangeSpec) : _root_.Go.OpenSpec := { _root_.Go.OpenSpec.ofChange s with cond := some uptoSmall }

/-- 'weirlaw2.KeyedMoves', WHERE WHAT IT READS IS OF BULK AT MOST 1048576: true; the input reads as it did. -/
def keyedMovesUptoRow : OpenClaim := { program := "ytiofpimchbhfcab", sum := "67df6e56de3a9e126a0da92aacdb610b3bb3543797d537e32240dc43653bb682", func := "weirgate/weirlaw2.KeyedMoves", spec := "keyedMoves", inPlace := ["internal/bytealg.abigen_runtime_cmpstring", "maps.clone"], unfollowed := true, recurses := true, plainKeys := false, apart := false, narrowed := true }
def KeyedMovesUptoSaid : Prop := keyedMovesUptoRow.holds Try.pinned (OpenSpec.upto keyedMovesSpec)

/-- 'weirlaw6.KeyedLast', WHERE WHAT IT READS IS OF BULK AT MOST 1048576: true; the input reads as it did. -/
def keyedLastUptoRow : OpenClaim := { program := "ytiofpimchbhfcab", sum := "67df6e56de3a9e126a0da92aacdb610b3bb3543797d537e32240dc43653bb682", func := "weirgate/weirlaw6.KeyedLast", spec := "keyedLast", inPlace := ["internal/bytealg.abigen_runtime_cmpstring"], unfollowed := true, recurses := true, plainKeys := false, apart := false, narrowed := true }
def KeyedLastUptoSaid : Prop := keyedLastUptoRow.holds Try.pinned (OpenSpec.upto keyedLastSpec)

end Rows
end Go.Proofs.Ytiofpimchbhfcab
