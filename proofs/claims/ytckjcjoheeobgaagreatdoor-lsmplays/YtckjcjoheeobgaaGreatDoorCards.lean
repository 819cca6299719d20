/-
  DERIVED. GIVEN WITH THE SEED: THE CARDS: each row of YtckjcjoheeobgaaGreatDoorRows.lean that lists a variable, with what it lists TIED to the program's text (the seventh form; the later family's looks); each row that meets fmt, with fmt's text TOLD by the authors' own Lean function (tested against real Go, not proved from fmt's source: count such statements apart). THE CARD IS WHAT COUNTS. Prove the row's statement (the work); the ties are given (YtckjcjoheeobgaaGreatDoorTie.lean); close each card by the builder's one call (the guide's Derived/Test/ToyasCard.lean, 'card_holds'). Laid BY PROGRAM, IN A SANDBOX (cutbox-door.mjs). By AI agents, Wed Nov 11 2026. No macro, syntax, notation, axiom, sorry.
-/
import Derived.Test.YtckjcjoheeobgaaGreatDoorRows
import GoSem.ClaimSeven
namespace Go.Proofs.YtckjcjoheeobgaaGreatDoor
namespace Rows

/-- THE TIED CARD OF 'weirlaw2.LsmPlays'. -/
def lsmPlaysCard : Claim7 := { stood := { row := lsmPlaysRow, standIns := [], harness := (true, "bb5b7e48512820edad4baa5b37e1fccdffc6cdf7465ba4ea8aeb68324b50a579"), looks := true }, kinds := [], alts := [], laidByText := true, laidKinds := [.handle], laidTests := true, laidLooks := .later }
def LsmPlaysCardSaid : Prop := Claim7.holds Tryz.pinned (.plain (OpenSpec.ofChange lsmPlaysSpec)) lsmPlaysCard

/-- THE SECOND FORM's CARD OF 'weirlaw2.LsmPlays'. -/
def lsmPlaysUptoCard : Claim7 := { stood := { row := lsmPlaysUptoRow, standIns := [], harness := (true, "bb5b7e48512820edad4baa5b37e1fccdffc6cdf7465ba4ea8aeb68324b50a579"), looks := true }, kinds := [], alts := [], laidByText := true, laidKinds := [.handle], laidTests := true, laidLooks := .later }
def LsmPlaysUptoCardSaid : Prop := Claim7.holds Tryz.pinned (.plain (OpenSpec.upto lsmPlaysSpec)) lsmPlaysUptoCard
end Rows
end Go.Proofs.YtckjcjoheeobgaaGreatDoor
