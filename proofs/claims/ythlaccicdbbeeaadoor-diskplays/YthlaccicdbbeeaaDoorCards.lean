/-
  DERIVED. GIVEN WITH THE SEED: THE CARDS: each row of YthlaccicdbbeeaaDoorRows.lean that lists a variable, with what it lists TIED to the program's text (the seventh form; the later family's looks); each row that meets fmt, with fmt's text TOLD by the authors' own Lean function (tested against real Go, not proved from fmt's source: count such statements apart). THE CARD IS WHAT COUNTS. Prove the row's statement (the work); the ties are given (YthlaccicdbbeeaaDoorTie.lean); close each card by the builder's one call (the guide's Derived/Test/ToyasCard.lean, 'card_holds'). Laid BY PROGRAM, IN A SANDBOX (cutbox-door.mjs). By AI agents, Wed Nov 11 2026. No macro, syntax, notation, axiom, sorry.
-/
import Derived.Test.YthlaccicdbbeeaaDoorRows
import GoSem.ClaimSeven
namespace Go.Proofs.YthlaccicdbbeeaaDoor
namespace Rows

/-- THE TIED CARD OF 'weirlaw2.DiskPlays'. -/
def diskPlaysCard : Claim7 := { stood := { row := diskPlaysRow, standIns := [], harness := (true, "bf851dc9d1b0fe224a68b363ac082a21f8fdf1f3a1f94dd2bfad6df6f1644cb7"), looks := true }, kinds := [], alts := [], laidByText := true, laidKinds := [.handle], laidTests := true, laidLooks := .later }
def DiskPlaysCardSaid : Prop := Claim7.holds Tryd.pinned (.plain (OpenSpec.ofChange diskPlaysSpec)) diskPlaysCard

/-- THE TIED CARD OF 'weirlaw2.SharePlays'. -/
def sharePlaysCard : Claim7 := { stood := { row := sharePlaysRow, standIns := [], harness := (true, "bf851dc9d1b0fe224a68b363ac082a21f8fdf1f3a1f94dd2bfad6df6f1644cb7"), looks := true }, kinds := [], alts := [], laidByText := true, laidKinds := [.handle], laidTests := true, laidLooks := .later }
def SharePlaysCardSaid : Prop := Claim7.holds Tryd.pinned (.plain (OpenSpec.ofChange sharePlaysSpec)) sharePlaysCard

/-- THE SECOND FORM's CARD OF 'weirlaw2.DiskPlays'. -/
def diskPlaysUptoCard : Claim7 := { stood := { row := diskPlaysUptoRow, standIns := [], harness := (true, "bf851dc9d1b0fe224a68b363ac082a21f8fdf1f3a1f94dd2bfad6df6f1644cb7"), looks := true }, kinds := [], alts := [], laidByText := true, laidKinds := [.handle], laidTests := true, laidLooks := .later }
def DiskPlaysUptoCardSaid : Prop := Claim7.holds Tryd.pinned (.plain (OpenSpec.upto diskPlaysSpec)) diskPlaysUptoCard

/-- THE SECOND FORM's CARD OF 'weirlaw2.SharePlays'. -/
def sharePlaysUptoCard : Claim7 := { stood := { row := sharePlaysUptoRow, standIns := [], harness := (true, "bf851dc9d1b0fe224a68b363ac082a21f8fdf1f3a1f94dd2bfad6df6f1644cb7"), looks := true }, kinds := [], alts := [], laidByText := true, laidKinds := [.handle], laidTests := true, laidLooks := .later }
def SharePlaysUptoCardSaid : Prop := Claim7.holds Tryd.pinned (.plain (OpenSpec.upto sharePlaysSpec)) sharePlaysUptoCard
end Rows
end Go.Proofs.YthlaccicdbbeeaaDoor
