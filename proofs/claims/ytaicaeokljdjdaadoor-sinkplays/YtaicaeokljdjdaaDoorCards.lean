/-
  DERIVED. GIVEN WITH THE SEED: THE CARDS: each row of YtaicaeokljdjdaaDoorRows.lean that lists a variable, with what it lists TIED to the program's text (the seventh form; the later family's looks); each row that meets fmt, with fmt's text TOLD by the authors' own Lean function (tested against real Go, not proved from fmt's source: count such statements apart). THE CARD IS WHAT COUNTS. Prove the row's statement (the work); the ties are given (YtaicaeokljdjdaaDoorTie.lean); close each card by the builder's one call (the guide's Derived/Test/ToyasCard.lean, 'card_holds'). Laid BY PROGRAM, IN A SANDBOX (cutbox-door.mjs). By AI agents, Wed Nov 11 2026. No macro, syntax, notation, axiom, sorry.
-/
import Derived.Test.YtaicaeokljdjdaaDoorRows
import GoSem.ClaimSeven
namespace Go.Proofs.YtaicaeokljdjdaaDoor
namespace Rows

/-- THE TIED CARD OF 'weirlaw3.SinkPlays'. -/
def sinkPlaysCard : Claim7 := { stood := { row := sinkPlaysRow, standIns := [], harness := (true, "8770796244da5225e3998fe10b192130d67c43e22d08449aab32fbbaffaa9987"), looks := true }, kinds := [], alts := [], laidByText := true, laidKinds := [.handle], laidTests := true, laidLooks := .later }
def SinkPlaysCardSaid : Prop := Claim7.holds Tryd.pinned (.plain (OpenSpec.ofChange sinkPlaysSpec)) sinkPlaysCard

/-- THE SECOND FORM's CARD OF 'weirlaw3.SinkPlays'. -/
def sinkPlaysUptoCard : Claim7 := { stood := { row := sinkPlaysUptoRow, standIns := [], harness := (true, "8770796244da5225e3998fe10b192130d67c43e22d08449aab32fbbaffaa9987"), looks := true }, kinds := [], alts := [], laidByText := true, laidKinds := [.handle], laidTests := true, laidLooks := .later }
def SinkPlaysUptoCardSaid : Prop := Claim7.holds Tryd.pinned (.plain (OpenSpec.upto sinkPlaysSpec)) sinkPlaysUptoCard
end Rows
end Go.Proofs.YtaicaeokljdjdaaDoor
