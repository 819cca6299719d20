/-
  DERIVED. GIVEN WITH THE SEED: THE CARDS: each row of YtbppiiomjmpjkaaDoorRows.lean that lists a variable, with what it lists TIED to the program's text (the seventh form; the later family's looks); each row that meets fmt, with fmt's text TOLD by the authors' own Lean function (tested against real Go, not proved from fmt's source: count such statements apart). THE CARD IS WHAT COUNTS. Prove the row's statement (the work); the ties are given (YtbppiiomjmpjkaaDoorTie.lean); close each card by the builder's one call (the guide's Derived/Test/ToyasCard.lean, 'card_holds'). Laid BY PROGRAM, IN A SANDBOX (cutbox-door.mjs). By AI agents, Wed Nov 11 2026. No macro, syntax, notation, axiom, sorry.
-/
import Derived.Test.YtbppiiomjmpjkaaDoorRows
import GoSem.ClaimSeven
namespace Go.Proofs.YtbppiiomjmpjkaaDoor
namespace Rows

/-- THE TIED CARD OF 'weirlaw2.FrameRecords'. -/
def frameRecordsCard : Claim7 := { stood := { row := frameRecordsRow, standIns := [], harness := (true, "f5c05c2713c5b36827b7ee227f04c33a7a45819a2ed8dcc10b0206109ac46bd1"), looks := true }, kinds := [], alts := [], laidByText := true, laidKinds := [.handle], laidTests := true, laidLooks := .later }
def FrameRecordsCardSaid : Prop := Claim7.holds Tryd.pinned (.plain (OpenSpec.ofChange frameRecordsSpec)) frameRecordsCard

/-- THE TIED CARD OF 'weirlaw2.FrameHelds'. -/
def frameHeldsCard : Claim7 := { stood := { row := frameHeldsRow, standIns := [], harness := (true, "f5c05c2713c5b36827b7ee227f04c33a7a45819a2ed8dcc10b0206109ac46bd1"), looks := true }, kinds := [], alts := [], laidByText := true, laidKinds := [.handle], laidTests := true, laidLooks := .later }
def FrameHeldsCardSaid : Prop := Claim7.holds Tryd.pinned (.plain (OpenSpec.ofChange frameHeldsSpec)) frameHeldsCard

/-- THE SECOND FORM's CARD OF 'weirlaw2.FrameRecords'. -/
def frameRecordsUptoCard : Claim7 := { stood := { row := frameRecordsUptoRow, standIns := [], harness := (true, "f5c05c2713c5b36827b7ee227f04c33a7a45819a2ed8dcc10b0206109ac46bd1"), looks := true }, kinds := [], alts := [], laidByText := true, laidKinds := [.handle], laidTests := true, laidLooks := .later }
def FrameRecordsUptoCardSaid : Prop := Claim7.holds Tryd.pinned (.plain (OpenSpec.upto frameRecordsSpec)) frameRecordsUptoCard

/-- THE SECOND FORM's CARD OF 'weirlaw2.FrameHelds'. -/
def frameHeldsUptoCard : Claim7 := { stood := { row := frameHeldsUptoRow, standIns := [], harness := (true, "f5c05c2713c5b36827b7ee227f04c33a7a45819a2ed8dcc10b0206109ac46bd1"), looks := true }, kinds := [], alts := [], laidByText := true, laidKinds := [.handle], laidTests := true, laidLooks := .later }
def FrameHeldsUptoCardSaid : Prop := Claim7.holds Tryd.pinned (.plain (OpenSpec.upto frameHeldsSpec)) frameHeldsUptoCard
end Rows
end Go.Proofs.YtbppiiomjmpjkaaDoor
