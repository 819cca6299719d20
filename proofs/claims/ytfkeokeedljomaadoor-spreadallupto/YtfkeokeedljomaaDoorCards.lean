/-
  DERIVED. GIVEN WITH THE SEED: THE CARDS: each row of YtfkeokeedljomaaDoorRows.lean that lists a variable, with what it lists TIED to the program's text (the seventh form; the later family's looks); each row that meets fmt, with fmt's text TOLD by the authors' own Lean function (tested against real Go, not proved from fmt's source: count such statements apart). THE CARD IS WHAT COUNTS. Prove the row's statement (the work); the ties are given (YtfkeokeedljomaaDoorTie.lean); close each card by the builder's one call (the guide's Derived/Test/ToyasCard.lean, 'card_holds'). Laid BY PROGRAM, IN A SANDBOX (cutbox-door.mjs). By AI agents, Wed Nov 11 2026. No macro, syntax, notation, axiom, sorry.
-/
import Derived.Test.YtfkeokeedljomaaDoorRows
import GoSem.ClaimSeven
namespace Go.Proofs.YtfkeokeedljomaaDoor
namespace Rows

/-- THE TIED CARD OF 'weirlaw4.SpreadAll'. -/
def spreadAllCard : Claim7 := { stood := { row := spreadAllRow, standIns := [], harness := (true, "1221f653a5798cdc9f0b24731802c1f51038e6f8addd17aa464c2c5256ef8516"), looks := true }, kinds := [], alts := [], laidByText := true, laidKinds := [.handle], laidTests := true, laidLooks := .later }
def SpreadAllCardSaid : Prop := Claim7.holds Tryd.pinned (.plain (OpenSpec.ofChange spreadAllSpec)) spreadAllCard

/-- THE TIED CARD OF 'weirlaw4.SpreadLoads'. -/
def spreadLoadsCard : Claim7 := { stood := { row := spreadLoadsRow, standIns := [], harness := (true, "1221f653a5798cdc9f0b24731802c1f51038e6f8addd17aa464c2c5256ef8516"), looks := true }, kinds := [], alts := [], laidByText := true, laidKinds := [.handle], laidTests := true, laidLooks := .later }
def SpreadLoadsCardSaid : Prop := Claim7.holds Tryd.pinned (.plain (OpenSpec.ofChange spreadLoadsSpec)) spreadLoadsCard

/-- THE SECOND FORM's CARD OF 'weirlaw4.SpreadAll'. -/
def spreadAllUptoCard : Claim7 := { stood := { row := spreadAllUptoRow, standIns := [], harness := (true, "1221f653a5798cdc9f0b24731802c1f51038e6f8addd17aa464c2c5256ef8516"), looks := true }, kinds := [], alts := [], laidByText := true, laidKinds := [.handle], laidTests := true, laidLooks := .later }
def SpreadAllUptoCardSaid : Prop := Claim7.holds Tryd.pinned (.plain (OpenSpec.upto spreadAllSpec)) spreadAllUptoCard

/-- THE SECOND FORM's CARD OF 'weirlaw4.SpreadLoads'. -/
def spreadLoadsUptoCard : Claim7 := { stood := { row := spreadLoadsUptoRow, standIns := [], harness := (true, "1221f653a5798cdc9f0b24731802c1f51038e6f8addd17aa464c2c5256ef8516"), looks := true }, kinds := [], alts := [], laidByText := true, laidKinds := [.handle], laidTests := true, laidLooks := .later }
def SpreadLoadsUptoCardSaid : Prop := Claim7.holds Tryd.pinned (.plain (OpenSpec.upto spreadLoadsSpec)) spreadLoadsUptoCard
end Rows
end Go.Proofs.YtfkeokeedljomaaDoor
