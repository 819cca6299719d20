/-
  DERIVED. GIVEN WITH THE SEED: THE CARDS: each row of YtiadlnjmlgnehacGreatDoorRows.lean that lists a variable, with what it lists TIED to the program's text (the seventh form; the later family's looks); each row that meets fmt, with fmt's text TOLD by the authors' own Lean function (tested against real Go, not proved from fmt's source: count such statements apart). THE CARD IS WHAT COUNTS. Prove the row's statement (the work); the ties are given (YtiadlnjmlgnehacGreatDoorTie.lean); close each card by the builder's one call (the guide's Derived/Test/ToyasCard.lean, 'card_holds'). Laid BY PROGRAM, IN A SANDBOX (cutbox-door.mjs). By AI agents, Wed Nov 11 2026. No macro, syntax, notation, axiom, sorry.
-/
import Derived.Test.YtiadlnjmlgnehacGreatDoorRows
import GoSem.ClaimSeven
namespace Go.Proofs.YtiadlnjmlgnehacGreatDoor
namespace Rows

/-- THE TIED CARD OF 'weirlaw1.JobParses'. -/
def jobParsesCard : Claim7 := { stood := { row := jobParsesRow, standIns := [], harness := (true, "09879db209a5121b2605c98c0ddd28859bafc77bdf5170ff50a49bb176f24dd0"), looks := true }, kinds := [], alts := [], laidByText := true, laidKinds := [.data, .data, .data, .data, .handle, .sentinel, .sentinel, .data, .pinned], laidTests := true, laidLooks := .later }
def JobParsesCardSaid : Prop := Claim7.holds Tryz.pinned (.plain (OpenSpec.ofChange jobParsesSpec)) jobParsesCard

/-- THE TIED CARD OF 'weirlaw1.JobBack'. -/
def jobBackCard : Claim7 := { stood := { row := jobBackRow, standIns := [], harness := (true, "09879db209a5121b2605c98c0ddd28859bafc77bdf5170ff50a49bb176f24dd0"), looks := true }, kinds := [], alts := [], laidByText := true, laidKinds := [.data, .data, .data, .data, .sentinel, .sentinel, .data, .pinned], laidTests := true, laidLooks := .later }
def JobBackCardSaid : Prop := Claim7.holds Tryz.pinned (.plain (OpenSpec.ofChange jobBackSpec)) jobBackCard

/-- THE TIED CARD OF 'weirlaw1.DenApplies'. -/
def denAppliesCard : Claim7 := { stood := { row := denAppliesRow, standIns := [], harness := (true, "09879db209a5121b2605c98c0ddd28859bafc77bdf5170ff50a49bb176f24dd0"), looks := true }, kinds := [], alts := [], laidByText := true, laidKinds := [.data, .data, .data, .sentinel, .sentinel], laidTests := true, laidLooks := .later }
def DenAppliesCardSaid : Prop := Claim7.holds Tryz.pinned (.plain (OpenSpec.ofChange denAppliesSpec)) denAppliesCard

/-- THE TIED CARD OF 'weirlaw1.DenAll'. -/
def denAllCard : Claim7 := { stood := { row := denAllRow, standIns := [], harness := (true, "09879db209a5121b2605c98c0ddd28859bafc77bdf5170ff50a49bb176f24dd0"), looks := true }, kinds := [], alts := [], laidByText := true, laidKinds := [.data, .data, .data, .handle, .sentinel, .sentinel], laidTests := true, laidLooks := .later }
def DenAllCardSaid : Prop := Claim7.holds Tryz.pinned (.plain (OpenSpec.ofChange denAllSpec)) denAllCard

/-- THE SECOND FORM's CARD OF 'weirlaw1.JobParses'. -/
def jobParsesUptoCard : Claim7 := { stood := { row := jobParsesUptoRow, standIns := [], harness := (true, "09879db209a5121b2605c98c0ddd28859bafc77bdf5170ff50a49bb176f24dd0"), looks := true }, kinds := [], alts := [], laidByText := true, laidKinds := [.data, .data, .data, .data, .handle, .sentinel, .sentinel, .data, .pinned], laidTests := true, laidLooks := .later }
def JobParsesUptoCardSaid : Prop := Claim7.holds Tryz.pinned (.plain (OpenSpec.upto jobParsesSpec)) jobParsesUptoCard

/-- THE SECOND FORM's CARD OF 'weirlaw1.JobBack'. -/
def jobBackUptoCard : Claim7 := { stood := { row := jobBackUptoRow, standIns := [], harness := (true, "09879db209a5121b2605c98c0ddd28859bafc77bdf5170ff50a49bb176f24dd0"), looks := true }, kinds := [], alts := [], laidByText := true, laidKinds := [.data, .data, .data, .data, .sentinel, .sentinel, .data, .pinned], laidTests := true, laidLooks := .later }
def JobBackUptoCardSaid : Prop := Claim7.holds Tryz.pinned (.plain (OpenSpec.upto jobBackSpec)) jobBackUptoCard

/-- THE SECOND FORM's CARD OF 'weirlaw1.DenApplies'. -/
def denAppliesUptoCard : Claim7 := { stood := { row := denAppliesUptoRow, standIns := [], harness := (true, "09879db209a5121b2605c98c0ddd28859bafc77bdf5170ff50a49bb176f24dd0"), looks := true }, kinds := [], alts := [], laidByText := true, laidKinds := [.data, .data, .data, .sentinel, .sentinel], laidTests := true, laidLooks := .later }
def DenAppliesUptoCardSaid : Prop := Claim7.holds Tryz.pinned (.plain (OpenSpec.upto denAppliesSpec)) denAppliesUptoCard

/-- THE SECOND FORM's CARD OF 'weirlaw1.DenAll'. -/
def denAllUptoCard : Claim7 := { stood := { row := denAllUptoRow, standIns := [], harness := (true, "09879db209a5121b2605c98c0ddd28859bafc77bdf5170ff50a49bb176f24dd0"), looks := true }, kinds := [], alts := [], laidByText := true, laidKinds := [.data, .data, .data, .handle, .sentinel, .sentinel], laidTests := true, laidLooks := .later }
def DenAllUptoCardSaid : Prop := Claim7.holds Tryz.pinned (.plain (OpenSpec.upto denAllSpec)) denAllUptoCard
end Rows
end Go.Proofs.YtiadlnjmlgnehacGreatDoor
