/-
  DERIVED. GIVEN WITH THE SEED: THE CARDS: each row of YtiofpimchbhfcaaDoorRows.lean that lists a variable, with what it lists TIED to the program's text (the seventh form; the later family's looks); each row that meets fmt, with fmt's text TOLD by the authors' own Lean function (tested against real Go, not proved from fmt's source: count such statements apart). THE CARD IS WHAT COUNTS. Prove the row's statement (the work); the ties are given (YtiofpimchbhfcaaDoorTie.lean); close each card by the builder's one call (the guide's Derived/Test/ToyasCard.lean, 'card_holds'). Laid BY PROGRAM, IN A SANDBOX (cutbox-door.mjs). By AI agents, Wed Nov 11 2026. No macro, syntax, notation, axiom, sorry.
-/
import Derived.Test.YtiofpimchbhfcaaDoorRows
import GoSem.ClaimSeven
namespace Go.Proofs.YtiofpimchbhfcaaDoor
namespace Rows

/-- THE TIED CARD OF 'weirlaw1.GroupKeys'. -/
def groupKeysCard : Claim7 := { stood := { row := groupKeysRow, standIns := [], harness := (true, "022cc42f0c6cb0f085b665cb9e17431b656574fc4d21e59306f4e07203f7cbe2"), looks := true }, kinds := [], alts := [], laidByText := true, laidKinds := [.handle], laidTests := true, laidLooks := .later }
def GroupKeysCardSaid : Prop := Claim7.holds Tryd.pinned (.plain (OpenSpec.ofChange groupKeysSpec)) groupKeysCard

/-- THE TIED CARD OF 'weirlaw1.GroupCrews'. -/
def groupCrewsCard : Claim7 := { stood := { row := groupCrewsRow, standIns := [], harness := (true, "022cc42f0c6cb0f085b665cb9e17431b656574fc4d21e59306f4e07203f7cbe2"), looks := true }, kinds := [], alts := [], laidByText := true, laidKinds := [.handle], laidTests := true, laidLooks := .later }
def GroupCrewsCardSaid : Prop := Claim7.holds Tryd.pinned (.plain (OpenSpec.ofChange groupCrewsSpec)) groupCrewsCard

/-- THE SECOND FORM's CARD OF 'weirlaw1.GroupKeys'. -/
def groupKeysUptoCard : Claim7 := { stood := { row := groupKeysUptoRow, standIns := [], harness := (true, "022cc42f0c6cb0f085b665cb9e17431b656574fc4d21e59306f4e07203f7cbe2"), looks := true }, kinds := [], alts := [], laidByText := true, laidKinds := [.handle], laidTests := true, laidLooks := .later }
def GroupKeysUptoCardSaid : Prop := Claim7.holds Tryd.pinned (.plain (OpenSpec.upto groupKeysSpec)) groupKeysUptoCard

/-- THE SECOND FORM's CARD OF 'weirlaw1.GroupCrews'. -/
def groupCrewsUptoCard : Claim7 := { stood := { row := groupCrewsUptoRow, standIns := [], harness := (true, "022cc42f0c6cb0f085b665cb9e17431b656574fc4d21e59306f4e07203f7cbe2"), looks := true }, kinds := [], alts := [], laidByText := true, laidKinds := [.handle], laidTests := true, laidLooks := .later }
def GroupCrewsUptoCardSaid : Prop := Claim7.holds Tryd.pinned (.plain (OpenSpec.upto groupCrewsSpec)) groupCrewsUptoCard
end Rows
end Go.Proofs.YtiofpimchbhfcaaDoor
