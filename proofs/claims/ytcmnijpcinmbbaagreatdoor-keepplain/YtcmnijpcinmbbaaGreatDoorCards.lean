/-
  DERIVED. GIVEN WITH THE SEED: THE CARDS: each row of YtcmnijpcinmbbaaGreatDoorRows.lean that lists a variable, with what it lists TIED to the program's text (the seventh form; the later family's looks); each row that meets fmt, with fmt's text TOLD by the authors' own Lean function (tested against real Go, not proved from fmt's source: count such statements apart). THE CARD IS WHAT COUNTS. Prove the row's statement (the work); the ties are given (YtcmnijpcinmbbaaGreatDoorTie.lean); close each card by the builder's one call (the guide's Derived/Test/ToyasCard.lean, 'card_holds'). Laid BY PROGRAM, IN A SANDBOX (cutbox-door.mjs). By AI agents, Wed Nov 11 2026. No macro, syntax, notation, axiom, sorry.
-/
import Derived.Test.YtcmnijpcinmbbaaGreatDoorRows
import GoSem.ClaimSeven
namespace Go.Proofs.YtcmnijpcinmbbaaGreatDoor
namespace Rows

/-- THE TIED CARD OF 'weirlaw3.KeepPlain'. -/
def keepPlainCard : Claim7 := { stood := { row := keepPlainRow, standIns := [], harness := (true, "0f3ddfab99a16d0b05971d986b7a25b08b9d2977a88dd922f0d4bc4deb2e21bf"), looks := true }, kinds := [], alts := [], laidByText := true, laidKinds := [.data, .data, .data, .handle, .sentinel, .sentinel], laidTests := true, laidLooks := .later }
def KeepPlainCardSaid : Prop := Claim7.holds Tryz.pinned (.plain (OpenSpec.ofChange keepPlainSpec)) keepPlainCard

/-- THE TIED CARD OF 'weirlaw3.KeepBreaks'. -/
def keepBreaksCard : Claim7 := { stood := { row := keepBreaksRow, standIns := [], harness := (true, "0f3ddfab99a16d0b05971d986b7a25b08b9d2977a88dd922f0d4bc4deb2e21bf"), looks := true }, kinds := [], alts := [], laidByText := true, laidKinds := [.data, .data, .data, .sentinel, .sentinel], laidTests := true, laidLooks := .later }
def KeepBreaksCardSaid : Prop := Claim7.holds Tryz.pinned (.plain (OpenSpec.ofChange keepBreaksSpec)) keepBreaksCard

/-- THE TIED CARD OF 'weirlaw6.KeepAny'. -/
def keepAnyCard : Claim7 := { stood := { row := keepAnyRow, standIns := [], harness := (true, "0f3ddfab99a16d0b05971d986b7a25b08b9d2977a88dd922f0d4bc4deb2e21bf"), looks := true }, kinds := [], alts := [], laidByText := true, laidKinds := [.data, .data, .data, .sentinel, .sentinel], laidTests := true, laidLooks := .later }
def KeepAnyCardSaid : Prop := Claim7.holds Tryz.pinned (.plain (OpenSpec.ofChange keepAnySpec)) keepAnyCard

/-- THE SECOND FORM's CARD OF 'weirlaw3.KeepPlain'. -/
def keepPlainUptoCard : Claim7 := { stood := { row := keepPlainUptoRow, standIns := [], harness := (true, "0f3ddfab99a16d0b05971d986b7a25b08b9d2977a88dd922f0d4bc4deb2e21bf"), looks := true }, kinds := [], alts := [], laidByText := true, laidKinds := [.data, .data, .data, .handle, .sentinel, .sentinel], laidTests := true, laidLooks := .later }
def KeepPlainUptoCardSaid : Prop := Claim7.holds Tryz.pinned (.plain (OpenSpec.upto keepPlainSpec)) keepPlainUptoCard

/-- THE SECOND FORM's CARD OF 'weirlaw3.KeepBreaks'. -/
def keepBreaksUptoCard : Claim7 := { stood := { row := keepBreaksUptoRow, standIns := [], harness := (true, "0f3ddfab99a16d0b05971d986b7a25b08b9d2977a88dd922f0d4bc4deb2e21bf"), looks := true }, kinds := [], alts := [], laidByText := true, laidKinds := [.data, .data, .data, .sentinel, .sentinel], laidTests := true, laidLooks := .later }
def KeepBreaksUptoCardSaid : Prop := Claim7.holds Tryz.pinned (.plain (OpenSpec.upto keepBreaksSpec)) keepBreaksUptoCard

/-- THE SECOND FORM's CARD OF 'weirlaw6.KeepAny'. -/
def keepAnyUptoCard : Claim7 := { stood := { row := keepAnyUptoRow, standIns := [], harness := (true, "0f3ddfab99a16d0b05971d986b7a25b08b9d2977a88dd922f0d4bc4deb2e21bf"), looks := true }, kinds := [], alts := [], laidByText := true, laidKinds := [.data, .data, .data, .sentinel, .sentinel], laidTests := true, laidLooks := .later }
def KeepAnyUptoCardSaid : Prop := Claim7.holds Tryz.pinned (.plain (OpenSpec.upto keepAnySpec)) keepAnyUptoCard
end Rows
end Go.Proofs.YtcmnijpcinmbbaaGreatDoor
