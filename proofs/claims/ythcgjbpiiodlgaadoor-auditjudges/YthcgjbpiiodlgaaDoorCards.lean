/-
  DERIVED. GIVEN WITH THE SEED: THE CARDS: each row of YthcgjbpiiodlgaaDoorRows.lean that lists a variable, with what it lists TIED to the program's text (the seventh form; the later family's looks); each row that meets fmt, with fmt's text TOLD by the authors' own Lean function (tested against real Go, not proved from fmt's source: count such statements apart). THE CARD IS WHAT COUNTS. Prove the row's statement (the work); the ties are given (YthcgjbpiiodlgaaDoorTie.lean); close each card by the builder's one call (the guide's Derived/Test/ToyasCard.lean, 'card_holds'). Laid BY PROGRAM, IN A SANDBOX (cutbox-door.mjs). By AI agents, Wed Nov 11 2026. No macro, syntax, notation, axiom, sorry.
-/
import Derived.Test.YthcgjbpiiodlgaaDoorRows
import GoSem.ClaimSeven
namespace Go.Proofs.YthcgjbpiiodlgaaDoor
namespace Rows

/-- THE TIED CARD OF 'weirlaw4.AuditJudges'. -/
def auditJudgesCard : Claim7 := { stood := { row := auditJudgesRow, standIns := [], harness := (true, "9d0a694856978a1619f9fd046b0044be91631c9748d372bae9fd991f7a244430"), looks := true }, kinds := [], alts := [], laidByText := true, laidKinds := [.handle], laidTests := true, laidLooks := .later }
def AuditJudgesCardSaid : Prop := Claim7.holds Tryd.pinned (.plain (OpenSpec.ofChange auditJudgesSpec)) auditJudgesCard

/-- THE TIED CARD OF 'weirlaw4.AuditMerges'. -/
def auditMergesCard : Claim7 := { stood := { row := auditMergesRow, standIns := [], harness := (true, "9d0a694856978a1619f9fd046b0044be91631c9748d372bae9fd991f7a244430"), looks := true }, kinds := [], alts := [], laidByText := true, laidKinds := [.handle], laidTests := true, laidLooks := .later }
def AuditMergesCardSaid : Prop := Claim7.holds Tryd.pinned (.plain (OpenSpec.ofChange auditMergesSpec)) auditMergesCard

/-- THE SECOND FORM's CARD OF 'weirlaw4.AuditJudges'. -/
def auditJudgesUptoCard : Claim7 := { stood := { row := auditJudgesUptoRow, standIns := [], harness := (true, "9d0a694856978a1619f9fd046b0044be91631c9748d372bae9fd991f7a244430"), looks := true }, kinds := [], alts := [], laidByText := true, laidKinds := [.handle], laidTests := true, laidLooks := .later }
def AuditJudgesUptoCardSaid : Prop := Claim7.holds Tryd.pinned (.plain (OpenSpec.upto auditJudgesSpec)) auditJudgesUptoCard

/-- THE SECOND FORM's CARD OF 'weirlaw4.AuditMerges'. -/
def auditMergesUptoCard : Claim7 := { stood := { row := auditMergesUptoRow, standIns := [], harness := (true, "9d0a694856978a1619f9fd046b0044be91631c9748d372bae9fd991f7a244430"), looks := true }, kinds := [], alts := [], laidByText := true, laidKinds := [.handle], laidTests := true, laidLooks := .later }
def AuditMergesUptoCardSaid : Prop := Claim7.holds Tryd.pinned (.plain (OpenSpec.upto auditMergesSpec)) auditMergesUptoCard
end Rows
end Go.Proofs.YthcgjbpiiodlgaaDoor
