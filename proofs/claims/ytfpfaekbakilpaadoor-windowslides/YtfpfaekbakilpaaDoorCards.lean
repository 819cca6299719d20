/-
  DERIVED. GIVEN WITH THE SEED: THE CARDS: each row of YtfpfaekbakilpaaDoorRows.lean that lists a variable, with what it lists TIED to the program's text (the seventh form; the later family's looks); each row that meets fmt, with fmt's text TOLD by the authors' own Lean function (tested against real Go, not proved from fmt's source: count such statements apart). THE CARD IS WHAT COUNTS. Prove the row's statement (the work); the ties are given (YtfpfaekbakilpaaDoorTie.lean); close each card by the builder's one call (the guide's Derived/Test/ToyasCard.lean, 'card_holds'). Laid BY PROGRAM, IN A SANDBOX (cutbox-door.mjs). By AI agents, Wed Nov 11 2026. No macro, syntax, notation, axiom, sorry.
-/
import Derived.Test.YtfpfaekbakilpaaDoorRows
import GoSem.ClaimSeven
namespace Go.Proofs.YtfpfaekbakilpaaDoor
namespace Rows

/-- THE TIED CARD OF 'weirlaw4.WindowSlides'. -/
def windowSlidesCard : Claim7 := { stood := { row := windowSlidesRow, standIns := [], harness := (true, "7cb16fd8c374c318e64975d0dbcc549b419d27a6d824152a586d92c81816565c"), looks := true }, kinds := [], alts := [], laidByText := true, laidKinds := [.handle], laidTests := true, laidLooks := .later }
def WindowSlidesCardSaid : Prop := Claim7.holds Tryd.pinned (.plain (OpenSpec.ofChange windowSlidesSpec)) windowSlidesCard

/-- THE TIED CARD OF 'weirlaw4.WindowSessions'. -/
def windowSessionsCard : Claim7 := { stood := { row := windowSessionsRow, standIns := [], harness := (true, "7cb16fd8c374c318e64975d0dbcc549b419d27a6d824152a586d92c81816565c"), looks := true }, kinds := [], alts := [], laidByText := true, laidKinds := [.handle], laidTests := true, laidLooks := .later }
def WindowSessionsCardSaid : Prop := Claim7.holds Tryd.pinned (.plain (OpenSpec.ofChange windowSessionsSpec)) windowSessionsCard

/-- THE TIED CARD OF 'weirlaw4.WindowMarks'. -/
def windowMarksCard : Claim7 := { stood := { row := windowMarksRow, standIns := [], harness := (true, "7cb16fd8c374c318e64975d0dbcc549b419d27a6d824152a586d92c81816565c"), looks := true }, kinds := [], alts := [], laidByText := true, laidKinds := [.handle], laidTests := true, laidLooks := .later }
def WindowMarksCardSaid : Prop := Claim7.holds Tryd.pinned (.plain (OpenSpec.ofChange windowMarksSpec)) windowMarksCard

/-- THE SECOND FORM's CARD OF 'weirlaw4.WindowSlides'. -/
def windowSlidesUptoCard : Claim7 := { stood := { row := windowSlidesUptoRow, standIns := [], harness := (true, "7cb16fd8c374c318e64975d0dbcc549b419d27a6d824152a586d92c81816565c"), looks := true }, kinds := [], alts := [], laidByText := true, laidKinds := [.handle], laidTests := true, laidLooks := .later }
def WindowSlidesUptoCardSaid : Prop := Claim7.holds Tryd.pinned (.plain (OpenSpec.upto windowSlidesSpec)) windowSlidesUptoCard

/-- THE SECOND FORM's CARD OF 'weirlaw4.WindowSessions'. -/
def windowSessionsUptoCard : Claim7 := { stood := { row := windowSessionsUptoRow, standIns := [], harness := (true, "7cb16fd8c374c318e64975d0dbcc549b419d27a6d824152a586d92c81816565c"), looks := true }, kinds := [], alts := [], laidByText := true, laidKinds := [.handle], laidTests := true, laidLooks := .later }
def WindowSessionsUptoCardSaid : Prop := Claim7.holds Tryd.pinned (.plain (OpenSpec.upto windowSessionsSpec)) windowSessionsUptoCard

/-- THE SECOND FORM's CARD OF 'weirlaw4.WindowMarks'. -/
def windowMarksUptoCard : Claim7 := { stood := { row := windowMarksUptoRow, standIns := [], harness := (true, "7cb16fd8c374c318e64975d0dbcc549b419d27a6d824152a586d92c81816565c"), looks := true }, kinds := [], alts := [], laidByText := true, laidKinds := [.handle], laidTests := true, laidLooks := .later }
def WindowMarksUptoCardSaid : Prop := Claim7.holds Tryd.pinned (.plain (OpenSpec.upto windowMarksSpec)) windowMarksUptoCard
end Rows
end Go.Proofs.YtfpfaekbakilpaaDoor
