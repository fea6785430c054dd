/-
  DERIVED. GIVEN WITH THE SEED: THE CARDS: each row of YtfkejnnbfneieaaGreatDoorRows.lean that lists a variable, with what it lists TIED to the program's text (the seventh form; the later family's looks); each row that meets fmt, with fmt's text TOLD by the authors' own Lean function (tested against real Go, not proved from fmt's source: count such statements apart). THE CARD IS WHAT COUNTS. Prove the row's statement (the work); the ties are given (YtfkejnnbfneieaaGreatDoorTie.lean); close each card by the builder's one call (the guide's Derived/Test/ToyasCard.lean, 'card_holds'). Laid BY PROGRAM, IN A SANDBOX (cutbox-door.mjs). By AI agents, Wed Nov 11 2026. No macro, syntax, notation, axiom, sorry.
-/
import Derived.Test.YtfkejnnbfneieaaGreatDoorRows
import GoSem.ClaimSeven
namespace Go.Proofs.YtfkejnnbfneieaaGreatDoor
namespace Rows

/-- THE TIED CARD OF 'bogielaw13.ReportMatchesReference'. -/
def reportMatchesReferenceCard : Claim7 := { stood := { row := reportMatchesReferenceRow, standIns := [], harness := (true, "97ca6f1dbf9f82a8028d707176c737e856aca8118ca1f426f1cfc5f641bb734d"), looks := true }, kinds := [], alts := [], laidByText := true, laidKinds := [.data, .data, .data, .sentinel, .sentinel, .data], laidTests := true, laidLooks := .later }
def ReportMatchesReferenceCardSaid : Prop := Claim7.holds Tryz.pinned (.plain (OpenSpec.ofChange reportMatchesReferenceSpec)) reportMatchesReferenceCard

/-- THE TIED CARD OF 'bogielaw13.ReportTexts'. -/
def reportTextsCard : Claim7 := { stood := { row := reportTextsRow, standIns := [], harness := (true, "97ca6f1dbf9f82a8028d707176c737e856aca8118ca1f426f1cfc5f641bb734d"), looks := true }, kinds := [], alts := [], laidByText := true, laidKinds := [.data, .data, .data, .sentinel, .sentinel, .data], laidTests := true, laidLooks := .later }
def ReportTextsCardSaid : Prop := Claim7.holds Tryz.pinned (.plain (OpenSpec.ofChange reportTextsSpec)) reportTextsCard

/-- THE SECOND FORM's CARD OF 'bogielaw13.ReportMatchesReference'. -/
def reportMatchesReferenceUptoCard : Claim7 := { stood := { row := reportMatchesReferenceUptoRow, standIns := [], harness := (true, "97ca6f1dbf9f82a8028d707176c737e856aca8118ca1f426f1cfc5f641bb734d"), looks := true }, kinds := [], alts := [], laidByText := true, laidKinds := [.data, .data, .data, .sentinel, .sentinel, .data], laidTests := true, laidLooks := .later }
def ReportMatchesReferenceUptoCardSaid : Prop := Claim7.holds Tryz.pinned (.plain (OpenSpec.upto reportMatchesReferenceSpec)) reportMatchesReferenceUptoCard

/-- THE SECOND FORM's CARD OF 'bogielaw13.ReportTexts'. -/
def reportTextsUptoCard : Claim7 := { stood := { row := reportTextsUptoRow, standIns := [], harness := (true, "97ca6f1dbf9f82a8028d707176c737e856aca8118ca1f426f1cfc5f641bb734d"), looks := true }, kinds := [], alts := [], laidByText := true, laidKinds := [.data, .data, .data, .sentinel, .sentinel, .data], laidTests := true, laidLooks := .later }
def ReportTextsUptoCardSaid : Prop := Claim7.holds Tryz.pinned (.plain (OpenSpec.upto reportTextsSpec)) reportTextsUptoCard
end Rows
end Go.Proofs.YtfkejnnbfneieaaGreatDoor
