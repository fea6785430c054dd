/-
  DERIVED. GIVEN WITH THE SEED: THE CARDS: each row of YtknphmkblcbabaaGreatDoorRows.lean that lists a variable, with what it lists TIED to the program's text (the seventh form; the later family's looks); each row that meets fmt, with fmt's text TOLD by the authors' own Lean function (tested against real Go, not proved from fmt's source: count such statements apart). THE CARD IS WHAT COUNTS. Prove the row's statement (the work); the ties are given (YtknphmkblcbabaaGreatDoorTie.lean); close each card by the builder's one call (the guide's Derived/Test/ToyasCard.lean, 'card_holds'). Laid BY PROGRAM, IN A SANDBOX (cutbox-door.mjs). By AI agents, Wed Nov 11 2026. No macro, syntax, notation, axiom, sorry.
-/
import Derived.Test.YtknphmkblcbabaaGreatDoorRows
import GoSem.ClaimSeven
namespace Go.Proofs.YtknphmkblcbabaaGreatDoor
namespace Rows

/-- THE TIED CARD OF 'bogielaw13.ReportMatchesReference'. -/
def reportMatchesReferenceCard : Claim7 := { stood := { row := reportMatchesReferenceRow, standIns := [], harness := (true, "ddc5d8a70c94b01edb8deb8fcbe52bc484a6108e682c26c4ff7d4fd72087468a"), looks := true }, kinds := [], alts := [], laidByText := true, laidKinds := [.data, .data, .data, .sentinel, .sentinel, .data], laidTests := true, laidLooks := .later }
def ReportMatchesReferenceCardSaid : Prop := Claim7.holds Tryz.pinned (.plain (OpenSpec.ofChange reportMatchesReferenceSpec)) reportMatchesReferenceCard

/-- THE TIED CARD OF 'bogielaw13.ReportTexts'. -/
def reportTextsCard : Claim7 := { stood := { row := reportTextsRow, standIns := [], harness := (true, "ddc5d8a70c94b01edb8deb8fcbe52bc484a6108e682c26c4ff7d4fd72087468a"), looks := true }, kinds := [], alts := [], laidByText := true, laidKinds := [.data, .data, .data, .sentinel, .sentinel, .data], laidTests := true, laidLooks := .later }
def ReportTextsCardSaid : Prop := Claim7.holds Tryz.pinned (.plain (OpenSpec.ofChange reportTextsSpec)) reportTextsCard

/-- THE TIED CARD OF 'bogielaw13.ReportNames'. -/
def reportNamesCard : Claim7 := { stood := { row := reportNamesRow, standIns := [], harness := (true, "ddc5d8a70c94b01edb8deb8fcbe52bc484a6108e682c26c4ff7d4fd72087468a"), looks := true }, kinds := [], alts := [], laidByText := true, laidKinds := [.data, .data, .data, .data], laidTests := true, laidLooks := .later }
def ReportNamesCardSaid : Prop := Claim7.holds Tryz.pinned (.plain (OpenSpec.ofChange reportNamesSpec)) reportNamesCard

/-- THE TIED CARD OF 'bogielaw13.ReportPicks'. -/
def reportPicksCard : Claim7 := { stood := { row := reportPicksRow, standIns := [], harness := (true, "ddc5d8a70c94b01edb8deb8fcbe52bc484a6108e682c26c4ff7d4fd72087468a"), looks := true }, kinds := [], alts := [], laidByText := true, laidKinds := [.data, .data, .data, .data], laidTests := true, laidLooks := .later }
def ReportPicksCardSaid : Prop := Claim7.holds Tryz.pinned (.plain (OpenSpec.ofChange reportPicksSpec)) reportPicksCard

/-- THE TIED CARD OF 'bogielaw13.ReportJoins'. -/
def reportJoinsCard : Claim7 := { stood := { row := reportJoinsRow, standIns := [], harness := (true, "ddc5d8a70c94b01edb8deb8fcbe52bc484a6108e682c26c4ff7d4fd72087468a"), looks := true }, kinds := [], alts := [], laidByText := true, laidKinds := [.data, .data, .data, .data], laidTests := true, laidLooks := .later }
def ReportJoinsCardSaid : Prop := Claim7.holds Tryz.pinned (.plain (OpenSpec.ofChange reportJoinsSpec)) reportJoinsCard

/-- THE TIED CARD OF 'bogielaw13.ReportFewer'. -/
def reportFewerCard : Claim7 := { stood := { row := reportFewerRow, standIns := [], harness := (true, "ddc5d8a70c94b01edb8deb8fcbe52bc484a6108e682c26c4ff7d4fd72087468a"), looks := true }, kinds := [], alts := [], laidByText := true, laidKinds := [.data, .data, .data, .data], laidTests := true, laidLooks := .later }
def ReportFewerCardSaid : Prop := Claim7.holds Tryz.pinned (.plain (OpenSpec.ofChange reportFewerSpec)) reportFewerCard

/-- THE SECOND FORM's CARD OF 'bogielaw13.ReportMatchesReference'. -/
def reportMatchesReferenceUptoCard : Claim7 := { stood := { row := reportMatchesReferenceUptoRow, standIns := [], harness := (true, "ddc5d8a70c94b01edb8deb8fcbe52bc484a6108e682c26c4ff7d4fd72087468a"), looks := true }, kinds := [], alts := [], laidByText := true, laidKinds := [.data, .data, .data, .sentinel, .sentinel, .data], laidTests := true, laidLooks := .later }
def ReportMatchesReferenceUptoCardSaid : Prop := Claim7.holds Tryz.pinned (.plain (OpenSpec.upto reportMatchesReferenceSpec)) reportMatchesReferenceUptoCard

/-- THE SECOND FORM's CARD OF 'bogielaw13.ReportTexts'. -/
def reportTextsUptoCard : Claim7 := { stood := { row := reportTextsUptoRow, standIns := [], harness := (true, "ddc5d8a70c94b01edb8deb8fcbe52bc484a6108e682c26c4ff7d4fd72087468a"), looks := true }, kinds := [], alts := [], laidByText := true, laidKinds := [.data, .data, .data, .sentinel, .sentinel, .data], laidTests := true, laidLooks := .later }
def ReportTextsUptoCardSaid : Prop := Claim7.holds Tryz.pinned (.plain (OpenSpec.upto reportTextsSpec)) reportTextsUptoCard

/-- THE SECOND FORM's CARD OF 'bogielaw13.ReportNames'. -/
def reportNamesUptoCard : Claim7 := { stood := { row := reportNamesUptoRow, standIns := [], harness := (true, "ddc5d8a70c94b01edb8deb8fcbe52bc484a6108e682c26c4ff7d4fd72087468a"), looks := true }, kinds := [], alts := [], laidByText := true, laidKinds := [.data, .data, .data, .data], laidTests := true, laidLooks := .later }
def ReportNamesUptoCardSaid : Prop := Claim7.holds Tryz.pinned (.plain (OpenSpec.upto reportNamesSpec)) reportNamesUptoCard

/-- THE SECOND FORM's CARD OF 'bogielaw13.ReportPicks'. -/
def reportPicksUptoCard : Claim7 := { stood := { row := reportPicksUptoRow, standIns := [], harness := (true, "ddc5d8a70c94b01edb8deb8fcbe52bc484a6108e682c26c4ff7d4fd72087468a"), looks := true }, kinds := [], alts := [], laidByText := true, laidKinds := [.data, .data, .data, .data], laidTests := true, laidLooks := .later }
def ReportPicksUptoCardSaid : Prop := Claim7.holds Tryz.pinned (.plain (OpenSpec.upto reportPicksSpec)) reportPicksUptoCard

/-- THE SECOND FORM's CARD OF 'bogielaw13.ReportJoins'. -/
def reportJoinsUptoCard : Claim7 := { stood := { row := reportJoinsUptoRow, standIns := [], harness := (true, "ddc5d8a70c94b01edb8deb8fcbe52bc484a6108e682c26c4ff7d4fd72087468a"), looks := true }, kinds := [], alts := [], laidByText := true, laidKinds := [.data, .data, .data, .data], laidTests := true, laidLooks := .later }
def ReportJoinsUptoCardSaid : Prop := Claim7.holds Tryz.pinned (.plain (OpenSpec.upto reportJoinsSpec)) reportJoinsUptoCard

/-- THE SECOND FORM's CARD OF 'bogielaw13.ReportFewer'. -/
def reportFewerUptoCard : Claim7 := { stood := { row := reportFewerUptoRow, standIns := [], harness := (true, "ddc5d8a70c94b01edb8deb8fcbe52bc484a6108e682c26c4ff7d4fd72087468a"), looks := true }, kinds := [], alts := [], laidByText := true, laidKinds := [.data, .data, .data, .data], laidTests := true, laidLooks := .later }
def ReportFewerUptoCardSaid : Prop := Claim7.holds Tryz.pinned (.plain (OpenSpec.upto reportFewerSpec)) reportFewerUptoCard
end Rows
end Go.Proofs.YtknphmkblcbabaaGreatDoor
