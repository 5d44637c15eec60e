/-
  DERIVED. GIVEN WITH THE SEED: THE CARDS: each row of YtkeckjgihjpfbaaDoorRows.lean that lists a variable, with what it lists TIED to the program's text (the seventh form; the later family's looks); each row that meets fmt, with fmt's text TOLD by the authors' own Lean function (tested against real Go, not proved from fmt's source: count such statements apart). THE CARD IS WHAT COUNTS. Prove the row's statement (the work); the ties are given (YtkeckjgihjpfbaaDoorTie.lean); close each card by the builder's one call (the guide's Derived/Test/ToyasCard.lean, 'card_holds'). Laid BY PROGRAM, IN A SANDBOX (cutbox-door.mjs). By AI agents, Wed Nov 11 2026. No macro, syntax, notation, axiom, sorry.
-/
import Derived.Test.YtkeckjgihjpfbaaDoorRows
import GoSem.ClaimSeven
namespace Go.Proofs.YtkeckjgihjpfbaaDoor
namespace Rows

/-- THE TIED CARD OF 'sluicewaylaw06.ProgEncodes'. -/
def progEncodesCard : Claim7 := { stood := { row := progEncodesRow, standIns := [], harness := (true, "ea6bd1473704ae3d03ddddd904c86ad9d046ecfe9c09b89a6aa83d8435116754"), looks := true }, kinds := [], alts := [], laidByText := true, laidKinds := [.data], laidTests := true, laidLooks := .later }
def ProgEncodesCardSaid : Prop := Claim7.holds Tryd.pinned (.plain (OpenSpec.ofChange progEncodesSpec)) progEncodesCard

/-- THE TIED CARD OF 'sluicewaylaw06.ProgDecodes'. -/
def progDecodesCard : Claim7 := { stood := { row := progDecodesRow, standIns := [], harness := (true, "ea6bd1473704ae3d03ddddd904c86ad9d046ecfe9c09b89a6aa83d8435116754"), looks := true }, kinds := [], alts := [], laidByText := true, laidKinds := [.data], laidTests := true, laidLooks := .later }
def ProgDecodesCardSaid : Prop := Claim7.holds Tryd.pinned (.plain (OpenSpec.ofChange progDecodesSpec)) progDecodesCard

/-- THE TIED CARD OF 'sluicewaylaw06.ProgShapes'. -/
def progShapesCard : Claim7 := { stood := { row := progShapesRow, standIns := [], harness := (true, "ea6bd1473704ae3d03ddddd904c86ad9d046ecfe9c09b89a6aa83d8435116754"), looks := true }, kinds := [], alts := [], laidByText := true, laidKinds := [.data], laidTests := true, laidLooks := .later }
def ProgShapesCardSaid : Prop := Claim7.holds Tryd.pinned (.plain (OpenSpec.ofChange progShapesSpec)) progShapesCard

/-- THE TIED CARD OF 'sluicewaylaw06.ProgCuts'. -/
def progCutsCard : Claim7 := { stood := { row := progCutsRow, standIns := [], harness := (true, "ea6bd1473704ae3d03ddddd904c86ad9d046ecfe9c09b89a6aa83d8435116754"), looks := true }, kinds := [], alts := [], laidByText := true, laidKinds := [.data], laidTests := true, laidLooks := .later }
def ProgCutsCardSaid : Prop := Claim7.holds Tryd.pinned (.plain (OpenSpec.ofChange progCutsSpec)) progCutsCard

/-- THE TIED CARD OF 'sluicewaylaw07.AsmPrints'. -/
def asmPrintsCard : Claim7 := { stood := { row := asmPrintsRow, standIns := [], harness := (true, "ea6bd1473704ae3d03ddddd904c86ad9d046ecfe9c09b89a6aa83d8435116754"), looks := true }, kinds := [], alts := [], laidByText := true, laidKinds := [.data, .data, .data, .data, .data, .sentinel, .sentinel, .data, .data, .pinned], laidTests := true, laidLooks := .later }
def AsmPrintsCardSaid : Prop := Claim7.holds Tryd.pinned (.plain (OpenSpec.ofChange asmPrintsSpec)) asmPrintsCard

/-- THE TIED CARD OF 'sluicewaylaw07.AsmParses'. -/
def asmParsesCard : Claim7 := { stood := { row := asmParsesRow, standIns := [], harness := (true, "ea6bd1473704ae3d03ddddd904c86ad9d046ecfe9c09b89a6aa83d8435116754"), looks := true }, kinds := [], alts := [], laidByText := true, laidKinds := [.data, .data, .data, .data, .data, .sentinel, .sentinel, .data, .data, .pinned], laidTests := true, laidLooks := .later }
def AsmParsesCardSaid : Prop := Claim7.holds Tryd.pinned (.plain (OpenSpec.ofChange asmParsesSpec)) asmParsesCard

/-- THE TIED CARD OF 'sluicewaylaw07.AsmLines'. -/
def asmLinesCard : Claim7 := { stood := { row := asmLinesRow, standIns := [], harness := (true, "ea6bd1473704ae3d03ddddd904c86ad9d046ecfe9c09b89a6aa83d8435116754"), looks := true }, kinds := [], alts := [], laidByText := true, laidKinds := [.data, .data, .data, .data, .data, .data], laidTests := true, laidLooks := .later }
def AsmLinesCardSaid : Prop := Claim7.holds Tryd.pinned (.plain (OpenSpec.ofChange asmLinesSpec)) asmLinesCard

/-- THE TIED CARD OF 'sluicewaylaw07.AsmApart'. -/
def asmApartCard : Claim7 := { stood := { row := asmApartRow, standIns := [], harness := (true, "ea6bd1473704ae3d03ddddd904c86ad9d046ecfe9c09b89a6aa83d8435116754"), looks := true }, kinds := [], alts := [], laidByText := true, laidKinds := [.data, .data, .data, .data, .data, .data], laidTests := true, laidLooks := .later }
def AsmApartCardSaid : Prop := Claim7.holds Tryd.pinned (.plain (OpenSpec.ofChange asmApartSpec)) asmApartCard

/-- THE SECOND FORM's CARD OF 'sluicewaylaw06.ProgEncodes'. -/
def progEncodesUptoCard : Claim7 := { stood := { row := progEncodesUptoRow, standIns := [], harness := (true, "ea6bd1473704ae3d03ddddd904c86ad9d046ecfe9c09b89a6aa83d8435116754"), looks := true }, kinds := [], alts := [], laidByText := true, laidKinds := [.data], laidTests := true, laidLooks := .later }
def ProgEncodesUptoCardSaid : Prop := Claim7.holds Tryd.pinned (.plain (OpenSpec.upto progEncodesSpec)) progEncodesUptoCard

/-- THE SECOND FORM's CARD OF 'sluicewaylaw06.ProgDecodes'. -/
def progDecodesUptoCard : Claim7 := { stood := { row := progDecodesUptoRow, standIns := [], harness := (true, "ea6bd1473704ae3d03ddddd904c86ad9d046ecfe9c09b89a6aa83d8435116754"), looks := true }, kinds := [], alts := [], laidByText := true, laidKinds := [.data], laidTests := true, laidLooks := .later }
def ProgDecodesUptoCardSaid : Prop := Claim7.holds Tryd.pinned (.plain (OpenSpec.upto progDecodesSpec)) progDecodesUptoCard

/-- THE SECOND FORM's CARD OF 'sluicewaylaw06.ProgShapes'. -/
def progShapesUptoCard : Claim7 := { stood := { row := progShapesUptoRow, standIns := [], harness := (true, "ea6bd1473704ae3d03ddddd904c86ad9d046ecfe9c09b89a6aa83d8435116754"), looks := true }, kinds := [], alts := [], laidByText := true, laidKinds := [.data], laidTests := true, laidLooks := .later }
def ProgShapesUptoCardSaid : Prop := Claim7.holds Tryd.pinned (.plain (OpenSpec.upto progShapesSpec)) progShapesUptoCard

/-- THE SECOND FORM's CARD OF 'sluicewaylaw06.ProgCuts'. -/
def progCutsUptoCard : Claim7 := { stood := { row := progCutsUptoRow, standIns := [], harness := (true, "ea6bd1473704ae3d03ddddd904c86ad9d046ecfe9c09b89a6aa83d8435116754"), looks := true }, kinds := [], alts := [], laidByText := true, laidKinds := [.data], laidTests := true, laidLooks := .later }
def ProgCutsUptoCardSaid : Prop := Claim7.holds Tryd.pinned (.plain (OpenSpec.upto progCutsSpec)) progCutsUptoCard

/-- THE SECOND FORM's CARD OF 'sluicewaylaw07.AsmPrints'. -/
def asmPrintsUptoCard : Claim7 := { stood := { row := asmPrintsUptoRow, standIns := [], harness := (true, "ea6bd1473704ae3d03ddddd904c86ad9d046ecfe9c09b89a6aa83d8435116754"), looks := true }, kinds := [], alts := [], laidByText := true, laidKinds := [.data, .data, .data, .data, .data, .sentinel, .sentinel, .data, .data, .pinned], laidTests := true, laidLooks := .later }
def AsmPrintsUptoCardSaid : Prop := Claim7.holds Tryd.pinned (.plain (OpenSpec.upto asmPrintsSpec)) asmPrintsUptoCard

/-- THE SECOND FORM's CARD OF 'sluicewaylaw07.AsmParses'. -/
def asmParsesUptoCard : Claim7 := { stood := { row := asmParsesUptoRow, standIns := [], harness := (true, "ea6bd1473704ae3d03ddddd904c86ad9d046ecfe9c09b89a6aa83d8435116754"), looks := true }, kinds := [], alts := [], laidByText := true, laidKinds := [.data, .data, .data, .data, .data, .sentinel, .sentinel, .data, .data, .pinned], laidTests := true, laidLooks := .later }
def AsmParsesUptoCardSaid : Prop := Claim7.holds Tryd.pinned (.plain (OpenSpec.upto asmParsesSpec)) asmParsesUptoCard

/-- THE SECOND FORM's CARD OF 'sluicewaylaw07.AsmLines'. -/
def asmLinesUptoCard : Claim7 := { stood := { row := asmLinesUptoRow, standIns := [], harness := (true, "ea6bd1473704ae3d03ddddd904c86ad9d046ecfe9c09b89a6aa83d8435116754"), looks := true }, kinds := [], alts := [], laidByText := true, laidKinds := [.data, .data, .data, .data, .data, .data], laidTests := true, laidLooks := .later }
def AsmLinesUptoCardSaid : Prop := Claim7.holds Tryd.pinned (.plain (OpenSpec.upto asmLinesSpec)) asmLinesUptoCard

/-- THE SECOND FORM's CARD OF 'sluicewaylaw07.AsmApart'. -/
def asmApartUptoCard : Claim7 := { stood := { row := asmApartUptoRow, standIns := [], harness := (true, "ea6bd1473704ae3d03ddddd904c86ad9d046ecfe9c09b89a6aa83d8435116754"), looks := true }, kinds := [], alts := [], laidByText := true, laidKinds := [.data, .data, .data, .data, .data, .data], laidTests := true, laidLooks := .later }
def AsmApartUptoCardSaid : Prop := Claim7.holds Tryd.pinned (.plain (OpenSpec.upto asmApartSpec)) asmApartUptoCard
end Rows
end Go.Proofs.YtkeckjgihjpfbaaDoor
