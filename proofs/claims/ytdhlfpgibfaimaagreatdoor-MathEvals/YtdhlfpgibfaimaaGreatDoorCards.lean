/-
  DERIVED. GIVEN WITH THE SEED: THE CARDS: each row of YtdhlfpgibfaimaaGreatDoorRows.lean that lists a variable, with what it lists TIED to the program's text (the seventh form; the later family's looks); each row that meets fmt, with fmt's text TOLD by the authors' own Lean function (tested against real Go, not proved from fmt's source: count such statements apart). THE CARD IS WHAT COUNTS. Prove the row's statement (the work); the ties are given (YtdhlfpgibfaimaaGreatDoorTie.lean); close each card by the builder's one call (the guide's Derived/Test/ToyasCard.lean, 'card_holds'). Laid BY PROGRAM, IN A SANDBOX (cutbox-door.mjs). By AI agents, Wed Nov 11 2026. No macro, syntax, notation, axiom, sorry.
-/
import Derived.Test.YtdhlfpgibfaimaaGreatDoorRows
import GoSem.ClaimSeven
namespace Go.Proofs.YtdhlfpgibfaimaaGreatDoor
namespace Rows

/-- THE TIED CARD OF 'klaxonlaw11.MathParses'. -/
def mathParsesCard : Claim7 := { stood := { row := mathParsesRow, standIns := [], harness := (true, "08b122d2bf374064c7aac1b16d452358476b773a4757c5f710ffb27b7ff365df"), looks := true }, kinds := [], alts := [], laidByText := true, laidKinds := [.data, .data, .data, .data, .sentinel, .sentinel, .data, .pinned], laidTests := true, laidLooks := .later }
def MathParsesCardSaid : Prop := Claim7.holds Tryz.pinned (.plain (OpenSpec.ofChange mathParsesSpec)) mathParsesCard

/-- THE TIED CARD OF 'klaxonlaw11.MathEvals'. -/
def mathEvalsCard : Claim7 := { stood := { row := mathEvalsRow, standIns := [], harness := (true, "08b122d2bf374064c7aac1b16d452358476b773a4757c5f710ffb27b7ff365df"), looks := true }, kinds := [], alts := [], laidByText := true, laidKinds := [.data, .data, .data, .data, .sentinel, .sentinel, .data, .pinned], laidTests := true, laidLooks := .later }
def MathEvalsCardSaid : Prop := Claim7.holds Tryz.pinned (.plain (OpenSpec.ofChange mathEvalsSpec)) mathEvalsCard

/-- THE TIED CARD OF 'klaxonlaw11.MathBack'. -/
def mathBackCard : Claim7 := { stood := { row := mathBackRow, standIns := [], harness := (true, "08b122d2bf374064c7aac1b16d452358476b773a4757c5f710ffb27b7ff365df"), looks := true }, kinds := [], alts := [], laidByText := true, laidKinds := [.data, .data, .data, .data, .sentinel, .sentinel, .data, .pinned], laidTests := true, laidLooks := .later }
def MathBackCardSaid : Prop := Claim7.holds Tryz.pinned (.plain (OpenSpec.ofChange mathBackSpec)) mathBackCard

/-- THE TIED CARD OF 'klaxonlaw11.MathValues'. -/
def mathValuesCard : Claim7 := { stood := { row := mathValuesRow, standIns := [], harness := (true, "08b122d2bf374064c7aac1b16d452358476b773a4757c5f710ffb27b7ff365df"), looks := true }, kinds := [], alts := [], laidByText := true, laidKinds := [.data, .data, .data, .data, .sentinel, .sentinel, .data, .pinned], laidTests := true, laidLooks := .later }
def MathValuesCardSaid : Prop := Claim7.holds Tryz.pinned (.plain (OpenSpec.ofChange mathValuesSpec)) mathValuesCard

/-- THE SECOND FORM's CARD OF 'klaxonlaw11.MathParses'. -/
def mathParsesUptoCard : Claim7 := { stood := { row := mathParsesUptoRow, standIns := [], harness := (true, "08b122d2bf374064c7aac1b16d452358476b773a4757c5f710ffb27b7ff365df"), looks := true }, kinds := [], alts := [], laidByText := true, laidKinds := [.data, .data, .data, .data, .sentinel, .sentinel, .data, .pinned], laidTests := true, laidLooks := .later }
def MathParsesUptoCardSaid : Prop := Claim7.holds Tryz.pinned (.plain (OpenSpec.upto mathParsesSpec)) mathParsesUptoCard

/-- THE SECOND FORM's CARD OF 'klaxonlaw11.MathEvals'. -/
def mathEvalsUptoCard : Claim7 := { stood := { row := mathEvalsUptoRow, standIns := [], harness := (true, "08b122d2bf374064c7aac1b16d452358476b773a4757c5f710ffb27b7ff365df"), looks := true }, kinds := [], alts := [], laidByText := true, laidKinds := [.data, .data, .data, .data, .sentinel, .sentinel, .data, .pinned], laidTests := true, laidLooks := .later }
def MathEvalsUptoCardSaid : Prop := Claim7.holds Tryz.pinned (.plain (OpenSpec.upto mathEvalsSpec)) mathEvalsUptoCard

/-- THE SECOND FORM's CARD OF 'klaxonlaw11.MathBack'. -/
def mathBackUptoCard : Claim7 := { stood := { row := mathBackUptoRow, standIns := [], harness := (true, "08b122d2bf374064c7aac1b16d452358476b773a4757c5f710ffb27b7ff365df"), looks := true }, kinds := [], alts := [], laidByText := true, laidKinds := [.data, .data, .data, .data, .sentinel, .sentinel, .data, .pinned], laidTests := true, laidLooks := .later }
def MathBackUptoCardSaid : Prop := Claim7.holds Tryz.pinned (.plain (OpenSpec.upto mathBackSpec)) mathBackUptoCard

/-- THE SECOND FORM's CARD OF 'klaxonlaw11.MathValues'. -/
def mathValuesUptoCard : Claim7 := { stood := { row := mathValuesUptoRow, standIns := [], harness := (true, "08b122d2bf374064c7aac1b16d452358476b773a4757c5f710ffb27b7ff365df"), looks := true }, kinds := [], alts := [], laidByText := true, laidKinds := [.data, .data, .data, .data, .sentinel, .sentinel, .data, .pinned], laidTests := true, laidLooks := .later }
def MathValuesUptoCardSaid : Prop := Claim7.holds Tryz.pinned (.plain (OpenSpec.upto mathValuesSpec)) mathValuesUptoCard
end Rows
end Go.Proofs.YtdhlfpgibfaimaaGreatDoor
