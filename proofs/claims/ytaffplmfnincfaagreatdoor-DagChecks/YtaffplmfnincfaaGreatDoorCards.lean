/-
  DERIVED. GIVEN WITH THE SEED: THE CARDS: each row of YtaffplmfnincfaaGreatDoorRows.lean that lists a variable, with what it lists TIED to the program's text (the seventh form; the later family's looks); each row that meets fmt, with fmt's text TOLD by the authors' own Lean function (tested against real Go, not proved from fmt's source: count such statements apart). THE CARD IS WHAT COUNTS. Prove the row's statement (the work); the ties are given (YtaffplmfnincfaaGreatDoorTie.lean); close each card by the builder's one call (the guide's Derived/Test/ToyasCard.lean, 'card_holds'). Laid BY PROGRAM, IN A SANDBOX (cutbox-door.mjs). By AI agents, Wed Nov 11 2026. No macro, syntax, notation, axiom, sorry.
-/
import Derived.Test.YtaffplmfnincfaaGreatDoorRows
import GoSem.ClaimSeven
namespace Go.Proofs.YtaffplmfnincfaaGreatDoor
namespace Rows

/-- THE TIED CARD OF 'klaxonlaw12.DagChecks'. -/
def dagChecksCard : Claim7 := { stood := { row := dagChecksRow, standIns := [], harness := (true, "f7cd80319188b4bedd58e84e9f5c03742ded8616b483da235e08b63c1081b6b5"), looks := true }, kinds := [], alts := [], laidByText := true, laidKinds := [.data, .data, .data, .data, .sentinel, .sentinel, .data, .pinned], laidTests := true, laidLooks := .later }
def DagChecksCardSaid : Prop := Claim7.holds Tryz.pinned (.plain (OpenSpec.ofChange dagChecksSpec)) dagChecksCard

/-- THE TIED CARD OF 'klaxonlaw12.DagAhead'. -/
def dagAheadCard : Claim7 := { stood := { row := dagAheadRow, standIns := [], harness := (true, "f7cd80319188b4bedd58e84e9f5c03742ded8616b483da235e08b63c1081b6b5"), looks := true }, kinds := [], alts := [], laidByText := true, laidKinds := [.data, .data, .data, .data, .sentinel, .sentinel, .data, .pinned], laidTests := true, laidLooks := .later }
def DagAheadCardSaid : Prop := Claim7.holds Tryz.pinned (.plain (OpenSpec.ofChange dagAheadSpec)) dagAheadCard

/-- THE TIED CARD OF 'klaxonlaw12.DagNeeds'. -/
def dagNeedsCard : Claim7 := { stood := { row := dagNeedsRow, standIns := [], harness := (true, "f7cd80319188b4bedd58e84e9f5c03742ded8616b483da235e08b63c1081b6b5"), looks := true }, kinds := [], alts := [], laidByText := true, laidKinds := [.data, .data, .data, .data, .sentinel, .sentinel, .data, .pinned], laidTests := true, laidLooks := .later }
def DagNeedsCardSaid : Prop := Claim7.holds Tryz.pinned (.plain (OpenSpec.ofChange dagNeedsSpec)) dagNeedsCard

/-- THE TIED CARD OF 'klaxonlaw12.DagCircle'. -/
def dagCircleCard : Claim7 := { stood := { row := dagCircleRow, standIns := [], harness := (true, "f7cd80319188b4bedd58e84e9f5c03742ded8616b483da235e08b63c1081b6b5"), looks := true }, kinds := [], alts := [], laidByText := true, laidKinds := [.data, .data, .data, .data, .sentinel, .sentinel, .data, .pinned], laidTests := true, laidLooks := .later }
def DagCircleCardSaid : Prop := Claim7.holds Tryz.pinned (.plain (OpenSpec.ofChange dagCircleSpec)) dagCircleCard

/-- THE SECOND FORM's CARD OF 'klaxonlaw12.DagChecks'. -/
def dagChecksUptoCard : Claim7 := { stood := { row := dagChecksUptoRow, standIns := [], harness := (true, "f7cd80319188b4bedd58e84e9f5c03742ded8616b483da235e08b63c1081b6b5"), looks := true }, kinds := [], alts := [], laidByText := true, laidKinds := [.data, .data, .data, .data, .sentinel, .sentinel, .data, .pinned], laidTests := true, laidLooks := .later }
def DagChecksUptoCardSaid : Prop := Claim7.holds Tryz.pinned (.plain (OpenSpec.upto dagChecksSpec)) dagChecksUptoCard

/-- THE SECOND FORM's CARD OF 'klaxonlaw12.DagAhead'. -/
def dagAheadUptoCard : Claim7 := { stood := { row := dagAheadUptoRow, standIns := [], harness := (true, "f7cd80319188b4bedd58e84e9f5c03742ded8616b483da235e08b63c1081b6b5"), looks := true }, kinds := [], alts := [], laidByText := true, laidKinds := [.data, .data, .data, .data, .sentinel, .sentinel, .data, .pinned], laidTests := true, laidLooks := .later }
def DagAheadUptoCardSaid : Prop := Claim7.holds Tryz.pinned (.plain (OpenSpec.upto dagAheadSpec)) dagAheadUptoCard

/-- THE SECOND FORM's CARD OF 'klaxonlaw12.DagNeeds'. -/
def dagNeedsUptoCard : Claim7 := { stood := { row := dagNeedsUptoRow, standIns := [], harness := (true, "f7cd80319188b4bedd58e84e9f5c03742ded8616b483da235e08b63c1081b6b5"), looks := true }, kinds := [], alts := [], laidByText := true, laidKinds := [.data, .data, .data, .data, .sentinel, .sentinel, .data, .pinned], laidTests := true, laidLooks := .later }
def DagNeedsUptoCardSaid : Prop := Claim7.holds Tryz.pinned (.plain (OpenSpec.upto dagNeedsSpec)) dagNeedsUptoCard

/-- THE SECOND FORM's CARD OF 'klaxonlaw12.DagCircle'. -/
def dagCircleUptoCard : Claim7 := { stood := { row := dagCircleUptoRow, standIns := [], harness := (true, "f7cd80319188b4bedd58e84e9f5c03742ded8616b483da235e08b63c1081b6b5"), looks := true }, kinds := [], alts := [], laidByText := true, laidKinds := [.data, .data, .data, .data, .sentinel, .sentinel, .data, .pinned], laidTests := true, laidLooks := .later }
def DagCircleUptoCardSaid : Prop := Claim7.holds Tryz.pinned (.plain (OpenSpec.upto dagCircleSpec)) dagCircleUptoCard
end Rows
end Go.Proofs.YtaffplmfnincfaaGreatDoor
