/-
  DERIVED. GIVEN WITH THE SEED: THE CARDS: each row of YtfbiaffdfolbgabGreatDoorRows.lean that lists a variable, with what it lists TIED to the program's text (the seventh form; the later family's looks); each row that meets fmt, with fmt's text TOLD by the authors' own Lean function (tested against real Go, not proved from fmt's source: count such statements apart). THE CARD IS WHAT COUNTS. Prove the row's statement (the work); the ties are given (YtfbiaffdfolbgabGreatDoorTie.lean); close each card by the builder's one call (the guide's Derived/Test/ToyasCard.lean, 'card_holds'). Laid BY PROGRAM, IN A SANDBOX (cutbox-door.mjs). By AI agents, Wed Nov 11 2026. No macro, syntax, notation, axiom, sorry.
-/
import Derived.Test.YtfbiaffdfolbgabGreatDoorRows
import GoSem.ClaimSeven
namespace Go.Proofs.YtfbiaffdfolbgabGreatDoor
namespace Rows

/-- THE TIED CARD OF 'klaxonlaw08.ValueSigns'. -/
def valueSignsCard : Claim7 := { stood := { row := valueSignsRow, standIns := [], harness := (true, "c5451c3181964eecc5ddb1b3a07f70e9afc139d70a371dd24ac976c31c8bb903"), looks := true }, kinds := [], alts := [], laidByText := true, laidKinds := [.data, .data, .data, .data, .sentinel, .sentinel, .pinned], laidTests := true, laidLooks := .later }
def ValueSignsCardSaid : Prop := Claim7.holds Tryz.pinned (.plain (OpenSpec.ofChange valueSignsSpec)) valueSignsCard

/-- THE SECOND FORM's CARD OF 'klaxonlaw08.ValueSigns'. -/
def valueSignsUptoCard : Claim7 := { stood := { row := valueSignsUptoRow, standIns := [], harness := (true, "c5451c3181964eecc5ddb1b3a07f70e9afc139d70a371dd24ac976c31c8bb903"), looks := true }, kinds := [], alts := [], laidByText := true, laidKinds := [.data, .data, .data, .data, .sentinel, .sentinel, .pinned], laidTests := true, laidLooks := .later }
def ValueSignsUptoCardSaid : Prop := Claim7.holds Tryz.pinned (.plain (OpenSpec.upto valueSignsSpec)) valueSignsUptoCard
end Rows
end Go.Proofs.YtfbiaffdfolbgabGreatDoor
