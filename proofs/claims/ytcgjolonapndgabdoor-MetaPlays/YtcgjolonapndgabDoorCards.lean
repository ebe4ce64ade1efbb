/-
  DERIVED. GIVEN WITH THE SEED: THE CARDS: each row of YtcgjolonapndgabDoorRows.lean that lists a variable, with what it lists TIED to the program's text (the seventh form; the later family's looks); each row that meets fmt, with fmt's text TOLD by the authors' own Lean function (tested against real Go, not proved from fmt's source: count such statements apart). THE CARD IS WHAT COUNTS. Prove the row's statement (the work); the ties are given (YtcgjolonapndgabDoorTie.lean); close each card by the builder's one call (the guide's Derived/Test/ToyasCard.lean, 'card_holds'). Laid BY PROGRAM, IN A SANDBOX (cutbox-door.mjs). By AI agents, Wed Nov 11 2026. No macro, syntax, notation, axiom, sorry.
-/
import Derived.Test.YtcgjolonapndgabDoorRows
import GoSem.ClaimSeven
namespace Go.Proofs.YtcgjolonapndgabDoor
namespace Rows

/-- THE TIED CARD OF 'klaxonlaw04.MetaBytes'. -/
def metaBytesCard : Claim7 := { stood := { row := metaBytesRow, standIns := [], harness := (true, "95dc7a7c040b1451739586a7f6944ef4aae404b000e64647a562c9b24fc2bce7"), looks := false }, kinds := [], alts := [], laidByText := true, laidKinds := [.data, .pinned], laidTests := true, laidLooks := .later }
def MetaBytesCardSaid : Prop := Claim7.holds Tryd.pinned (.plain (OpenSpec.ofChange metaBytesSpec)) metaBytesCard

/-- THE TIED CARD OF 'klaxonlaw04.MetaPlays'. -/
def metaPlaysCard : Claim7 := { stood := { row := metaPlaysRow, standIns := [], harness := (true, "95dc7a7c040b1451739586a7f6944ef4aae404b000e64647a562c9b24fc2bce7"), looks := false }, kinds := [], alts := [], laidByText := true, laidKinds := [.data, .pinned], laidTests := true, laidLooks := .later }
def MetaPlaysCardSaid : Prop := Claim7.holds Tryd.pinned (.plain (OpenSpec.ofChange metaPlaysSpec)) metaPlaysCard

/-- THE TIED CARD OF 'klaxonlaw04.MetaTorn'. -/
def metaTornCard : Claim7 := { stood := { row := metaTornRow, standIns := [], harness := (true, "95dc7a7c040b1451739586a7f6944ef4aae404b000e64647a562c9b24fc2bce7"), looks := false }, kinds := [], alts := [], laidByText := true, laidKinds := [.data, .pinned], laidTests := true, laidLooks := .later }
def MetaTornCardSaid : Prop := Claim7.holds Tryd.pinned (.plain (OpenSpec.ofChange metaTornSpec)) metaTornCard

/-- THE TIED CARD OF 'klaxonlaw04.MetaSwitches'. -/
def metaSwitchesCard : Claim7 := { stood := { row := metaSwitchesRow, standIns := [], harness := (true, "95dc7a7c040b1451739586a7f6944ef4aae404b000e64647a562c9b24fc2bce7"), looks := false }, kinds := [], alts := [], laidByText := true, laidKinds := [.data, .pinned], laidTests := true, laidLooks := .later }
def MetaSwitchesCardSaid : Prop := Claim7.holds Tryd.pinned (.plain (OpenSpec.ofChange metaSwitchesSpec)) metaSwitchesCard

/-- THE TIED CARD OF 'klaxonlaw04.MetaNil'. -/
def metaNilCard : Claim7 := { stood := { row := metaNilRow, standIns := [], harness := (true, "95dc7a7c040b1451739586a7f6944ef4aae404b000e64647a562c9b24fc2bce7"), looks := false }, kinds := [], alts := [], laidByText := true, laidKinds := [.data, .pinned], laidTests := true, laidLooks := .later }
def MetaNilCardSaid : Prop := Claim7.holds Tryd.pinned (.plain (OpenSpec.ofChange metaNilSpec)) metaNilCard

/-- THE TIED CARD OF 'klaxonlaw04.MetaBack'. -/
def metaBackCard : Claim7 := { stood := { row := metaBackRow, standIns := [], harness := (true, "95dc7a7c040b1451739586a7f6944ef4aae404b000e64647a562c9b24fc2bce7"), looks := false }, kinds := [], alts := [], laidByText := true, laidKinds := [.data, .pinned], laidTests := true, laidLooks := .later }
def MetaBackCardSaid : Prop := Claim7.holds Tryd.pinned (.plain (OpenSpec.ofChange metaBackSpec)) metaBackCard

/-- THE SECOND FORM's CARD OF 'klaxonlaw04.MetaBytes'. -/
def metaBytesUptoCard : Claim7 := { stood := { row := metaBytesUptoRow, standIns := [], harness := (true, "95dc7a7c040b1451739586a7f6944ef4aae404b000e64647a562c9b24fc2bce7"), looks := false }, kinds := [], alts := [], laidByText := true, laidKinds := [.data, .pinned], laidTests := true, laidLooks := .later }
def MetaBytesUptoCardSaid : Prop := Claim7.holds Tryd.pinned (.plain (OpenSpec.upto metaBytesSpec)) metaBytesUptoCard

/-- THE SECOND FORM's CARD OF 'klaxonlaw04.MetaPlays'. -/
def metaPlaysUptoCard : Claim7 := { stood := { row := metaPlaysUptoRow, standIns := [], harness := (true, "95dc7a7c040b1451739586a7f6944ef4aae404b000e64647a562c9b24fc2bce7"), looks := false }, kinds := [], alts := [], laidByText := true, laidKinds := [.data, .pinned], laidTests := true, laidLooks := .later }
def MetaPlaysUptoCardSaid : Prop := Claim7.holds Tryd.pinned (.plain (OpenSpec.upto metaPlaysSpec)) metaPlaysUptoCard

/-- THE SECOND FORM's CARD OF 'klaxonlaw04.MetaTorn'. -/
def metaTornUptoCard : Claim7 := { stood := { row := metaTornUptoRow, standIns := [], harness := (true, "95dc7a7c040b1451739586a7f6944ef4aae404b000e64647a562c9b24fc2bce7"), looks := false }, kinds := [], alts := [], laidByText := true, laidKinds := [.data, .pinned], laidTests := true, laidLooks := .later }
def MetaTornUptoCardSaid : Prop := Claim7.holds Tryd.pinned (.plain (OpenSpec.upto metaTornSpec)) metaTornUptoCard

/-- THE SECOND FORM's CARD OF 'klaxonlaw04.MetaSwitches'. -/
def metaSwitchesUptoCard : Claim7 := { stood := { row := metaSwitchesUptoRow, standIns := [], harness := (true, "95dc7a7c040b1451739586a7f6944ef4aae404b000e64647a562c9b24fc2bce7"), looks := false }, kinds := [], alts := [], laidByText := true, laidKinds := [.data, .pinned], laidTests := true, laidLooks := .later }
def MetaSwitchesUptoCardSaid : Prop := Claim7.holds Tryd.pinned (.plain (OpenSpec.upto metaSwitchesSpec)) metaSwitchesUptoCard

/-- THE SECOND FORM's CARD OF 'klaxonlaw04.MetaNil'. -/
def metaNilUptoCard : Claim7 := { stood := { row := metaNilUptoRow, standIns := [], harness := (true, "95dc7a7c040b1451739586a7f6944ef4aae404b000e64647a562c9b24fc2bce7"), looks := false }, kinds := [], alts := [], laidByText := true, laidKinds := [.data, .pinned], laidTests := true, laidLooks := .later }
def MetaNilUptoCardSaid : Prop := Claim7.holds Tryd.pinned (.plain (OpenSpec.upto metaNilSpec)) metaNilUptoCard

/-- THE SECOND FORM's CARD OF 'klaxonlaw04.MetaBack'. -/
def metaBackUptoCard : Claim7 := { stood := { row := metaBackUptoRow, standIns := [], harness := (true, "95dc7a7c040b1451739586a7f6944ef4aae404b000e64647a562c9b24fc2bce7"), looks := false }, kinds := [], alts := [], laidByText := true, laidKinds := [.data, .pinned], laidTests := true, laidLooks := .later }
def MetaBackUptoCardSaid : Prop := Claim7.holds Tryd.pinned (.plain (OpenSpec.upto metaBackSpec)) metaBackUptoCard
end Rows
end Go.Proofs.YtcgjolonapndgabDoor
