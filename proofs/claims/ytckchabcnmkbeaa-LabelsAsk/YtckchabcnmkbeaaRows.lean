/-
  No cell of these rows narrows 'for every input' (looked for: loops, veiled, ifaces, maps, wideKeys, modest, calm, conditions, laid).
  DERIVED. THE GIVEN ROWS OF THIS SEAT. 6 by the template 'for every input the law returns true; each argument reads behind the call as it read before'; 0 by the template 'total and deterministic' (their statements: YtckchabcnmkbeaaTotals.lean).
  GIVEN WITH THE SEED: the statements are not yours to turn. If you find one false, say at which input.
  Laid BY PROGRAM, IN A SANDBOX (cutbox-rows.mjs): the forced cells as the released guide's own fill.sh prints them over the translation a2d794e20fbebe95… (all of the seat's roots in one cut). By AI agents, Wed Nov 11 2026. No macro, syntax, notation, axiom, sorry.
-/
import Derived.Test.YtckchabcnmkbeaaChecked
import GoSem.Claim
import GoSem.ClaimJoined
import GoSem.ClaimMapViews
import Derived.JoinedTies
import Derived.KernelRfl
namespace Go.Proofs.Ytckchabcnmkbeaa
/- THE CELL 'sum', in the pinned program and in every row, IS THE sha256 OF THE DUMP (.gsa) THAT YtckchabcnmkbeaaProg.lean LOADS. Nothing in Lean hashes anything: it is a label: what it is worth is what the hold of that sum in a sandbox is worth. -/
noncomputable def Try.pinned : Pinned := { name := "ytckchabcnmkbeaa", sum := "a2d794e20fbebe957bbb415a767ba814b876285ab4b9f110b264664c8a975f61", checked := Try.checked }
namespace Rows
def none {H : Type} : Left H := { results := [], args := [] }

/-- 'klaxonlaw09.LabelsMake': WHATEVER THE INPUT: true; the input reads as it did. -/
def labelsMakeSpec : ChangeSpec := { name := "labelsMake", fn := fun _ => fun
  | [d] => { results := [.lit (.bool true)], args := [d] }
  | _ => none }
def labelsMakeRow : OpenClaim := { program := "ytckchabcnmkbeaa", sum := "a2d794e20fbebe957bbb415a767ba814b876285ab4b9f110b264664c8a975f61", func := "klaxon/klaxonlaw09.LabelsMake", spec := "labelsMake", inPlace := ["internal/bytealg.abigen_runtime_cmpstring"], unfollowed := true, recurses := true, apart := false }
def LabelsMakeSaid : Prop := labelsMakeRow.holds Try.pinned (OpenSpec.ofChange labelsMakeSpec)

/-- ITS FALSE NEIGHBOUR: 'it returns false'. Refute it at one input. -/
def labelsMakeWrong : ChangeSpec := { name := "labelsMake", fn := fun _ => fun
  | [d] => { results := [.lit (.bool false)], args := [d] }
  | _ => none }
def LabelsMakeWrongFalsely : Prop := labelsMakeRow.holds Try.pinned (OpenSpec.ofChange labelsMakeWrong)

/-- 'klaxonlaw09.LabelsParts': WHATEVER THE INPUT: true; the input reads as it did. -/
def labelsPartsSpec : ChangeSpec := { name := "labelsParts", fn := fun _ => fun
  | [d1, d2, d3] => { results := [.lit (.bool true)], args := [d1, d2, d3] }
  | _ => none }
def labelsPartsRow : OpenClaim := { program := "ytckchabcnmkbeaa", sum := "a2d794e20fbebe957bbb415a767ba814b876285ab4b9f110b264664c8a975f61", func := "klaxon/klaxonlaw09.LabelsParts", spec := "labelsParts", inPlace := ["internal/bytealg.abigen_runtime_cmpstring"], unfollowed := true, recurses := true, apart := false }
def LabelsPartsSaid : Prop := labelsPartsRow.holds Try.pinned (OpenSpec.ofChange labelsPartsSpec)

/-- ITS FALSE NEIGHBOUR: 'it returns false'. Refute it at one input. -/
def labelsPartsWrong : ChangeSpec := { name := "labelsParts", fn := fun _ => fun
  | [d1, d2, d3] => { results := [.lit (.bool false)], args := [d1, d2, d3] }
  | _ => none }
def LabelsPartsWrongFalsely : Prop := labelsPartsRow.holds Try.pinned (OpenSpec.ofChange labelsPartsWrong)

/-- 'klaxonlaw09.LabelsMatch': WHATEVER THE INPUT: true; the input reads as it did. -/
def labelsMatchSpec : ChangeSpec := { name := "labelsMatch", fn := fun _ => fun
  | [d1, d2] => { results := [.lit (.bool true)], args := [d1, d2] }
  | _ => none }
def labelsMatchRow : OpenClaim := { program := "ytckchabcnmkbeaa", sum := "a2d794e20fbebe957bbb415a767ba814b876285ab4b9f110b264664c8a975f61", func := "klaxon/klaxonlaw09.LabelsMatch", spec := "labelsMatch", inPlace := ["internal/bytealg.abigen_runtime_cmpstring"], unfollowed := true, recurses := true, apart := false }
def LabelsMatchSaid : Prop := labelsMatchRow.holds Try.pinned (OpenSpec.ofChange labelsMatchSpec)

/-- ITS FALSE NEIGHBOUR: 'it returns false'. Refute it at one input. -/
def labelsMatchWrong : ChangeSpec := { name := "labelsMatch", fn := fun _ => fun
  | [d1, d2] => { results := [.lit (.bool false)], args := [d1, d2] }
  | _ => none }
def LabelsMatchWrongFalsely : Prop := labelsMatchRow.holds Try.pinned (OpenSpec.ofChange labelsMatchWrong)

/-- 'klaxonlaw09.LabelsSets': WHATEVER THE INPUT: true; the input reads as it did. -/
def labelsSetsSpec : ChangeSpec := { name := "labelsSets", fn := fun _ => fun
  | [d1, d2, d3] => { results := [.lit (.bool true)], args := [d1, d2, d3] }
  | _ => none }
def labelsSetsRow : OpenClaim := { program := "ytckchabcnmkbeaa", sum := "a2d794e20fbebe957bbb415a767ba814b876285ab4b9f110b264664c8a975f61", func := "klaxon/klaxonlaw09.LabelsSets", spec := "labelsSets", inPlace := ["internal/bytealg.abigen_runtime_cmpstring"], unfollowed := true, recurses := true, apart := false }
def LabelsSetsSaid : Prop := labelsSetsRow.holds Try.pinned (OpenSpec.ofChange labelsSetsSpec)

/-- ITS FALSE NEIGHBOUR: 'it returns false'. Refute it at one input. -/
def labelsSetsWrong : ChangeSpec := { name := "labelsSets", fn := fun _ => fun
  | [d1, d2, d3] => { results := [.lit (.bool false)], args := [d1, d2, d3] }
  | _ => none }
def LabelsSetsWrongFalsely : Prop := labelsSetsRow.holds Try.pinned (OpenSpec.ofChange labelsSetsWrong)

/-- 'klaxonlaw09.LabelsJoined': WHATEVER THE INPUT: true; the input reads as it did. -/
def labelsJoinedSpec : ChangeSpec := { name := "labelsJoined", fn := fun _ => fun
  | [d1, d2, d3] => { results := [.lit (.bool true)], args := [d1, d2, d3] }
  | _ => none }
def labelsJoinedRow : OpenClaim := { program := "ytckchabcnmkbeaa", sum := "a2d794e20fbebe957bbb415a767ba814b876285ab4b9f110b264664c8a975f61", func := "klaxon/klaxonlaw09.LabelsJoined", spec := "labelsJoined", inPlace := ["internal/bytealg.abigen_runtime_cmpstring"], unfollowed := true, recurses := true, apart := false }
def LabelsJoinedSaid : Prop := labelsJoinedRow.holds Try.pinned (OpenSpec.ofChange labelsJoinedSpec)

/-- ITS FALSE NEIGHBOUR: 'it returns false'. Refute it at one input. -/
def labelsJoinedWrong : ChangeSpec := { name := "labelsJoined", fn := fun _ => fun
  | [d1, d2, d3] => { results := [.lit (.bool false)], args := [d1, d2, d3] }
  | _ => none }
def LabelsJoinedWrongFalsely : Prop := labelsJoinedRow.holds Try.pinned (OpenSpec.ofChange labelsJoinedWrong)

/-- 'klaxonlaw09.LabelsAsk': WHATEVER THE INPUT: true; the input reads as it did. -/
def labelsAskSpec : ChangeSpec := { name := "labelsAsk", fn := fun _ => fun
  | [d1, d2, d3] => { results := [.lit (.bool true)], args := [d1, d2, d3] }
  | _ => none }
def labelsAskRow : OpenClaim := { program := "ytckchabcnmkbeaa", sum := "a2d794e20fbebe957bbb415a767ba814b876285ab4b9f110b264664c8a975f61", func := "klaxon/klaxonlaw09.LabelsAsk", spec := "labelsAsk", inPlace := ["internal/bytealg.abigen_runtime_cmpstring"], unfollowed := true, recurses := true, apart := false }
def LabelsAskSaid : Prop := labelsAskRow.holds Try.pinned (OpenSpec.ofChange labelsAskSpec)

/-- ITS FALSE NEIGHBOUR: 'it returns false'. Refute it at one input. -/
def labelsAskWrong : ChangeSpec := { name := "labelsAsk", fn := fun _ => fun
  | [d1, d2, d3] => { results := [.lit (.bool false)], args := [d1, d2, d3] }
  | _ => none }
def LabelsAskWrongFalsely : Prop := labelsAskRow.holds Try.pinned (OpenSpec.ofChange labelsAskWrong)

/- THE SECOND FORM. 'bulk': how many values and letters a reading holds, each counted each time it is reached (what is shared counts as often as it is met; a slice's spare places count too). A statement '..UptoSaid' is the law's where the arguments, and the package variables that the reading takes, are together of bulk at most 1048576: NARROWER than '..Said'. Prove '..Said' where nothing that the law and all that it calls make is longer than what came in: it says more and counts as full. Else prove '..UptoSaid'. A law counts once. -/
mutual
def uptoBulk {H : Type} : DataW H → Nat
  | .lit (.string bytes) => bytes.length + 1
  | .lit _ => 1
  | .nil => 1
  | .ptr d => uptoBulk d + 1
  | .slice elems spare => uptoBulkAll elems + uptoBulkAll spare + 1
  | .agg parts => uptoBulkAll parts + 1
  | .iface _ d => uptoBulk d + 1
  | .map entries => uptoBulkEntries entries + 1
  | .held _ => 1
def uptoBulkAll {H : Type} : List (DataW H) → Nat
  | [] => 0
  | d :: r => uptoBulk d + uptoBulkAll r
def uptoBulkEntries {H : Type} : List (Lit × DataW H) → Nat
  | [] => 0
  | x :: r => uptoBulkEntry x + uptoBulkEntries r
def uptoBulkEntry {H : Type} : Lit × DataW H → Nat
  | (.string bytes, d) => bytes.length + uptoBulk d + 1
  | (_, d) => uptoBulk d + 1
 end
def uptoSmall : (H : Type) → List (DataW H) → Bool := fun _ ds => decide (uptoBulkAll ds ≤ 1048576)
def OpenSpec.upto (s : _root_.Go.ChangeSpec) : _root_.Go.OpenSpec := { _root_.Go.OpenSpec.ofChange s with cond := some uptoSmall }

/-- 'klaxonlaw09.LabelsMake', WHERE WHAT IT READS IS OF BULK AT MOST 1048576: true; the input reads as it did. -/
def labelsMakeUptoRow : OpenClaim := { program := "ytckchabcnmkbeaa", sum := "a2d794e20fbebe957bbb415a767ba814b876285ab4b9f110b264664c8a975f61", func := "klaxon/klaxonlaw09.LabelsMake", spec := "labelsMake", inPlace := ["internal/bytealg.abigen_runtime_cmpstring"], unfollowed := true, recurses := true, apart := false, narrowed := true }
def LabelsMakeUptoSaid : Prop := labelsMakeUptoRow.holds Try.pinned (OpenSpec.upto labelsMakeSpec)

/-- 'klaxonlaw09.LabelsParts', WHERE WHAT IT READS IS OF BULK AT MOST 1048576: true; the input reads as it did. -/
def labelsPartsUptoRow : OpenClaim := { program := "ytckchabcnmkbeaa", sum := "a2d794e20fbebe957bbb415a767ba814b876285ab4b9f110b264664c8a975f61", func := "klaxon/klaxonlaw09.LabelsParts", spec := "labelsParts", inPlace := ["internal/bytealg.abigen_runtime_cmpstring"], unfollowed := true, recurses := true, apart := false, narrowed := true }
def LabelsPartsUptoSaid : Prop := labelsPartsUptoRow.holds Try.pinned (OpenSpec.upto labelsPartsSpec)

/-- 'klaxonlaw09.LabelsMatch', WHERE WHAT IT READS IS OF BULK AT MOST 1048576: true; the input reads as it did. -/
def labelsMatchUptoRow : OpenClaim := { program := "ytckchabcnmkbeaa", sum := "a2d794e20fbebe957bbb415a767ba814b876285ab4b9f110b264664c8a975f61", func := "klaxon/klaxonlaw09.LabelsMatch", spec := "labelsMatch", inPlace := ["internal/bytealg.abigen_runtime_cmpstring"], unfollowed := true, recurses := true, apart := false, narrowed := true }
def LabelsMatchUptoSaid : Prop := labelsMatchUptoRow.holds Try.pinned (OpenSpec.upto labelsMatchSpec)

/-- 'klaxonlaw09.LabelsSets', WHERE WHAT IT READS IS OF BULK AT MOST 1048576: true; the input reads as it did. -/
def labelsSetsUptoRow : OpenClaim := { program := "ytckchabcnmkbeaa", sum := "a2d794e20fbebe957bbb415a767ba814b876285ab4b9f110b264664c8a975f61", func := "klaxon/klaxonlaw09.LabelsSets", spec := "labelsSets", inPlace := ["internal/bytealg.abigen_runtime_cmpstring"], unfollowed := true, recurses := true, apart := false, narrowed := true }
def LabelsSetsUptoSaid : Prop := labelsSetsUptoRow.holds Try.pinned (OpenSpec.upto labelsSetsSpec)

/-- 'klaxonlaw09.LabelsJoined', WHERE WHAT IT READS IS OF BULK AT MOST 1048576: true; the input reads as it did. -/
def labelsJoinedUptoRow : OpenClaim := { program := "ytckchabcnmkbeaa", sum := "a2d794e20fbebe957bbb415a767ba814b876285ab4b9f110b264664c8a975f61", func := "klaxon/klaxonlaw09.LabelsJoined", spec := "labelsJoined", inPlace := ["internal/bytealg.abigen_runtime_cmpstring"], unfollowed := true, recurses := true, apart := false, narrowed := true }
def LabelsJoinedUptoSaid : Prop := labelsJoinedUptoRow.holds Try.pinned (OpenSpec.upto labelsJoinedSpec)

/-- 'klaxonlaw09.LabelsAsk', WHERE WHAT IT READS IS OF BULK AT MOST 1048576: true; the input reads as it did. -/
def labelsAskUptoRow : OpenClaim := { program := "ytckchabcnmkbeaa", sum := "a2d794e20fbebe957bbb415a767ba814b876285ab4b9f110b264664c8a975f61", func := "klaxon/klaxonlaw09.LabelsAsk", spec := "labelsAsk", inPlace := ["internal/bytealg.abigen_runtime_cmpstring"], unfollowed := true, recurses := true, apart := false, narrowed := true }
def LabelsAskUptoSaid : Prop := labelsAskUptoRow.holds Try.pinned (OpenSpec.upto labelsAskSpec)

end Rows
end Go.Proofs.Ytckchabcnmkbeaa
