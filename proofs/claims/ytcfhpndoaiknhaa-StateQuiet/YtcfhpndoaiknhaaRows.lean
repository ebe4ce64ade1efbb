/-
  No cell of these rows narrows 'for every input' (looked for: loops, veiled, ifaces, maps, wideKeys, modest, calm, conditions, laid).
  DERIVED. THE GIVEN ROWS OF THIS SEAT. 5 by the template 'for every input the law returns true; each argument reads behind the call as it read before'; 0 by the template 'total and deterministic' (their statements: YtcfhpndoaiknhaaTotals.lean).
  GIVEN WITH THE SEED: the statements are not yours to turn. If you find one false, say at which input.
  Laid BY PROGRAM, IN A SANDBOX (cutbox-rows.mjs): the forced cells as the released guide's own fill.sh prints them over the translation 13de289bd0732456… (all of the seat's roots in one cut). By AI agents, Wed Nov 11 2026. No macro, syntax, notation, axiom, sorry.
-/
import Derived.Test.YtcfhpndoaiknhaaChecked
import GoSem.Claim
import GoSem.ClaimJoined
import GoSem.ClaimMapViews
import Derived.JoinedTies
import Derived.KernelRfl
namespace Go.Proofs.Ytcfhpndoaiknhaa
/- THE CELL 'sum', in the pinned program and in every row, IS THE sha256 OF THE DUMP (.gsa) THAT YtcfhpndoaiknhaaProg.lean LOADS. Nothing in Lean hashes anything: it is a label: what it is worth is what the hold of that sum in a sandbox is worth. -/
noncomputable def Try.pinned : Pinned := { name := "ytcfhpndoaiknhaa", sum := "13de289bd07324567483157bbe6eaa4e39256cddd03d3dac162fc37c88eee03b", checked := Try.checked }
namespace Rows
def none {H : Type} : Left H := { results := [], args := [] }

/-- 'klaxonlaw17.StateSteps': WHATEVER THE INPUT: true; the input reads as it did. -/
def stateStepsSpec : ChangeSpec := { name := "stateSteps", fn := fun _ => fun
  | [d1, d2, d3, d4] => { results := [.lit (.bool true)], args := [d1, d2, d3, d4] }
  | _ => none }
def stateStepsRow : OpenClaim := { program := "ytcfhpndoaiknhaa", sum := "13de289bd07324567483157bbe6eaa4e39256cddd03d3dac162fc37c88eee03b", func := "klaxon/klaxonlaw17.StateSteps", spec := "stateSteps", unfollowed := true, recurses := true, apart := false }
def StateStepsSaid : Prop := stateStepsRow.holds Try.pinned (OpenSpec.ofChange stateStepsSpec)

/-- ITS FALSE NEIGHBOUR: 'it returns false'. Refute it at one input. -/
def stateStepsWrong : ChangeSpec := { name := "stateSteps", fn := fun _ => fun
  | [d1, d2, d3, d4] => { results := [.lit (.bool false)], args := [d1, d2, d3, d4] }
  | _ => none }
def StateStepsWrongFalsely : Prop := stateStepsRow.holds Try.pinned (OpenSpec.ofChange stateStepsWrong)

/-- 'klaxonlaw17.StateHold': WHATEVER THE INPUT: true; the input reads as it did. -/
def stateHoldSpec : ChangeSpec := { name := "stateHold", fn := fun _ => fun
  | [d1, d2, d3, d4] => { results := [.lit (.bool true)], args := [d1, d2, d3, d4] }
  | _ => none }
def stateHoldRow : OpenClaim := { program := "ytcfhpndoaiknhaa", sum := "13de289bd07324567483157bbe6eaa4e39256cddd03d3dac162fc37c88eee03b", func := "klaxon/klaxonlaw17.StateHold", spec := "stateHold", unfollowed := true, recurses := true, apart := false }
def StateHoldSaid : Prop := stateHoldRow.holds Try.pinned (OpenSpec.ofChange stateHoldSpec)

/-- ITS FALSE NEIGHBOUR: 'it returns false'. Refute it at one input. -/
def stateHoldWrong : ChangeSpec := { name := "stateHold", fn := fun _ => fun
  | [d1, d2, d3, d4] => { results := [.lit (.bool false)], args := [d1, d2, d3, d4] }
  | _ => none }
def StateHoldWrongFalsely : Prop := stateHoldRow.holds Try.pinned (OpenSpec.ofChange stateHoldWrong)

/-- 'klaxonlaw17.StateRight': WHATEVER THE INPUT: true; the input reads as it did. -/
def stateRightSpec : ChangeSpec := { name := "stateRight", fn := fun _ => fun
  | [d1, d2, d3] => { results := [.lit (.bool true)], args := [d1, d2, d3] }
  | _ => none }
def stateRightRow : OpenClaim := { program := "ytcfhpndoaiknhaa", sum := "13de289bd07324567483157bbe6eaa4e39256cddd03d3dac162fc37c88eee03b", func := "klaxon/klaxonlaw17.StateRight", spec := "stateRight", unfollowed := true, recurses := true, apart := false }
def StateRightSaid : Prop := stateRightRow.holds Try.pinned (OpenSpec.ofChange stateRightSpec)

/-- ITS FALSE NEIGHBOUR: 'it returns false'. Refute it at one input. -/
def stateRightWrong : ChangeSpec := { name := "stateRight", fn := fun _ => fun
  | [d1, d2, d3] => { results := [.lit (.bool false)], args := [d1, d2, d3] }
  | _ => none }
def StateRightWrongFalsely : Prop := stateRightRow.holds Try.pinned (OpenSpec.ofChange stateRightWrong)

/-- 'klaxonlaw17.StateQuiet': WHATEVER THE INPUT: true; the input reads as it did. -/
def stateQuietSpec : ChangeSpec := { name := "stateQuiet", fn := fun _ => fun
  | [d1, d2, d3, d4] => { results := [.lit (.bool true)], args := [d1, d2, d3, d4] }
  | _ => none }
def stateQuietRow : OpenClaim := { program := "ytcfhpndoaiknhaa", sum := "13de289bd07324567483157bbe6eaa4e39256cddd03d3dac162fc37c88eee03b", func := "klaxon/klaxonlaw17.StateQuiet", spec := "stateQuiet", unfollowed := true, recurses := true, apart := false }
def StateQuietSaid : Prop := stateQuietRow.holds Try.pinned (OpenSpec.ofChange stateQuietSpec)

/-- ITS FALSE NEIGHBOUR: 'it returns false'. Refute it at one input. -/
def stateQuietWrong : ChangeSpec := { name := "stateQuiet", fn := fun _ => fun
  | [d1, d2, d3, d4] => { results := [.lit (.bool false)], args := [d1, d2, d3, d4] }
  | _ => none }
def StateQuietWrongFalsely : Prop := stateQuietRow.holds Try.pinned (OpenSpec.ofChange stateQuietWrong)

/-- 'klaxonlaw17.StatePolicies': WHATEVER THE INPUT: true; the input reads as it did. -/
def statePoliciesSpec : ChangeSpec := { name := "statePolicies", fn := fun _ => fun
  | [d1, d2, d3, d4] => { results := [.lit (.bool true)], args := [d1, d2, d3, d4] }
  | _ => none }
def statePoliciesRow : OpenClaim := { program := "ytcfhpndoaiknhaa", sum := "13de289bd07324567483157bbe6eaa4e39256cddd03d3dac162fc37c88eee03b", func := "klaxon/klaxonlaw17.StatePolicies", spec := "statePolicies", unfollowed := true, recurses := true, apart := false }
def StatePoliciesSaid : Prop := statePoliciesRow.holds Try.pinned (OpenSpec.ofChange statePoliciesSpec)

/-- ITS FALSE NEIGHBOUR: 'it returns false'. Refute it at one input. -/
def statePoliciesWrong : ChangeSpec := { name := "statePolicies", fn := fun _ => fun
  | [d1, d2, d3, d4] => { results := [.lit (.bool false)], args := [d1, d2, d3, d4] }
  | _ => none }
def StatePoliciesWrongFalsely : Prop := statePoliciesRow.holds Try.pinned (OpenSpec.ofChange statePoliciesWrong)

/- THE SECOND FORM. 'bulk': how many values and letters a reading holds, each counted each time it is reached (what is shared counts as often as it is met; a slice's spare places count too). A statement '..UptoSaid' is the law's where the arguments, and the package variables that the reading takes, are together of bulk at most 1048576: NARROWER than '..Said'. Prove '..Said' where nothing that the law and all that it calls make is longer than what came in: it says more and counts as full. Else prove '..UptoSaid'. A law counts once. -/
mutual
def uptoBulk {H : Type} : DataW H → Nat
  | .lit (.string bytes) => bytes.length + 1
  | .lit _ => 1
  | .nil => 1
  | .ptr d => uptoBulk d + 1
  | .slice elems spare => uptoBulkAll elems + uptoBulkAll spare + 1
  | .agg parts => uptoBulkAll parts + 1
  | .iface _ d => uptoBulk d + 1
  | .map entries => uptoBulkEntries entries + 1
  | .held _ => 1
def uptoBulkAll {H : Type} : List (DataW H) → Nat
  | [] => 0
  | d :: r => uptoBulk d + uptoBulkAll r
def uptoBulkEntries {H : Type} : List (Lit × DataW H) → Nat
  | [] => 0
  | x :: r => uptoBulkEntry x + uptoBulkEntries r
def uptoBulkEntry {H : Type} : Lit × DataW H → Nat
  | (.string bytes, d) => bytes.length + uptoBulk d + 1
  | (_, d) => uptoBulk d + 1
 end
def uptoSmall : (H : Type) → List (DataW H) → Bool := fun _ ds => decide (uptoBulkAll ds ≤ 1048576)
def OpenSpec.upto (s : _root_.Go.ChangeSpec) : _root_.Go.OpenSpec := { _root_.Go.OpenSpec.ofChange s with cond := some uptoSmall }

/-- 'klaxonlaw17.StateSteps', WHERE WHAT IT READS IS OF BULK AT MOST 1048576: true; the input reads as it did. -/
def stateStepsUptoRow : OpenClaim := { program := "ytcfhpndoaiknhaa", sum := "13de289bd07324567483157bbe6eaa4e39256cddd03d3dac162fc37c88eee03b", func := "klaxon/klaxonlaw17.StateSteps", spec := "stateSteps", unfollowed := true, recurses := true, apart := false, narrowed := true }
def StateStepsUptoSaid : Prop := stateStepsUptoRow.holds Try.pinned (OpenSpec.upto stateStepsSpec)

/-- 'klaxonlaw17.StateHold', WHERE WHAT IT READS IS OF BULK AT MOST 1048576: true; the input reads as it did. -/
def stateHoldUptoRow : OpenClaim := { program := "ytcfhpndoaiknhaa", sum := "13de289bd07324567483157bbe6eaa4e39256cddd03d3dac162fc37c88eee03b", func := "klaxon/klaxonlaw17.StateHold", spec := "stateHold", unfollowed := true, recurses := true, apart := false, narrowed := true }
def StateHoldUptoSaid : Prop := stateHoldUptoRow.holds Try.pinned (OpenSpec.upto stateHoldSpec)

/-- 'klaxonlaw17.StateRight', WHERE WHAT IT READS IS OF BULK AT MOST 1048576: true; the input reads as it did. -/
def stateRightUptoRow : OpenClaim := { program := "ytcfhpndoaiknhaa", sum := "13de289bd07324567483157bbe6eaa4e39256cddd03d3dac162fc37c88eee03b", func := "klaxon/klaxonlaw17.StateRight", spec := "stateRight", unfollowed := true, recurses := true, apart := false, narrowed := true }
def StateRightUptoSaid : Prop := stateRightUptoRow.holds Try.pinned (OpenSpec.upto stateRightSpec)

/-- 'klaxonlaw17.StateQuiet', WHERE WHAT IT READS IS OF BULK AT MOST 1048576: true; the input reads as it did. -/
def stateQuietUptoRow : OpenClaim := { program := "ytcfhpndoaiknhaa", sum := "13de289bd07324567483157bbe6eaa4e39256cddd03d3dac162fc37c88eee03b", func := "klaxon/klaxonlaw17.StateQuiet", spec := "stateQuiet", unfollowed := true, recurses := true, apart := false, narrowed := true }
def StateQuietUptoSaid : Prop := stateQuietUptoRow.holds Try.pinned (OpenSpec.upto stateQuietSpec)

/-- 'klaxonlaw17.StatePolicies', WHERE WHAT IT READS IS OF BULK AT MOST 1048576: true; the input reads as it did. -/
def statePoliciesUptoRow : OpenClaim := { program := "ytcfhpndoaiknhaa", sum := "13de289bd07324567483157bbe6eaa4e39256cddd03d3dac162fc37c88eee03b", func := "klaxon/klaxonlaw17.StatePolicies", spec := "statePolicies", unfollowed := true, recurses := true, apart := false, narrowed := true }
def StatePoliciesUptoSaid : Prop := statePoliciesUptoRow.holds Try.pinned (OpenSpec.upto statePoliciesSpec)

end Rows
end Go.Proofs.Ytcfhpndoaiknhaa
