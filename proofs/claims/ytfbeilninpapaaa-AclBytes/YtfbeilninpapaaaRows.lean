/-
  No cell of these rows narrows 'for every input' (looked for: loops, veiled, ifaces, maps, wideKeys, modest, calm, conditions, laid).
  DERIVED. THE GIVEN ROWS OF THIS SEAT. 4 by the template 'for every input the law returns true; each argument reads behind the call as it read before'; 0 by the template 'total and deterministic' (their statements: YtfbeilninpapaaaTotals.lean).
  GIVEN WITH THE SEED: the statements are not yours to turn. If you find one false, say at which input.
  Laid BY PROGRAM, IN A SANDBOX (cutbox-rows.mjs): the forced cells as the released guide's own fill.sh prints them over the translation e1420c70c41ae08d… (all of the seat's roots in one cut). By AI agents, Wed Nov 11 2026. No macro, syntax, notation, axiom, sorry.
-/
import Derived.Test.YtfbeilninpapaaaChecked
import GoSem.Claim
import GoSem.ClaimJoined
import GoSem.ClaimMapViews
import Derived.JoinedTies
import Derived.KernelRfl
namespace Go.Proofs.Ytfbeilninpapaaa
/- THE CELL 'sum', in the pinned program and in every row, IS THE sha256 OF THE DUMP (.gsa) THAT YtfbeilninpapaaaProg.lean LOADS. Nothing in Lean hashes anything: it is a label: what it is worth is what the hold of that sum in a sandbox is worth. -/
noncomputable def Try.pinned : Pinned := { name := "ytfbeilninpapaaa", sum := "e1420c70c41ae08d930e0d30dc2043f95aef3675ec1cc50197250c35b2af5ec2", checked := Try.checked }
namespace Rows
def none {H : Type} : Left H := { results := [], args := [] }

/-- 'klaxonlaw15.AclLevels': WHATEVER THE INPUT: true; the input reads as it did. -/
def aclLevelsSpec : ChangeSpec := { name := "aclLevels", fn := fun _ => fun
  | [d1, d2, d3] => { results := [.lit (.bool true)], args := [d1, d2, d3] }
  | _ => none }
def aclLevelsRow : OpenClaim := { program := "ytfbeilninpapaaa", sum := "e1420c70c41ae08d930e0d30dc2043f95aef3675ec1cc50197250c35b2af5ec2", func := "klaxon/klaxonlaw15.AclLevels", spec := "aclLevels", apart := false }
def AclLevelsSaid : Prop := aclLevelsRow.holds Try.pinned (OpenSpec.ofChange aclLevelsSpec)

/-- ITS FALSE NEIGHBOUR: 'it returns false'. Refute it at one input. -/
def aclLevelsWrong : ChangeSpec := { name := "aclLevels", fn := fun _ => fun
  | [d1, d2, d3] => { results := [.lit (.bool false)], args := [d1, d2, d3] }
  | _ => none }
def AclLevelsWrongFalsely : Prop := aclLevelsRow.holds Try.pinned (OpenSpec.ofChange aclLevelsWrong)

/-- 'klaxonlaw15.AclBytes': WHATEVER THE INPUT: true; the input reads as it did. -/
def aclBytesSpec : ChangeSpec := { name := "aclBytes", fn := fun _ => fun
  | [d1, d2] => { results := [.lit (.bool true)], args := [d1, d2] }
  | _ => none }
def aclBytesRow : OpenClaim := { program := "ytfbeilninpapaaa", sum := "e1420c70c41ae08d930e0d30dc2043f95aef3675ec1cc50197250c35b2af5ec2", func := "klaxon/klaxonlaw15.AclBytes", spec := "aclBytes", unfollowed := true, recurses := true, apart := false }
def AclBytesSaid : Prop := aclBytesRow.holds Try.pinned (OpenSpec.ofChange aclBytesSpec)

/-- ITS FALSE NEIGHBOUR: 'it returns false'. Refute it at one input. -/
def aclBytesWrong : ChangeSpec := { name := "aclBytes", fn := fun _ => fun
  | [d1, d2] => { results := [.lit (.bool false)], args := [d1, d2] }
  | _ => none }
def AclBytesWrongFalsely : Prop := aclBytesRow.holds Try.pinned (OpenSpec.ofChange aclBytesWrong)

/-- 'klaxonlaw15.AclMore': WHATEVER THE INPUT: true; the input reads as it did. -/
def aclMoreSpec : ChangeSpec := { name := "aclMore", fn := fun _ => fun
  | [d1, d2, d3, d4] => { results := [.lit (.bool true)], args := [d1, d2, d3, d4] }
  | _ => none }
def aclMoreRow : OpenClaim := { program := "ytfbeilninpapaaa", sum := "e1420c70c41ae08d930e0d30dc2043f95aef3675ec1cc50197250c35b2af5ec2", func := "klaxon/klaxonlaw15.AclMore", spec := "aclMore", apart := false }
def AclMoreSaid : Prop := aclMoreRow.holds Try.pinned (OpenSpec.ofChange aclMoreSpec)

/-- ITS FALSE NEIGHBOUR: 'it returns false'. Refute it at one input. -/
def aclMoreWrong : ChangeSpec := { name := "aclMore", fn := fun _ => fun
  | [d1, d2, d3, d4] => { results := [.lit (.bool false)], args := [d1, d2, d3, d4] }
  | _ => none }
def AclMoreWrongFalsely : Prop := aclMoreRow.holds Try.pinned (OpenSpec.ofChange aclMoreWrong)

/-- 'klaxonlaw15.AclOwn': WHATEVER THE INPUT: true; the input reads as it did. -/
def aclOwnSpec : ChangeSpec := { name := "aclOwn", fn := fun _ => fun
  | [d1, d2] => { results := [.lit (.bool true)], args := [d1, d2] }
  | _ => none }
def aclOwnRow : OpenClaim := { program := "ytfbeilninpapaaa", sum := "e1420c70c41ae08d930e0d30dc2043f95aef3675ec1cc50197250c35b2af5ec2", func := "klaxon/klaxonlaw15.AclOwn", spec := "aclOwn", apart := false }
def AclOwnSaid : Prop := aclOwnRow.holds Try.pinned (OpenSpec.ofChange aclOwnSpec)

/-- ITS FALSE NEIGHBOUR: 'it returns false'. Refute it at one input. -/
def aclOwnWrong : ChangeSpec := { name := "aclOwn", fn := fun _ => fun
  | [d1, d2] => { results := [.lit (.bool false)], args := [d1, d2] }
  | _ => none }
def AclOwnWrongFalsely : Prop := aclOwnRow.holds Try.pinned (OpenSpec.ofChange aclOwnWrong)

/- THE SECOND FORM. 'bulk': how many values and letters a reading holds, each counted each time it is reached (what is shared counts as often as it is met; a slice's spare places count too). A statement '..UptoSaid' is the law's where the arguments, and the package variables that the reading takes, are together of bulk at most 1048576: NARROWER than '..Said'. Prove '..Said' where nothing that the law and all that it calls make is longer than what came in: it says more and counts as full. Else prove '..UptoSaid'. A law counts once. -/
mutual
def uptoBulk {H : Type} : DataW H → Nat
  | .lit (.string bytes) => bytes.length + 1
  | .lit _ => 1
  | .nil => 1
  | .ptr d => uptoBulk d + 1
  | .slice elems spare => uptoBulkAll elems + uptoBulkAll spare + 1
  | .agg parts => uptoBulkAll parts + 1
  | .iface _ d => uptoBulk d + 1
  | .map entries => uptoBulkEntries entries + 1
  | .held _ => 1
def uptoBulkAll {H : Type} : List (DataW H) → Nat
  | [] => 0
  | d :: r => uptoBulk d + uptoBulkAll r
def uptoBulkEntries {H : Type} : List (Lit × DataW H) → Nat
  | [] => 0
  | x :: r => uptoBulkEntry x + uptoBulkEntries r
def uptoBulkEntry {H : Type} : Lit × DataW H → Nat
  | (.string bytes, d) => bytes.length + uptoBulk d + 1
  | (_, d) => uptoBulk d + 1
 end
def uptoSmall : (H : Type) → List (DataW H) → Bool := fun _ ds => decide (uptoBulkAll ds ≤ 1048576)
def OpenSpec.upto (s : _root_.Go.ChangeSpec) : _root_.Go.OpenSpec := { _root_.Go.OpenSpec.ofChange s with cond := some uptoSmall }

/-- 'klaxonlaw15.AclLevels', WHERE WHAT IT READS IS OF BULK AT MOST 1048576: true; the input reads as it did. -/
def aclLevelsUptoRow : OpenClaim := { program := "ytfbeilninpapaaa", sum := "e1420c70c41ae08d930e0d30dc2043f95aef3675ec1cc50197250c35b2af5ec2", func := "klaxon/klaxonlaw15.AclLevels", spec := "aclLevels", apart := false, narrowed := true }
def AclLevelsUptoSaid : Prop := aclLevelsUptoRow.holds Try.pinned (OpenSpec.upto aclLevelsSpec)

/-- 'klaxonlaw15.AclBytes', WHERE WHAT IT READS IS OF BULK AT MOST 1048576: true; the input reads as it did. -/
def aclBytesUptoRow : OpenClaim := { program := "ytfbeilninpapaaa", sum := "e1420c70c41ae08d930e0d30dc2043f95aef3675ec1cc50197250c35b2af5ec2", func := "klaxon/klaxonlaw15.AclBytes", spec := "aclBytes", unfollowed := true, recurses := true, apart := false, narrowed := true }
def AclBytesUptoSaid : Prop := aclBytesUptoRow.holds Try.pinned (OpenSpec.upto aclBytesSpec)

/-- 'klaxonlaw15.AclMore', WHERE WHAT IT READS IS OF BULK AT MOST 1048576: true; the input reads as it did. -/
def aclMoreUptoRow : OpenClaim := { program := "ytfbeilninpapaaa", sum := "e1420c70c41ae08d930e0d30dc2043f95aef3675ec1cc50197250c35b2af5ec2", func := "klaxon/klaxonlaw15.AclMore", spec := "aclMore", apart := false, narrowed := true }
def AclMoreUptoSaid : Prop := aclMoreUptoRow.holds Try.pinned (OpenSpec.upto aclMoreSpec)

/-- 'klaxonlaw15.AclOwn', WHERE WHAT IT READS IS OF BULK AT MOST 1048576: true; the input reads as it did. -/
def aclOwnUptoRow : OpenClaim := { program := "ytfbeilninpapaaa", sum := "e1420c70c41ae08d930e0d30dc2043f95aef3675ec1cc50197250c35b2af5ec2", func := "klaxon/klaxonlaw15.AclOwn", spec := "aclOwn", apart := false, narrowed := true }
def AclOwnUptoSaid : Prop := aclOwnUptoRow.holds Try.pinned (OpenSpec.upto aclOwnSpec)

end Rows
end Go.Proofs.Ytfbeilninpapaaa
