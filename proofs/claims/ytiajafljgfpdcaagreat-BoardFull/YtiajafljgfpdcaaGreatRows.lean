/-
  No cell of these rows narrows 'for every input' (looked for: loops, veiled, ifaces, maps, wideKeys, modest, calm, conditions, laid).
  DERIVED. THE GIVEN ROWS OF THIS SEAT. 6 by the template 'for every input the law returns true; each argument reads behind the call as it read before'; 0 by the template 'total and deterministic' (their statements: YtiajafljgfpdcaaGreatTotals.lean).
  GIVEN WITH THE SEED: the statements are not yours to turn. If you find one false, say at which input.
  Laid BY PROGRAM, IN A SANDBOX (cutbox-rows.mjs): the forced cells as the released guide's own fill.sh prints them over the translation 667eb3999ccf152b… (all of the seat's roots in one cut). By AI agents, Wed Nov 11 2026. No macro, syntax, notation, axiom, sorry.
-/
import Derived.Test.YtiajafljgfpdcaaGreatChecked
import GoSem.Claim
import GoSem.ClaimJoined
import GoSem.ClaimMapViews
import Derived.JoinedTies
import Derived.KernelRfl
namespace Go.Proofs.YtiajafljgfpdcaaGreat
/- THE CELL 'sum', in the pinned program and in every row, IS THE sha256 OF THE DUMP (.gsa) THAT YtiajafljgfpdcaaGreatProg.lean LOADS. Nothing in Lean hashes anything: it is a label: what it is worth is what the hold of that sum in a sandbox is worth. -/
noncomputable def Tryz.pinned : Pinned := { name := "ytiajafljgfpdcaagreat", sum := "667eb3999ccf152b0e8c5e6918db416f2cd464c2e31aa0a4cf4fd6d32aed5981", checked := Tryz.checked }
namespace Rows
def none {H : Type} : Left H := { results := [], args := [] }

/-- 'klaxonlaw18.BoardPlays': WHATEVER THE INPUT: true; the input reads as it did. -/
def boardPlaysSpec : ChangeSpec := { name := "boardPlays", fn := fun _ => fun
  | [d1, d2, d3, d4] => { results := [.lit (.bool true)], args := [d1, d2, d3, d4] }
  | _ => none }
def boardPlaysRow : OpenClaim := { program := "ytiajafljgfpdcaagreat", sum := "667eb3999ccf152b0e8c5e6918db416f2cd464c2e31aa0a4cf4fd6d32aed5981", func := "klaxon/klaxonlaw18.BoardPlays", spec := "boardPlays", inPlace := ["internal/bytealg.abigen_runtime_cmpstring"], unfollowed := true, recurses := true, apart := false }
def BoardPlaysSaid : Prop := boardPlaysRow.holds Tryz.pinned (OpenSpec.ofChange boardPlaysSpec)

/-- ITS FALSE NEIGHBOUR: 'it returns false'. Refute it at one input. -/
def boardPlaysWrong : ChangeSpec := { name := "boardPlays", fn := fun _ => fun
  | [d1, d2, d3, d4] => { results := [.lit (.bool false)], args := [d1, d2, d3, d4] }
  | _ => none }
def BoardPlaysWrongFalsely : Prop := boardPlaysRow.holds Tryz.pinned (OpenSpec.ofChange boardPlaysWrong)

/-- 'klaxonlaw18.BoardBytes': WHATEVER THE INPUT: true; the input reads as it did. -/
def boardBytesSpec : ChangeSpec := { name := "boardBytes", fn := fun _ => fun
  | [d1, d2] => { results := [.lit (.bool true)], args := [d1, d2] }
  | _ => none }
def boardBytesRow : OpenClaim := { program := "ytiajafljgfpdcaagreat", sum := "667eb3999ccf152b0e8c5e6918db416f2cd464c2e31aa0a4cf4fd6d32aed5981", func := "klaxon/klaxonlaw18.BoardBytes", spec := "boardBytes", inPlace := ["internal/bytealg.abigen_runtime_cmpstring"], unfollowed := true, recurses := true, apart := false }
def BoardBytesSaid : Prop := boardBytesRow.holds Tryz.pinned (OpenSpec.ofChange boardBytesSpec)

/-- ITS FALSE NEIGHBOUR: 'it returns false'. Refute it at one input. -/
def boardBytesWrong : ChangeSpec := { name := "boardBytes", fn := fun _ => fun
  | [d1, d2] => { results := [.lit (.bool false)], args := [d1, d2] }
  | _ => none }
def BoardBytesWrongFalsely : Prop := boardBytesRow.holds Tryz.pinned (OpenSpec.ofChange boardBytesWrong)

/-- 'klaxonlaw18.BoardRight': WHATEVER THE INPUT: true; the input reads as it did. -/
def boardRightSpec : ChangeSpec := { name := "boardRight", fn := fun _ => fun
  | [d1, d2, d3, d4] => { results := [.lit (.bool true)], args := [d1, d2, d3, d4] }
  | _ => none }
def boardRightRow : OpenClaim := { program := "ytiajafljgfpdcaagreat", sum := "667eb3999ccf152b0e8c5e6918db416f2cd464c2e31aa0a4cf4fd6d32aed5981", func := "klaxon/klaxonlaw18.BoardRight", spec := "boardRight", inPlace := ["internal/bytealg.abigen_runtime_cmpstring"], unfollowed := true, recurses := true, apart := false }
def BoardRightSaid : Prop := boardRightRow.holds Tryz.pinned (OpenSpec.ofChange boardRightSpec)

/-- ITS FALSE NEIGHBOUR: 'it returns false'. Refute it at one input. -/
def boardRightWrong : ChangeSpec := { name := "boardRight", fn := fun _ => fun
  | [d1, d2, d3, d4] => { results := [.lit (.bool false)], args := [d1, d2, d3, d4] }
  | _ => none }
def BoardRightWrongFalsely : Prop := boardRightRow.holds Tryz.pinned (OpenSpec.ofChange boardRightWrong)

/-- 'klaxonlaw18.BoardFull': WHATEVER THE INPUT: true; the input reads as it did. -/
def boardFullSpec : ChangeSpec := { name := "boardFull", fn := fun _ => fun
  | [d1, d2] => { results := [.lit (.bool true)], args := [d1, d2] }
  | _ => none }
def boardFullRow : OpenClaim := { program := "ytiajafljgfpdcaagreat", sum := "667eb3999ccf152b0e8c5e6918db416f2cd464c2e31aa0a4cf4fd6d32aed5981", func := "klaxon/klaxonlaw18.BoardFull", spec := "boardFull", inPlace := ["internal/bytealg.abigen_runtime_cmpstring"], unfollowed := true, recurses := true, apart := false }
def BoardFullSaid : Prop := boardFullRow.holds Tryz.pinned (OpenSpec.ofChange boardFullSpec)

/-- ITS FALSE NEIGHBOUR: 'it returns false'. Refute it at one input. -/
def boardFullWrong : ChangeSpec := { name := "boardFull", fn := fun _ => fun
  | [d1, d2] => { results := [.lit (.bool false)], args := [d1, d2] }
  | _ => none }
def BoardFullWrongFalsely : Prop := boardFullRow.holds Tryz.pinned (OpenSpec.ofChange boardFullWrong)

/-- 'klaxonlaw18.BoardOrder': WHATEVER THE INPUT: true; the input reads as it did. -/
def boardOrderSpec : ChangeSpec := { name := "boardOrder", fn := fun _ => fun
  | [d1, d2, d3, d4] => { results := [.lit (.bool true)], args := [d1, d2, d3, d4] }
  | _ => none }
def boardOrderRow : OpenClaim := { program := "ytiajafljgfpdcaagreat", sum := "667eb3999ccf152b0e8c5e6918db416f2cd464c2e31aa0a4cf4fd6d32aed5981", func := "klaxon/klaxonlaw18.BoardOrder", spec := "boardOrder", inPlace := ["internal/bytealg.abigen_runtime_cmpstring"], unfollowed := true, recurses := true, apart := false }
def BoardOrderSaid : Prop := boardOrderRow.holds Tryz.pinned (OpenSpec.ofChange boardOrderSpec)

/-- ITS FALSE NEIGHBOUR: 'it returns false'. Refute it at one input. -/
def boardOrderWrong : ChangeSpec := { name := "boardOrder", fn := fun _ => fun
  | [d1, d2, d3, d4] => { results := [.lit (.bool false)], args := [d1, d2, d3, d4] }
  | _ => none }
def BoardOrderWrongFalsely : Prop := boardOrderRow.holds Tryz.pinned (OpenSpec.ofChange boardOrderWrong)

/-- 'klaxonlaw18.BoardStale': WHATEVER THE INPUT: true; the input reads as it did. -/
def boardStaleSpec : ChangeSpec := { name := "boardStale", fn := fun _ => fun
  | [d1, d2, d3] => { results := [.lit (.bool true)], args := [d1, d2, d3] }
  | _ => none }
def boardStaleRow : OpenClaim := { program := "ytiajafljgfpdcaagreat", sum := "667eb3999ccf152b0e8c5e6918db416f2cd464c2e31aa0a4cf4fd6d32aed5981", func := "klaxon/klaxonlaw18.BoardStale", spec := "boardStale", inPlace := ["internal/bytealg.abigen_runtime_cmpstring"], unfollowed := true, recurses := true, apart := false }
def BoardStaleSaid : Prop := boardStaleRow.holds Tryz.pinned (OpenSpec.ofChange boardStaleSpec)

/-- ITS FALSE NEIGHBOUR: 'it returns false'. Refute it at one input. -/
def boardStaleWrong : ChangeSpec := { name := "boardStale", fn := fun _ => fun
  | [d1, d2, d3] => { results := [.lit (.bool false)], args := [d1, d2, d3] }
  | _ => none }
def BoardStaleWrongFalsely : Prop := boardStaleRow.holds Tryz.pinned (OpenSpec.ofChange boardStaleWrong)

/- THE SECOND FORM. 'bulk': how many values and letters a reading holds, each counted each time it is reached (what is shared counts as often as it is met; a slice's spare places count too). A statement '..UptoSaid' is the law's where the arguments, and the package variables that the reading takes, are together of bulk at most 1048576: NARROWER than '..Said'. Prove '..Said' where nothing that the law and all that it calls make is longer than what came in: it says more and counts as full. Else prove '..UptoSaid'. A law counts once. -/
mutual
def uptoBulk {H : Type} : DataW H → Nat
  | .lit (.string bytes) => bytes.length + 1
  | .lit _ => 1
  | .nil => 1
  | .ptr d => uptoBulk d + 1
  | .slice elems spare => uptoBulkAll elems + uptoBulkAll spare + 1
  | .agg parts => uptoBulkAll parts + 1
  | .iface _ d => uptoBulk d + 1
  | .map entries => uptoBulkEntries entries + 1
  | .held _ => 1
def uptoBulkAll {H : Type} : List (DataW H) → Nat
  | [] => 0
  | d :: r => uptoBulk d + uptoBulkAll r
def uptoBulkEntries {H : Type} : List (Lit × DataW H) → Nat
  | [] => 0
  | x :: r => uptoBulkEntry x + uptoBulkEntries r
def uptoBulkEntry {H : Type} : Lit × DataW H → Nat
  | (.string bytes, d) => bytes.length + uptoBulk d + 1
  | (_, d) => uptoBulk d + 1
 end
def uptoSmall : (H : Type) → List (DataW H) → Bool := fun _ ds => decide (uptoBulkAll ds ≤ 1048576)
def OpenSpec.upto (s : _root_.Go.ChangeSpec) : _root_.Go.OpenSpec := { _root_.Go.OpenSpec.ofChange s with cond := some uptoSmall }

/-- 'klaxonlaw18.BoardPlays', WHERE WHAT IT READS IS OF BULK AT MOST 1048576: true; the input reads as it did. -/
def boardPlaysUptoRow : OpenClaim := { program := "ytiajafljgfpdcaagreat", sum := "667eb3999ccf152b0e8c5e6918db416f2cd464c2e31aa0a4cf4fd6d32aed5981", func := "klaxon/klaxonlaw18.BoardPlays", spec := "boardPlays", inPlace := ["internal/bytealg.abigen_runtime_cmpstring"], unfollowed := true, recurses := true, apart := false, narrowed := true }
def BoardPlaysUptoSaid : Prop := boardPlaysUptoRow.holds Tryz.pinned (OpenSpec.upto boardPlaysSpec)

/-- 'klaxonlaw18.BoardBytes', WHERE WHAT IT READS IS OF BULK AT MOST 1048576: true; the input reads as it did. -/
def boardBytesUptoRow : OpenClaim := { program := "ytiajafljgfpdcaagreat", sum := "667eb3999ccf152b0e8c5e6918db416f2cd464c2e31aa0a4cf4fd6d32aed5981", func := "klaxon/klaxonlaw18.BoardBytes", spec := "boardBytes", inPlace := ["internal/bytealg.abigen_runtime_cmpstring"], unfollowed := true, recurses := true, apart := false, narrowed := true }
def BoardBytesUptoSaid : Prop := boardBytesUptoRow.holds Tryz.pinned (OpenSpec.upto boardBytesSpec)

/-- 'klaxonlaw18.BoardRight', WHERE WHAT IT READS IS OF BULK AT MOST 1048576: true; the input reads as it did. -/
def boardRightUptoRow : OpenClaim := { program := "ytiajafljgfpdcaagreat", sum := "667eb3999ccf152b0e8c5e6918db416f2cd464c2e31aa0a4cf4fd6d32aed5981", func := "klaxon/klaxonlaw18.BoardRight", spec := "boardRight", inPlace := ["internal/bytealg.abigen_runtime_cmpstring"], unfollowed := true, recurses := true, apart := false, narrowed := true }
def BoardRightUptoSaid : Prop := boardRightUptoRow.holds Tryz.pinned (OpenSpec.upto boardRightSpec)

/-- 'klaxonlaw18.BoardFull', WHERE WHAT IT READS IS OF BULK AT MOST 1048576: true; the input reads as it did. -/
def boardFullUptoRow : OpenClaim := { program := "ytiajafljgfpdcaagreat", sum := "667eb3999ccf152b0e8c5e6918db416f2cd464c2e31aa0a4cf4fd6d32aed5981", func := "klaxon/klaxonlaw18.BoardFull", spec := "boardFull", inPlace := ["internal/bytealg.abigen_runtime_cmpstring"], unfollowed := true, recurses := true, apart := false, narrowed := true }
def BoardFullUptoSaid : Prop := boardFullUptoRow.holds Tryz.pinned (OpenSpec.upto boardFullSpec)

/-- 'klaxonlaw18.BoardOrder', WHERE WHAT IT READS IS OF BULK AT MOST 1048576: true; the input reads as it did. -/
def boardOrderUptoRow : OpenClaim := { program := "ytiajafljgfpdcaagreat", sum := "667eb3999ccf152b0e8c5e6918db416f2cd464c2e31aa0a4cf4fd6d32aed5981", func := "klaxon/klaxonlaw18.BoardOrder", spec := "boardOrder", inPlace := ["internal/bytealg.abigen_runtime_cmpstring"], unfollowed := true, recurses := true, apart := false, narrowed := true }
def BoardOrderUptoSaid : Prop := boardOrderUptoRow.holds Tryz.pinned (OpenSpec.upto boardOrderSpec)

/-- 'klaxonlaw18.BoardStale', WHERE WHAT IT READS IS OF BULK AT MOST 1048576: true; the input reads as it did. -/
def boardStaleUptoRow : OpenClaim := { program := "ytiajafljgfpdcaagreat", sum := "667eb3999ccf152b0e8c5e6918db416f2cd464c2e31aa0a4cf4fd6d32aed5981", func := "klaxon/klaxonlaw18.BoardStale", spec := "boardStale", inPlace := ["internal/bytealg.abigen_runtime_cmpstring"], unfollowed := true, recurses := true, apart := false, narrowed := true }
def BoardStaleUptoSaid : Prop := boardStaleUptoRow.holds Tryz.pinned (OpenSpec.upto boardStaleSpec)

end Rows
end Go.Proofs.YtiajafljgfpdcaaGreat
