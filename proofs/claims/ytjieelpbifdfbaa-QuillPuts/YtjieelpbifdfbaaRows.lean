/-
  No cell of these rows narrows 'for every input' (looked for: loops, veiled, ifaces, maps, wideKeys, modest, calm, conditions, laid).
  DERIVED. THE GIVEN ROWS OF THIS SEAT. 6 by the template 'for every input the law returns true; each argument reads behind the call as it read before'; 0 by the template 'total and deterministic' (their statements: YtjieelpbifdfbaaTotals.lean).
  GIVEN WITH THE SEED: the statements are not yours to turn. If you find one false, say at which input.
  Laid BY PROGRAM, IN A SANDBOX (cutbox-rows.mjs): the forced cells as the released guide's own fill.sh prints them over the translation b50f615e59e50b87… (all of the seat's roots in one cut). By AI agents, Wed Nov 11 2026. No macro, syntax, notation, axiom, sorry.
-/
import Derived.Test.YtjieelpbifdfbaaChecked
import GoSem.Claim
import GoSem.ClaimJoined
import GoSem.ClaimMapViews
import Derived.JoinedTies
import Derived.KernelRfl
namespace Go.Proofs.Ytjieelpbifdfbaa
/- THE CELL 'sum', in the pinned program and in every row, IS THE sha256 OF THE DUMP (.gsa) THAT YtjieelpbifdfbaaProg.lean LOADS. Nothing in Lean hashes anything: it is a label: what it is worth is what the hold of that sum in a sandbox is worth. -/
noncomputable def Try.pinned : Pinned := { name := "ytjieelpbifdfbaa", sum := "b50f615e59e50b87c73573588dc658d75a82209ecce7e54b4cbda73064ab3fcc", checked := Try.checked }
namespace Rows
def none {H : Type} : Left H := { results := [], args := [] }

/-- 'klaxonlaw01.QuillPuts': WHATEVER THE INPUT: true; the input reads as it did. -/
def quillPutsSpec : ChangeSpec := { name := "quillPuts", fn := fun _ => fun
  | [d1, d2, d3, d4] => { results := [.lit (.bool true)], args := [d1, d2, d3, d4] }
  | _ => none }
def quillPutsRow : OpenClaim := { program := "ytjieelpbifdfbaa", sum := "b50f615e59e50b87c73573588dc658d75a82209ecce7e54b4cbda73064ab3fcc", func := "klaxon/klaxonlaw01.QuillPuts", spec := "quillPuts", unfollowed := true, recurses := true, apart := false }
def QuillPutsSaid : Prop := quillPutsRow.holds Try.pinned (OpenSpec.ofChange quillPutsSpec)

/-- ITS FALSE NEIGHBOUR: 'it returns false'. Refute it at one input. -/
def quillPutsWrong : ChangeSpec := { name := "quillPuts", fn := fun _ => fun
  | [d1, d2, d3, d4] => { results := [.lit (.bool false)], args := [d1, d2, d3, d4] }
  | _ => none }
def QuillPutsWrongFalsely : Prop := quillPutsRow.holds Try.pinned (OpenSpec.ofChange quillPutsWrong)

/-- 'klaxonlaw01.QuillReads': WHATEVER THE INPUT: true; the input reads as it did. -/
def quillReadsSpec : ChangeSpec := { name := "quillReads", fn := fun _ => fun
  | [d1, d2] => { results := [.lit (.bool true)], args := [d1, d2] }
  | _ => none }
def quillReadsRow : OpenClaim := { program := "ytjieelpbifdfbaa", sum := "b50f615e59e50b87c73573588dc658d75a82209ecce7e54b4cbda73064ab3fcc", func := "klaxon/klaxonlaw01.QuillReads", spec := "quillReads", unfollowed := true, recurses := true, apart := false }
def QuillReadsSaid : Prop := quillReadsRow.holds Try.pinned (OpenSpec.ofChange quillReadsSpec)

/-- ITS FALSE NEIGHBOUR: 'it returns false'. Refute it at one input. -/
def quillReadsWrong : ChangeSpec := { name := "quillReads", fn := fun _ => fun
  | [d1, d2] => { results := [.lit (.bool false)], args := [d1, d2] }
  | _ => none }
def QuillReadsWrongFalsely : Prop := quillReadsRow.holds Try.pinned (OpenSpec.ofChange quillReadsWrong)

/-- 'klaxonlaw01.QuillBack': WHATEVER THE INPUT: true; the input reads as it did. -/
def quillBackSpec : ChangeSpec := { name := "quillBack", fn := fun _ => fun
  | [d1, d2, d3] => { results := [.lit (.bool true)], args := [d1, d2, d3] }
  | _ => none }
def quillBackRow : OpenClaim := { program := "ytjieelpbifdfbaa", sum := "b50f615e59e50b87c73573588dc658d75a82209ecce7e54b4cbda73064ab3fcc", func := "klaxon/klaxonlaw01.QuillBack", spec := "quillBack", unfollowed := true, recurses := true, apart := false }
def QuillBackSaid : Prop := quillBackRow.holds Try.pinned (OpenSpec.ofChange quillBackSpec)

/-- ITS FALSE NEIGHBOUR: 'it returns false'. Refute it at one input. -/
def quillBackWrong : ChangeSpec := { name := "quillBack", fn := fun _ => fun
  | [d1, d2, d3] => { results := [.lit (.bool false)], args := [d1, d2, d3] }
  | _ => none }
def QuillBackWrongFalsely : Prop := quillBackRow.holds Try.pinned (OpenSpec.ofChange quillBackWrong)

/-- 'klaxonlaw01.QuillLeast': WHATEVER THE INPUT: true; the input reads as it did. -/
def quillLeastSpec : ChangeSpec := { name := "quillLeast", fn := fun _ => fun
  | [d1, d2, d3] => { results := [.lit (.bool true)], args := [d1, d2, d3] }
  | _ => none }
def quillLeastRow : OpenClaim := { program := "ytjieelpbifdfbaa", sum := "b50f615e59e50b87c73573588dc658d75a82209ecce7e54b4cbda73064ab3fcc", func := "klaxon/klaxonlaw01.QuillLeast", spec := "quillLeast", unfollowed := true, recurses := true, apart := false }
def QuillLeastSaid : Prop := quillLeastRow.holds Try.pinned (OpenSpec.ofChange quillLeastSpec)

/-- ITS FALSE NEIGHBOUR: 'it returns false'. Refute it at one input. -/
def quillLeastWrong : ChangeSpec := { name := "quillLeast", fn := fun _ => fun
  | [d1, d2, d3] => { results := [.lit (.bool false)], args := [d1, d2, d3] }
  | _ => none }
def QuillLeastWrongFalsely : Prop := quillLeastRow.holds Try.pinned (OpenSpec.ofChange quillLeastWrong)

/-- 'klaxonlaw01.QuillNil': WHATEVER THE INPUT: true; the input reads as it did. -/
def quillNilSpec : ChangeSpec := { name := "quillNil", fn := fun _ => fun
  | [d] => { results := [.lit (.bool true)], args := [d] }
  | _ => none }
def quillNilRow : OpenClaim := { program := "ytjieelpbifdfbaa", sum := "b50f615e59e50b87c73573588dc658d75a82209ecce7e54b4cbda73064ab3fcc", func := "klaxon/klaxonlaw01.QuillNil", spec := "quillNil", unfollowed := true, recurses := true, apart := false }
def QuillNilSaid : Prop := quillNilRow.holds Try.pinned (OpenSpec.ofChange quillNilSpec)

/-- ITS FALSE NEIGHBOUR: 'it returns false'. Refute it at one input. -/
def quillNilWrong : ChangeSpec := { name := "quillNil", fn := fun _ => fun
  | [d] => { results := [.lit (.bool false)], args := [d] }
  | _ => none }
def QuillNilWrongFalsely : Prop := quillNilRow.holds Try.pinned (OpenSpec.ofChange quillNilWrong)

/-- 'klaxonlaw01.QuillParts': WHATEVER THE INPUT: true; the input reads as it did. -/
def quillPartsSpec : ChangeSpec := { name := "quillParts", fn := fun _ => fun
  | [d1, d2, d3, d4] => { results := [.lit (.bool true)], args := [d1, d2, d3, d4] }
  | _ => none }
def quillPartsRow : OpenClaim := { program := "ytjieelpbifdfbaa", sum := "b50f615e59e50b87c73573588dc658d75a82209ecce7e54b4cbda73064ab3fcc", func := "klaxon/klaxonlaw01.QuillParts", spec := "quillParts", unfollowed := true, recurses := true, apart := false }
def QuillPartsSaid : Prop := quillPartsRow.holds Try.pinned (OpenSpec.ofChange quillPartsSpec)

/-- ITS FALSE NEIGHBOUR: 'it returns false'. Refute it at one input. -/
def quillPartsWrong : ChangeSpec := { name := "quillParts", fn := fun _ => fun
  | [d1, d2, d3, d4] => { results := [.lit (.bool false)], args := [d1, d2, d3, d4] }
  | _ => none }
def QuillPartsWrongFalsely : Prop := quillPartsRow.holds Try.pinned (OpenSpec.ofChange quillPartsWrong)

/- THE SECOND FORM. 'bulk': how many values and letters a reading holds, each counted each time it is reached (what is shared counts as often as it is met; a slice's spare places count too). A statement '..UptoSaid' is the law's where the arguments, and the package variables that the reading takes, are together of bulk at most 1048576: NARROWER than '..Said'. Prove '..Said' where nothing that the law and all that it calls make is longer than what came in: it says more and counts as full. Else prove '..UptoSaid'. A law counts once. -/
mutual
def uptoBulk {H : Type} : DataW H → Nat
  | .lit (.string bytes) => bytes.length + 1
  | .lit _ => 1
  | .nil => 1
  | .ptr d => uptoBulk d + 1
  | .slice elems spare => uptoBulkAll elems + uptoBulkAll spare + 1
  | .agg parts => uptoBulkAll parts + 1
  | .iface _ d => uptoBulk d + 1
  | .map entries => uptoBulkEntries entries + 1
  | .held _ => 1
def uptoBulkAll {H : Type} : List (DataW H) → Nat
  | [] => 0
  | d :: r => uptoBulk d + uptoBulkAll r
def uptoBulkEntries {H : Type} : List (Lit × DataW H) → Nat
  | [] => 0
  | x :: r => uptoBulkEntry x + uptoBulkEntries r
def uptoBulkEntry {H : Type} : Lit × DataW H → Nat
  | (.string bytes, d) => bytes.length + uptoBulk d + 1
  | (_, d) => uptoBulk d + 1
 end
def uptoSmall : (H : Type) → List (DataW H) → Bool := fun _ ds => decide (uptoBulkAll ds ≤ 1048576)
def OpenSpec.upto (s : _root_.Go.ChangeSpec) : _root_.Go.OpenSpec := { _root_.Go.OpenSpec.ofChange s with cond := some uptoSmall }

/-- 'klaxonlaw01.QuillPuts', WHERE WHAT IT READS IS OF BULK AT MOST 1048576: true; the input reads as it did. -/
def quillPutsUptoRow : OpenClaim := { program := "ytjieelpbifdfbaa", sum := "b50f615e59e50b87c73573588dc658d75a82209ecce7e54b4cbda73064ab3fcc", func := "klaxon/klaxonlaw01.QuillPuts", spec := "quillPuts", unfollowed := true, recurses := true, apart := false, narrowed := true }
def QuillPutsUptoSaid : Prop := quillPutsUptoRow.holds Try.pinned (OpenSpec.upto quillPutsSpec)

/-- 'klaxonlaw01.QuillReads', WHERE WHAT IT READS IS OF BULK AT MOST 1048576: true; the input reads as it did. -/
def quillReadsUptoRow : OpenClaim := { program := "ytjieelpbifdfbaa", sum := "b50f615e59e50b87c73573588dc658d75a82209ecce7e54b4cbda73064ab3fcc", func := "klaxon/klaxonlaw01.QuillReads", spec := "quillReads", unfollowed := true, recurses := true, apart := false, narrowed := true }
def QuillReadsUptoSaid : Prop := quillReadsUptoRow.holds Try.pinned (OpenSpec.upto quillReadsSpec)

/-- 'klaxonlaw01.QuillBack', WHERE WHAT IT READS IS OF BULK AT MOST 1048576: true; the input reads as it did. -/
def quillBackUptoRow : OpenClaim := { program := "ytjieelpbifdfbaa", sum := "b50f615e59e50b87c73573588dc658d75a82209ecce7e54b4cbda73064ab3fcc", func := "klaxon/klaxonlaw01.QuillBack", spec := "quillBack", unfollowed := true, recurses := true, apart := false, narrowed := true }
def QuillBackUptoSaid : Prop := quillBackUptoRow.holds Try.pinned (OpenSpec.upto quillBackSpec)

/-- 'klaxonlaw01.QuillLeast', WHERE WHAT IT READS IS OF BULK AT MOST 1048576: true; the input reads as it did. -/
def quillLeastUptoRow : OpenClaim := { program := "ytjieelpbifdfbaa", sum := "b50f615e59e50b87c73573588dc658d75a82209ecce7e54b4cbda73064ab3fcc", func := "klaxon/klaxonlaw01.QuillLeast", spec := "quillLeast", unfollowed := true, recurses := true, apart := false, narrowed := true }
def QuillLeastUptoSaid : Prop := quillLeastUptoRow.holds Try.pinned (OpenSpec.upto quillLeastSpec)

/-- 'klaxonlaw01.QuillNil', WHERE WHAT IT READS IS OF BULK AT MOST 1048576: true; the input reads as it did. -/
def quillNilUptoRow : OpenClaim := { program := "ytjieelpbifdfbaa", sum := "b50f615e59e50b87c73573588dc658d75a82209ecce7e54b4cbda73064ab3fcc", func := "klaxon/klaxonlaw01.QuillNil", spec := "quillNil", unfollowed := true, recurses := true, apart := false, narrowed := true }
def QuillNilUptoSaid : Prop := quillNilUptoRow.holds Try.pinned (OpenSpec.upto quillNilSpec)

/-- 'klaxonlaw01.QuillParts', WHERE WHAT IT READS IS OF BULK AT MOST 1048576: true; the input reads as it did. -/
def quillPartsUptoRow : OpenClaim := { program := "ytjieelpbifdfbaa", sum := "b50f615e59e50b87c73573588dc658d75a82209ecce7e54b4cbda73064ab3fcc", func := "klaxon/klaxonlaw01.QuillParts", spec := "quillParts", unfollowed := true, recurses := true, apart := false, narrowed := true }
def QuillPartsUptoSaid : Prop := quillPartsUptoRow.holds Try.pinned (OpenSpec.upto quillPartsSpec)

end Rows
end Go.Proofs.Ytjieelpbifdfbaa
