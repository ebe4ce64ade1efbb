/- Sg; Si. -/
import Derived.Test.YtdhlfpgibfaimaaGreatDoorSeSf
import Derived.Test.YtdhlfpgibfaimaaGreatDoorVa2
/- series.reduced. -/
namespace Go.Proofs.YtdhlfpgibfaimaaGreatDoor
set_option linter.unusedVariables false
open Go.RowKit
/-- What points come to. -/
def redV (how : ByteArray) (l : List Pn) : Vl :=
  if (how.toList == [99, 111, 117, 110, 116]) = true then num (1000 * l.length) else
  if l.length = 0 then nul else
  if (how.toList == [108, 97, 115, 116]) = true then (lastP l).v else
  if l.any unkB = true then nan else
  if (how.toList == [109, 105, 110]) = true then utV ⟨#[60]⟩ l else
  if (how.toList == [109, 97, 120]) = true then utV ⟨#[62]⟩ l else
  if (how.toList == [115, 117, 109]) = true then sumV l else
  doV ⟨#[47]⟩ [sumV l, num (1000 * l.length)]
/-- series.do of two values in a fresh row. -/
theorem sdo2a (op : ByteArray) (a b : Vl) (w : World) : Calls Tryz.prog 118 #[.string op, .slice (some ⟨w.heap.size, 0, none⟩) 2 2] (w.alloc (.cells #[.int .i64 a.kind, .int .i64 a.n, .int .i64 b.kind, .int .i64 b.n] 24)) fun e w' => e = .returned (.agg #[.int .i64 (doV op [a, b]).kind, .int .i64 (doV op [a, b]).n]) ∧ Below w.heap.size w w' :=
  (sdo_any op _ [a, b] _ (row2V w a b) (by simp)).mono fun e w' ⟨h, hb⟩ => ⟨h, (bW0 w _).trans (hb.mono (by simp))⟩
end Go.Proofs.YtdhlfpgibfaimaaGreatDoor
/- series.Reduce. -/
namespace Go.Proofs.YtdhlfpgibfaimaaGreatDoor
set_option linter.unusedVariables false
open Go.RowKit
/-- Reduce's error. -/
def redE (how : ByteArray) (l : List Pn) : Int := if howB how = false then 100 else if 2000 < l.length then 6 else if chkE (valsP l) = 0 then 0 else 80
/-- Reduce's value. -/
def reduV (how : ByteArray) (strict : Bool) (l : List Pn) : Vl := if redE how l = 0 then redV how (if strict = true then l else knownL l) else zer
end Go.Proofs.YtdhlfpgibfaimaaGreatDoor

