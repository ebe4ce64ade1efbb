/- Va2;SgSi. -/
import Derived.Test.YtdhlfpgibfaimaaGreatDoorVoVpVw
import Derived.Test.YtdhlfpgibfaimaaGreatDoorCpAr
import Derived.Test.YtdhlfpgibfaimaaGreatDoorSaSbSd

set_option linter.unusedVariables false
namespace Go.Proofs.YtdhlfpgibfaimaaGreatDoor
theorem two_add (a b : Vl) : two ⟨#[43]⟩ a b = some (addV a b):=by simp [two]
theorem two_sub (a b : Vl) : two ⟨#[45]⟩ a b = some (subV a b):=by simp [two]
theorem two_mul (a b : Vl) : two ⟨#[42]⟩ a b = some (mulV a b):=by simp [two]
theorem two_div (a b : Vl) : two ⟨#[47]⟩ a b = some (divV a b):=by simp [two]
theorem two_eq (a b : Vl) : two ⟨#[61,61]⟩ a b = some (eqV a b):=by simp [two]
theorem two_ne (a b : Vl) : two ⟨#[33,61]⟩ a b = some (neV a b):=by simp [two]
theorem two_lt (a b : Vl) : two ⟨#[60]⟩ a b = some (ltV a b):=by simp [two]
theorem two_le (a b : Vl) : two ⟨#[60,61]⟩ a b = some (leV a b):=by simp [two]
theorem two_gt (a b : Vl) : two ⟨#[62]⟩ a b = some (gtV a b):=by simp [two]
theorem two_ge (a b : Vl) : two ⟨#[62,61]⟩ a b = some (geV a b):=by simp [two]
theorem two_and (a b : Vl) : two ⟨#[38,38]⟩ a b = some (andV a b):=by simp [two]
theorem two_or (a b : Vl) : two ⟨#[124,124]⟩ a b = some (orV a b):=by simp [two]
end Go.Proofs.YtdhlfpgibfaimaaGreatDoor

set_option linter.unusedVariables false
namespace Go.Proofs.YtdhlfpgibfaimaaGreatDoor
open Go.RowKit
def redV (how : ByteArray) (l : List Pn) : Vl :=
 if (how.toList == [99,111,117,110,116]) = true then num (1000 * l.length) else
 if l.length = 0 then nul else
 if (how.toList == [108,97,115,116]) = true then (lastP l).v else
 if l.any unkB = true then nan else
 if (how.toList == [109,105,110]) = true then utV ⟨#[60]⟩ l else
 if (how.toList == [109,97,120]) = true then utV ⟨#[62]⟩ l else
 if (how.toList == [115,117,109]) = true then sumV l else
 doV ⟨#[47]⟩ [sumV l,num (1000 * l.length)]
theorem sdo2a (op : ByteArray) (a b : Vl) (w : World) : Calls Tryz.prog 118 #[.string op,.slice (some ⟨w.heap.size,0,none⟩) 2 2] (w.alloc (.cells #[.int .i64 a.kind,.int .i64 a.n,.int .i64 b.kind,.int .i64 b.n] 24)) fun e w'=>e = .returned (.agg #[.int .i64 (doV op [a,b]).kind,.int .i64 (doV op [a,b]).n])∧Below w.heap.size w w' :=
 (sdo_any op _ [a,b] _ (row2V w a b) (by simp)).mono fun e w' ⟨h,hb⟩=>⟨h,(bW0 w _).trans (hb.mono (by simp))⟩
end Go.Proofs.YtdhlfpgibfaimaaGreatDoor
