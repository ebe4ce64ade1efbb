/- Vf; Vg; Vh. -/
import Derived.Test.YtaffplmfnincfaaGreatDoorVdVe
import Derived.Test.YtaffplmfnincfaaGreatDoorShelf
import Derived.Laws.MathBits
import Derived.Laws.Bits64b
import Derived.LoopN
/- The contract of bits.Div64: of a number of one word, and of one of two words by 1000. -/
namespace Go.Proofs.YtaffplmfnincfaaGreatDoor
set_option linter.unusedVariables false
open Go.RowKit
/-- What divided tells: the quotient, or just beyond all numbers. -/
def divN (n over : Nat) : Int := min ((n / over : Nat) : Int) 1000000000000001
end Go.Proofs.YtaffplmfnincfaaGreatDoor
/- Values: the contracts of scaled, product, quotient. -/
namespace Go.Proofs.YtaffplmfnincfaaGreatDoor
set_option linter.unusedVariables false
open Go.RowKit
attribute [local go_sem ↓] Go.wp_at_zero Go.wp_at_succ
/-- The sign of a product by a divisor. -/
def sgnX (n by' over : Int) : Bool := !((!(decide (n < 0) == decide (by' < 0))) == decide (over < 0))
/-- A number's size. -/
def szI (n : Int) : Int := (n.natAbs : Int)
end Go.Proofs.YtaffplmfnincfaaGreatDoor
/- Values: the contracts of product, quotient. -/
namespace Go.Proofs.YtaffplmfnincfaaGreatDoor
set_option linter.unusedVariables false
open Go.RowKit
attribute [local go_sem ↓] Go.wp_at_zero Go.wp_at_succ
end Go.Proofs.YtaffplmfnincfaaGreatDoor
