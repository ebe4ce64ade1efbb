/- Vd; Ve. -/
import Derived.Test.YtaffplmfnincfaaGreatDoorVaVc
/- Values: the contracts of sum, True, not, order. -/
namespace Go.Proofs.YtaffplmfnincfaaGreatDoor
set_option linter.unusedVariables false
open Go.RowKit
attribute [local go_sem ↓] Go.wp_at_zero Go.wp_at_succ
end Go.Proofs.YtaffplmfnincfaaGreatDoor
/- Values: the contracts of True, not, order. -/
namespace Go.Proofs.YtaffplmfnincfaaGreatDoor
set_option linter.unusedVariables false
open Go.RowKit
attribute [local go_sem ↓] Go.wp_at_zero Go.wp_at_succ
theorem isB_of {v : Vl} (h : IsV v) : isB v = true := decide_eq_true h
/-- As order tells it. -/
def ordI (a b : Vl) : Int := if place a < place b then -1 else if place b < place a then 1 else 0
end Go.Proofs.YtaffplmfnincfaaGreatDoor
