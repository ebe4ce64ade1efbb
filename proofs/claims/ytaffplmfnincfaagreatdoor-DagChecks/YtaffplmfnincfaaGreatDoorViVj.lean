/- Vi; Vj. -/
import Derived.Test.YtaffplmfnincfaaGreatDoorVfVh
/- Values: the contracts of the functions that lie in twos' map: reckoned, compared, unlessNull, and what they enclose. -/
namespace Go.Proofs.YtaffplmfnincfaaGreatDoor
set_option linter.unusedVariables false
open Go.RowKit
attribute [local go_sem ↓] Go.wp_at_zero Go.wp_at_succ
theorem keepC {w w' : World} {q : Addr} {u : Value} (h : w.cell? q = some u) (hb : Below w.heap.size w w') : w'.cell? q = some u := (hb.cell (World.block_lt_of_cell? w _ h)).trans h
end Go.Proofs.YtaffplmfnincfaaGreatDoor
/- Values: the contracts of what compared and unlessNull make. -/
namespace Go.Proofs.YtaffplmfnincfaaGreatDoor
set_option linter.unusedVariables false
open Go.RowKit
attribute [local go_sem ↓] Go.wp_at_zero Go.wp_at_succ
end Go.Proofs.YtaffplmfnincfaaGreatDoor
