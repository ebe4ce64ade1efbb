/- Pages that are too small: Room through the interface. -/
import Derived.Test.YtdobleekjiehdaaGreatNil
namespace Go.Proofs.YtdobleekjiehdaaGreat
set_option linter.unusedVariables false
open Go.RowKit Go.Maps Go.ChangeMaps Go.MapKept
theorem meth_room (v : Value) (W : World) : (method 315 26 v "Room").run Tryz.prog W = .ok (142, v) W := by kernel_rfl
set_option maxRecDepth 100000 in
set_option maxHeartbeats 1000000 in
theorem room_any (m : Nat) (room : Int) (W : World) (h : W.cell? ⟨m, 2, none⟩ = some (.int .i64 room)) : Calls Tryz.prog 142 #[.pointer (some ⟨m, 0, none⟩)] W fun e w' => e = .returned (.int .i64 room) ∧ w' = W := by
  go_enter Tryz.func142, Tryz.ntmps142
  go_wp2_with fail
  go_ret
  exact ⟨rfl, rfl⟩
set_option maxRecDepth 100000 in
set_option maxHeartbeats 1000000 in
theorem setOut_small (m : Nat) (room : Int) (W : World) (h : W.cell? ⟨m, 2, none⟩ = some (.int .i64 room)) (hr : room < 480) : Calls Tryz.prog 34 #[.iface 26 (.pointer (some ⟨m, 0, none⟩))] W fun e w' => e = .returned (.tuple #[.pointer none, .int .i64 2]) ∧ w' = W := by
  have hm := meth_room (.pointer (some ⟨m, 0, none⟩))
  go_enter Tryz.func34, Tryz.ntmps34
  go_wp2_with (first | (go_at_call 142; refine (room_any m room _ h).mono ?_; rintro e w' ⟨rfl, hw'⟩; subst w'))
  go_ret2
  exact ⟨rfl, rfl⟩
end Go.Proofs.YtdobleekjiehdaaGreat
