import Derived.Test.YtdhlfpgibfaimaaGreatDoorRows
import Derived.JoinedOf
namespace Go.Proofs.YtdhlfpgibfaimaaGreatDoor.mathEvals
theorem kInPlace : (Rows.mathEvalsRow.inPlace == Tryz.prog.inPlace 4) = true:=by kernel_rfl
theorem kUnfollowed : (Rows.mathEvalsRow.unfollowed == Tryz.prog.unfollowed 4) = true:=by kernel_rfl
theorem kRecurses : (Rows.mathEvalsRow.recurses == Tryz.prog.recurses 4) = true:=by kernel_rfl
theorem kNamed : (Rows.mathEvalsRow.named == Tryz.prog.varsNamed 4) = true:=by kernel_rfl
theorem kWf : Rows.mathEvalsRow.wf (OpenSpec.ofChange Rows.mathEvalsSpec) = true:=by kernel_rfl
theorem kLaid : laidOutB Tryz.prog = true:=by kernel_rfl
theorem kMaps : mapsRowed Tryz.prog = true:=by kernel_rfl
theorem kClosed : joinedFacts Tryz.prog 4 Tryz.f4 Rows.mathEvalsSpec Rows.mathEvalsRow = true:=by
 unfold joinedFacts
 rw [kInPlace,kUnfollowed,kRecurses,kNamed,kWf,kLaid,kMaps]
 kernel_rfl
end Go.Proofs.YtdhlfpgibfaimaaGreatDoor.mathEvals
