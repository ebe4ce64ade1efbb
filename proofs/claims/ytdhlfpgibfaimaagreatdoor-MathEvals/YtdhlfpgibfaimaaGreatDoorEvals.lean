/- MathEvals: of every text that has a tree, and of every frames, Eval tells what the document tells. Conditions: none beyond the row. -/
import Derived.Test.YtdhlfpgibfaimaaGreatDoorEvwEvl
import Derived.Test.YtdhlfpgibfaimaaGreatDoorEvk
import Derived.Test.YtdhlfpgibfaimaaGreatDoorTie
import Derived.Test.YtdhlfpgibfaimaaGreatDoorCards
import Derived.SevenTiedAt
import Derived.OpenShut
namespace Go.Proofs.YtdhlfpgibfaimaaGreatDoor.mathEvals
open Go.ChangeShapes Go.WideShapes Go.ChangeAt Go.RowKit Go.Maps Go.ChangeMaps Go.MapKept
set_option linter.unusedVariables false
attribute [local go_sem ↓] Go.wp_at_zero Go.wp_at_succ
theorem over : Rows.MathEvalsSaid :=
  OpenClaim.holds_of_wide 4 Tryz.f4 rfl rfl rfl rfl rfl rfl rfl ⟨rfl, rfl, rfl, rfl, rfl⟩ rfl rfl rfl rfl rfl (by kernel_rfl) Tryz.func4 kClosed
    (of_decide_eq_true (by kernel_rfl)) (by unfold Func.isWrapper; first | (rw [if_pos (by decide +kernel)]; kernel_rfl) | (rw [if_neg (by decide +kernel)]; exact ⟨rfl, rfl⟩))
    (fun os started H enc _ => lifted os started H enc)
end Go.Proofs.YtdhlfpgibfaimaaGreatDoor.mathEvals
namespace Go.Proofs.YtdhlfpgibfaimaaGreatDoor
open Go
/-- The card. -/
theorem mathEvals_card : Rows.MathEvalsCardSaid :=
  Claim7.holds_tied_plain_at .later [] [.data, .data, .data, .data, .sentinel, .sentinel, .data, .pinned] true (true, "08b122d2bf374064c7aac1b16d452358476b773a4757c5f710ffb27b7ff365df") true mathEvals.over (fun _ h => by cases h) (by kernel_rfl) (fun _ h => by cases h) mathEvals_row_tie rfl ⟨rfl, rfl⟩ (by kernel_rfl) rfl
    (fun f fn hf hfn => by
      obtain rfl : f = 4 := Option.some.inj ((show Tryz.prog.funcNamed "klaxon/klaxonlaw11.MathEvals" = some 4 by kernel_rfl).symm.trans hf) |>.symm
      obtain rfl : fn = Tryz.f4 := (Option.some.inj (Tryz.func4.symm.trans hfn)).symm
      exact ⟨by kernel_rfl, fun j t ht => by
        rw [Tryz.params4] at ht
        have hm : t ∈ [9, 41] := by simpa using Array.mem_of_getElem? ht
        have hall : ([9, 41].all fun u => !Tryz.prog.wantsStandIn u) = true := by kernel_rfl
        exact (show Tryz.prog.wantsStandIn t = false by simpa using List.all_eq_true.1 hall t hm)⟩)
    (by kernel_rfl)
#print axioms mathEvals_card
end Go.Proofs.YtdhlfpgibfaimaaGreatDoor
