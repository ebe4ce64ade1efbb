/- DagAhead: the walk. -/
import Derived.Test.YtaffplmfnincfaaGreatDoorPa
import Derived.Test.YtaffplmfnincfaaGreatDoorOvOx
import Derived.Test.YtaffplmfnincfaaGreatDoorOy
namespace Go.Proofs.YtaffplmfnincfaaGreatDoor
set_option linter.unusedVariables false
open Go.RowKit
theorem smN_sh {l : List Nd} (h : smN l = true) : l.length ≤ 24 ∧ ShA l := by
  unfold smN at h
  simp only [decide_eq_true_eq] at h
  refine ⟨h.1, fun x hx => ?_⟩
  have h1 : ndSz x ≤ totN l := by
    unfold totN
    have : ∀ {L : List Nat} {k : Nat}, k ∈ L → k ≤ L.sum := by
      intro L
      induction L with
      | nil => intro k hk; cases hk
      | cons a L ih =>
        intro k hk
        rcases List.mem_cons.1 hk with rfl | hk
        · simp
        · have := ih hk; simp; omega
    exact this (List.mem_map_of_mem hx)
  unfold ndSz at h1
  exact ⟨by omega, by omega, by omega⟩
end Go.Proofs.YtaffplmfnincfaaGreatDoor
