/- The document's Make: the walk. -/
import Derived.Test.YtckchabcnmkbeabRm
namespace Go.Proofs.Ytckchabcnmkbeab
set_option linter.unusedVariables false
open Go.RowKit
theorem mk_len {l out : List Lb} {e : Int} (h : MkQ l out e) : out.length ≤ l.length := by
  rcases h with ⟨_, _, rfl⟩ | ⟨_, _, _, rfl⟩ | ⟨_, _, _, _, rfl⟩ | ⟨_, _, _, _, h4⟩
  · simp
  · simp
  · simp
  · exact Nat.le_of_eq h4.length_eq
theorem mk_er {l out : List Lb} {e : Int} (h : MkQ l out e) : 0 ≤ e ∧ e ≤ 90 := by
  rcases h with ⟨_, rfl, _⟩ | ⟨_, _, rfl, _⟩ | ⟨_, _, _, rfl, _⟩ | ⟨_, _, rfl, _, _⟩ <;> omega
end Go.Proofs.Ytckchabcnmkbeab
