/- The document's in, part, Without, Only, With, order, Compare, Join. -/
import Derived.Test.YtckchabcnmkbeabPk
namespace Go.Proofs.Ytckchabcnmkbeab
set_option linter.unusedVariables false
open Go.RowKit
theorem inB_at {ns : List ByteArray} {s : ByteArray} {k : Nat} (hk : k < ns.length) (e : ns.getD k ⟨#[]⟩ = s) : inB ns s = true := by
  unfold inB
  rw [List.any_eq_true]
  exact ⟨_, getD_mem ns ⟨#[]⟩ k hk, by simpa using e⟩
theorem inB_no {ns : List ByteArray} {s : ByteArray} (h : ∀ j, j < ns.length → ns.getD j ⟨#[]⟩ ≠ s) : inB ns s = false := by
  cases e : inB ns s with
  | false => rfl
  | true =>
    unfold inB at e
    rw [List.any_eq_true] at e
    obtain ⟨n, hn, he⟩ := e
    obtain ⟨j, hj, rfl⟩ := List.mem_iff_getElem.1 hn
    have := h j hj
    rw [List.getD_eq_getElem?_getD, List.getElem?_eq_getElem hj] at this
    exact absurd (by simpa using he) this
theorem namesL_take (l : List Lb) (k : Nat) (hk : k < l.length) : namesL (l.take (k + 1)) = namesL (l.take k) ++ [(l.getD k lb0).name] := by
  rw [take_getD l lb0 k hk]; simp [namesL]
theorem namesL_len (l : List Lb) : (namesL l).length = l.length := by simp [namesL]
/-! ### order, Compare -/
end Go.Proofs.Ytckchabcnmkbeab
