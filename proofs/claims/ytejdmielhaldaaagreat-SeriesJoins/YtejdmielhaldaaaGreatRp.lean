/- The document's in, part, Without, Only, With, order, Compare, Join. -/
import Derived.Test.YtejdmielhaldaaaGreatRnPk
namespace Go.Proofs.YtejdmielhaldaaaGreat
set_option linter.unusedVariables false
open Go.RowKit
theorem inB_at {ns : List ByteArray} {s : ByteArray} {k : Nat} (hk : k < ns.length) (e : ns.getD k ⟨#[]⟩ = s) : inB ns s = true := by
  unfold inB
  rw [List.any_eq_true]
  exact ⟨_, lgetD_mem ns ⟨#[]⟩ k hk, by simpa using e⟩
theorem inB_no {ns : List ByteArray} {s : ByteArray} (h : ∀ j, j < ns.length → ns.getD j ⟨#[]⟩ ≠ s) : inB ns s = false := by
  cases e : inB ns s with
  | false => rfl
  | true =>
    unfold inB at e
    rw [List.any_eq_true] at e
    obtain ⟨n, hn, he⟩ := e
    obtain ⟨j, hj, rfl⟩ := List.mem_iff_getElem.1 hn
    have := h j hj
    rw [List.getD_eq_getElem?_getD, List.getElem?_eq_getElem hj] at this
    exact absurd (by simpa using he) this
theorem namesL_take (l : List Lb) (k : Nat) (hk : k < l.length) : namesL (l.take (k + 1)) = namesL (l.take k) ++ [(l.getD k lb0).name] := by
  rw [ltake_getD l lb0 k hk]; simp [namesL]
theorem namesL_len (l : List Lb) : (namesL l).length = l.length := by simp [namesL]
/-! ### order, Compare -/
set_option maxRecDepth 100000 in
set_option maxHeartbeats 1000000 in
theorem rorder_any (a b : ByteArray) (w : World) : Calls Tryz.prog 73 #[.string a, .string b] w fun e w' => e = .returned (.int .i64 (cmpL (numsS a) (numsS b))) ∧ w' = w := by
  have h1 := less_cmp a b
  have h2 := less_cmp b a
  rw [cmpL_neg (numsS a)] at h2
  have hn : Hid (∀ z : Int, z = cmpL (numsS a) (numsS b) → cmpL (numsS a) (numsS b) = z) := fun z h => h.symm
  rcases cmpL_in (numsS a) (numsS b) with h | h | h
  · have hR : Hid (cmpL (numsS a) (numsS b) = -1) := h
    rw [h] at h1 h2
    clear h hn
    simp only [decide_true] at h1
    go_enter Tryz.func73, Tryz.ntmps73
    go_wp2
    go_ret
    exact ⟨by rw [hR.out]; rfl, rfl⟩
  · have hR : Hid (cmpL (numsS a) (numsS b) = 0) := h
    rw [h] at h1 h2
    clear h hn
    have h1' : Op.bytesLess a.toList b.toList = false := by rw [h1]; decide
    have h2' : Op.bytesLess b.toList a.toList = false := by rw [h2]; decide
    obtain rfl : a = b := numsS_inj (cmpL_eq hR.out)
    clear h1 h2
    go_enter Tryz.func73, Tryz.ntmps73
    go_wp2
    go_ret
    exact ⟨by rw [hR.out]; rfl, rfl⟩
  · have hR : Hid (cmpL (numsS a) (numsS b) = 1) := h
    rw [h] at h1 h2
    clear h hn
    have h1' : Op.bytesLess a.toList b.toList = false := by rw [h1]; decide
    have h2' : Op.bytesLess b.toList a.toList = true := by rw [h2]; decide
    have hne : (a.toList == b.toList) = false := toList_ne (by rintro rfl; rw [h2'] at h1'; cases h1')
    clear h1 h2
    go_enter Tryz.func73, Tryz.ntmps73
    go_wp2
    go_ret
    exact ⟨by rw [hR.out]; rfl, rfl⟩
end Go.Proofs.YtejdmielhaldaaaGreat
