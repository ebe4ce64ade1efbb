/- There and back: the mathematics of metas. -/
import Derived.Test.YtcgjolonapndgabDoorMGet
namespace Go.Proofs.YtcgjolonapndgabDoor
open Go.RowKit Go.Maps Go.ChangeMaps Go.MapKept
/-- May a meta be? -/
def mok (q : Nat) (r k d : Int) : Prop := q ≠ 0 ∧ 0 ≤ r ∧ r ≤ 16384 ∧ 0 ≤ k ∧ k ≤ 2147483647 ∧ 0 ≤ d ∧ d ≤ 64
instance (q : Nat) (r k d : Int) : Decidable (mok q r k d) := by unfold mok; infer_instance
theorem metaB_split (q : Nat) (r k d : Int) (X : List Int) : metaB q r k d ++ X = be 8 q ++ (be 4 (u64 r) ++ (be 8 (u64 k) ++ (be 4 (u64 d) ++ (mk (mhead q (u64 r) (u64 k) (u64 d)) ++ (be 8 q ++ X))))) := by
  simp [metaB, mhead]
section
variable (q : Nat) (r k d : Int) (X : List Int)
theorem seqOf_meta (hq : q < 2 ^ 64) : seqOf (metaB q r k d ++ X) = q := by
  unfold seqOf
  rw [metaB_split, List.drop_zero, List.take_left' (be_len _ _), ofBe_be]
  exact Nat.mod_eq_of_lt hq
theorem rootOf_meta : rootOf (metaB q r k d ++ X) = u64 r % 256 ^ 4 := by
  unfold rootOf
  rw [metaB_split, List.drop_left' (be_len _ _), List.take_left' (be_len _ _), ofBe_be]
theorem keysOf_meta : keysOf (metaB q r k d ++ X) = u64 k := by
  unfold keysOf
  rw [metaB_split, ← List.append_assoc, List.drop_left' (by simp [be_len]), List.take_left' (be_len _ _), ofBe_be]
  exact Nat.mod_eq_of_lt (u64_lt k)
theorem depthOf_meta : depthOf (metaB q r k d ++ X) = u64 d % 256 ^ 4 := by
  unfold depthOf
  rw [metaB_split, ← List.append_assoc, ← List.append_assoc, List.drop_left' (by simp [be_len]), List.take_left' (be_len _ _), ofBe_be]
theorem u64_pos (z : Int) (h0 : 0 ≤ z) (h1 : z < 2 ^ 63) : ((u64 z : Nat) : Int) = z := by
  rw [← u64_wrap, wrap_u64 _ h0 (by omega)]
theorem keysI_meta (h0 : -9223372036854775808 ≤ k) (h1 : k ≤ 9223372036854775807) : keysI (metaB q r k d ++ X) = k := by
  unfold keysI
  rw [keysOf_meta, ← u64_wrap, IntKind.wrap_u64, IntKind.wrap_i64]
  omega
theorem root_ok (h0 : 0 ≤ r) (h1 : r ≤ 16384) : (rootOf (metaB q r k d ++ X) : Int) = r := by
  rw [rootOf_meta]
  have := u64_pos r h0 (by omega)
  omega
theorem depth_ok (h0 : 0 ≤ d) (h1 : d ≤ 64) : (depthOf (metaB q r k d ++ X) : Int) = d := by
  rw [depthOf_meta]
  have := u64_pos d h0 (by omega)
  omega
theorem isMeta_meta (hq : q < 2 ^ 64) (h : mok q r k d) (hX : ∀ x ∈ X, x = 0) : isMeta (metaB q r k d ++ X) = true := by
  have h1 := seqOf_meta q r k d X hq
  have h2 := root_ok q r k d X h.2.1 h.2.2.1
  have h3 := keysI_meta q r k d X (by have := h.2.2.2.1; omega) (by have := h.2.2.2.2.1; omega)
  have h4 := depth_ok q r k d X h.2.2.2.2.2.1 h.2.2.2.2.2.2
  simp only [isMeta, decide_eq_true_eq]
  rw [h1, h2, h3, h4, List.take_left' (metaB_len _ _ _ _), List.drop_left' (metaB_len _ _ _ _)]
  exact ⟨by rw [List.length_append, metaB_len]; omega, h, rfl, hX⟩
end
theorem isMeta_mok {bs : List Int} (h : isMeta bs = true) : mok (seqOf bs) (rootOf bs) (keysI bs) (depthOf bs) := by
  simp only [isMeta, decide_eq_true_eq] at h
  exact h.2.1
theorem isMeta_eq {bs : List Int} (h : isMeta bs = true) : 36 ≤ bs.length ∧ metaB (seqOf bs) (rootOf bs) (keysI bs) (depthOf bs) = bs.take 36 ∧ ∀ x ∈ bs.drop 36, x = 0 := by
  simp only [isMeta, decide_eq_true_eq] at h
  exact ⟨h.1, h.2.2.1, h.2.2.2⟩
theorem seqOf_lt (bs : List Int) (h : IsBytes bs) : seqOf bs < 2 ^ 64 := by
  have h1 := ofBe_lt ((bs.drop 0).take 8) ((h.drop 0).take 8)
  have h2 : ((bs.drop 0).take 8).length ≤ 8 := List.length_take_le _ _
  exact Nat.lt_of_lt_of_le h1 (Nat.pow_le_pow_right (n := 256) (by omega) h2)
end Go.Proofs.YtcgjolonapndgabDoor
