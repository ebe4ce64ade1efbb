/- A meta's bytes, and the meta of bytes: the mathematics. -/
import Derived.Test.YtcgjolonapndgabDoorLib
namespace Go.Proofs.YtcgjolonapndgabDoor
open Go.RowKit Go.Maps Go.ChangeMaps Go.MapKept
/-- An int as a uint64. -/
def u64 (z : Int) : Nat := (IntKind.u64.wrap z).toNat
theorem u64_wrap (z : Int) : IntKind.u64.wrap z = ((u64 z : Nat) : Int) := by
  unfold u64
  rw [IntKind.wrap_u64]; omega
theorem u64_lt (z : Int) : u64 z < 2 ^ 64 := by
  unfold u64
  rw [IntKind.wrap_u64]; omega
theorem u64_nat (n : Nat) (h : n < 2 ^ 64) : u64 (n : Int) = n := by
  unfold u64
  rw [wrap_u64 _ (by omega) (by omega)]; omega
/-- What stands ahead of a meta's mark. -/
def mhead (q r k d : Nat) : List Int := be 8 q ++ be 4 r ++ be 8 k ++ be 4 d
/-- A meta's bytes. -/
def metaB (q : Nat) (r k d : Int) : List Int := mhead q (u64 r) (u64 k) (u64 d) ++ mk (mhead q (u64 r) (u64 k) (u64 d)) ++ be 8 q
theorem mhead_len (q r k d : Nat) : (mhead q r k d).length = 24 := by simp [mhead, be_len]
theorem metaB_len (q : Nat) (r k d : Int) : (metaB q r k d).length = 36 := by simp [metaB, mhead_len, mk_len, be_len]
theorem mhead_bytes (q r k d : Nat) : IsBytes (mhead q r k d) := isBytes_append (isBytes_append (isBytes_append (be_bytes _ _) (be_bytes _ _)) (be_bytes _ _)) (be_bytes _ _)
theorem metaB_bytes (q : Nat) (r k d : Int) : IsBytes (metaB q r k d) := isBytes_append (isBytes_append (mhead_bytes _ _ _ _) (be_bytes _ _)) (be_bytes _ _)
theorem splice_pad (size n : Nat) (xs q : List Int) (hn : xs.length = n) (h : n + q.length ≤ size) : splice (padded size xs) n q = padded size (xs ++ q) := by
  subst hn
  exact padded_splice' size xs q (by simpa using h)
theorem zeros_pad (n : Nat) : zeros n = padded n [] := by simp [padded, zeros]
/-- The four parts, laid one behind another. -/
theorem mlay (q r k d : Nat) : splice (splice (splice (splice (zeros 36) 0 (be 8 q)) 8 (be 4 r)) 12 (be 8 k)) 20 (be 4 d) = padded 36 (mhead q r k d) := by
  rw [zeros_pad, splice_pad 36 0 [] _ rfl (by simp [be_len]), splice_pad 36 8 _ _ (by simp [be_len]) (by simp [be_len]), splice_pad 36 12 _ _ (by simp [be_len]) (by simp [be_len]), splice_pad 36 20 _ _ (by simp [be_len]) (by simp [be_len])]
  simp [mhead]
theorem mlay_take (q r k d : Nat) : (padded 36 (mhead q r k d)).take 24 = mhead q r k d := by
  unfold padded
  rw [List.take_left' (mhead_len _ _ _ _)]
theorem mlay_get (q r k d t : Nat) (h : t < 24) : (padded 36 (mhead q r k d)).getD t 0 = (mhead q r k d).getD t 0 := by
  unfold padded
  rw [List.getD_eq_getElem?_getD, List.getD_eq_getElem?_getD, List.getElem?_append_left (by rw [mhead_len]; exact h)]
theorem mlay_end (q r k d : Nat) : splice (splice (padded 36 (mhead q r k d)) 24 (mk (mhead q r k d))) 28 (be 8 q) = mhead q r k d ++ mk (mhead q r k d) ++ be 8 q := by
  rw [splice_pad 36 24 _ _ (mhead_len _ _ _ _) (by simp [mk_len]), splice_pad 36 28 _ _ (by simp [mhead_len, mk_len]) (by simp [be_len])]
  unfold padded
  simp [mhead_len, mk_len, be_len, zeros]
end Go.Proofs.YtcgjolonapndgabDoor
