/- The contract of math/bits.Len64 as the program calls it, and of lowBitOfFirstDigit. -/
import Derived.Test.YtfbeilninpapaaaRows
import Derived.Test.YtfbeilninpapaaaMath
import Derived.WalkKit
import Derived.WalkSpells
import Derived.WalkLawsBesides
import Derived.Outline
namespace Go.Proofs.Ytfbeilninpapaaa
open Go.RowKit

theorem ret_int {k : IntKind} {a b : Int} (h : a = b) : Ending.returned (.int k a) = .returned (.int k b) := by rw [h]

set_option maxRecDepth 100000 in
set_option maxHeartbeats 1000000 in
theorem len64_any (x : Int) (w : World) (h0 : 0 < x) (h1 : x < 18446744073709551616) :
    Calls Try.prog 70 #[.int .u64 x] w fun e w' => e = .returned (.int .i64 (x.toNat.log2 + 1)) ∧ w' = w := by
  go_enter Try.func70, Try.ntmps70
  go_wp2
  all_goals go_ret
  · exact ⟨ret_int (len_end _ (by decide +kernel) x _ 56 56 rfl (by omega) (by omega) (by omega) (by omega) (by omega) _), rfl⟩
  · exact ⟨ret_int (len_end _ (by decide +kernel) x _ 48 48 rfl (by omega) (by omega) (by omega) (by omega) (by omega) _), rfl⟩
  · exact ⟨ret_int (len_end _ (by decide +kernel) x _ 40 40 rfl (by omega) (by omega) (by omega) (by omega) (by omega) _), rfl⟩
  · exact ⟨ret_int (len_end _ (by decide +kernel) x _ 32 32 rfl (by omega) (by omega) (by omega) (by omega) (by omega) _), rfl⟩
  · exact ⟨ret_int (len_end _ (by decide +kernel) x _ 24 24 rfl (by omega) (by omega) (by omega) (by omega) (by omega) _), rfl⟩
  · exact ⟨ret_int (len_end _ (by decide +kernel) x _ 16 16 rfl (by omega) (by omega) (by omega) (by omega) (by omega) _), rfl⟩
  · exact ⟨ret_int (len_end _ (by decide +kernel) x _ 8 8 rfl (by omega) (by omega) (by omega) (by omega) (by omega) _), rfl⟩
  · exact ⟨ret_int (len_end0 _ (by decide +kernel) x (by omega) (by omega) _), rfl⟩

set_option maxRecDepth 100000 in
set_option maxHeartbeats 1000000 in
theorem lowBit_any (n : Nat) (w : World) (h1 : n < 2 ^ 64) :
    Calls Try.prog 65 #[.int .u64 n] w fun e w' => e = .returned (.int .i64 ((7 * ahead n : Nat) : Int)) ∧ w' = w := by
  have hb := or_one_int n h1
  have hor : bits .or .u64 (n : Int) 1 = ((n ||| 1 : Nat) : Int) := bits_or_u64_nat n 1 (by omega) (by omega)
  have ha := ahead_lt n h1
  have hd : (n ||| 1).log2 / 7 = ahead n := rfl
  obtain ⟨m, hm⟩ : ∃ m : Nat, m = n ||| 1 := ⟨_, rfl⟩
  rw [← hm] at hb hor hd
  clear hm
  go_enter Try.func65, Try.ntmps65
  go_wp2_with (go_at_call 70; refine (len64_any _ _ hb.1 hb.2).mono ?_; rintro e w' ⟨rfl, rfl⟩)
  go_ret
  exact ⟨ret_int (by omega), rfl⟩

end Go.Proofs.Ytfbeilninpapaaa
