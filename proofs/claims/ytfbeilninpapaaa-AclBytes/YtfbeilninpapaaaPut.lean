/- The contracts of quill's writers: Number, Signed, Text and what they call. -/
import Derived.Test.YtfbeilninpapaaaLaws
namespace Go.Proofs.Ytfbeilninpapaaa
open Go.RowKit
set_option maxRecDepth 100000 in
set_option maxHeartbeats 1000000 in
theorem appendNumber_any (base : Nat) (v : Value) (xs : List Int) (n : Nat) (w : World) (hn : n < 2 ^ 64) (hown : Own w base v xs) (hbase : base ≤ w.heap.size) (hlen : xs.length ≤ 100000000) :
    Calls Try.prog 57 #[v, .int .u64 n] w fun e w' => ∃ v', e = .returned v' ∧ Own w' base v' (xs ++ enc n) ∧ Below base w w' := by
  go_enter Try.func57, Try.ntmps57
  go_wp2_with (go_at_call 65; refine (lowBit_any n _ hn).mono ?_; rintro e w' ⟨rfl, hw'⟩; subst w')
  go_loopw [0, 5] (fun u s wr => ∃ (k : Nat) (done : List Int), k ≤ ahead n ∧ s = .int .i64 ((7 * k : Nat) : Int) ∧ Hid (done ++ hi n k = hi n (ahead n)) ∧ Own wr base u (xs ++ done) ∧ Below base w wr)
    (fun _ s _ => (intOf s).toNat)
  case atStart => exact ⟨ahead n, [], Nat.le_refl _, by go_num, rfl, by simpa using hown, Below.refl _ _⟩
  case round =>
    obtain ⟨k, done, hk, rfl, hd, ho, hbw⟩ := hrel
    have hk10 := ahead_lt n hn
    have hsz := hbw.size
    have hdl := hi_len n k done hd.out
    by_cases hlt : 0 < k
    · obtain ⟨j, rfl⟩ : ∃ j, k = j + 1 := ⟨k - 1, by omega⟩
      have hdg := digit_or n j
      have H := hi_step n j done hd.out
      go_wp2_with (at_builtin; refine app1 rfl (.tmp 12) (.tmp 18) rfl base _ (xs ++ done) _ rfl rfl ho (by omega) (by simp; omega) ?_; intro v1 w1 ho1 hb1)
      go_roundw
      case rel => exact ⟨j, _, by omega, by go_num, H, by simpa using ho1, hbw.trans hb1⟩
      case measure => simp [intOf]; omega
    · obtain rfl : k = 0 := by omega
      have hdg := digit_and n
      have H := hi_end n done hd.out
      go_wp2_with (at_builtin; refine app1 rfl (.tmp 20) (.tmp 24) rfl base _ (xs ++ done) _ rfl rfl ho (by omega) (by simp; omega) ?_; intro v1 w1 ho1 hb1)
      go_ret
      exact ⟨_, rfl, by rw [← H, ← List.append_assoc]; exact ho1, hbw.trans hb1⟩

/-- A signed number's bytes. -/
def encS (z : Int) : List Int := if z < 0 then 45 :: enc (-z).toNat else 43 :: enc z.toNat
theorem neg_wrap (z : Int) (h1 : -9223372036854775808 ≤ z) (h : z < 0) : IntKind.u64.wrap (-IntKind.u64.wrap z) = (((-z).toNat : Nat) : Int) := by
  simp only [IntKind.wrap, IntKind.bits, IntKind.signed]
  simp
  omega
set_option maxRecDepth 100000 in
set_option maxHeartbeats 1000000 in
theorem appendSigned_any (base : Nat) (v : Value) (xs : List Int) (z : Int) (w : World) (h1 : -9223372036854775808 ≤ z) (h2 : z ≤ 9223372036854775807) (hown : Own w base v xs) (hbase : base ≤ w.heap.size) (hlen : xs.length ≤ 99999999) :
    Calls Try.prog 58 #[v, .int .i64 z] w fun e w' => ∃ v', e = .returned v' ∧ Own w' base v' (xs ++ encS z) ∧ Below base w w' := by
  by_cases hz : z < 0
  · have hnw := neg_wrap z h1 hz
    have hE : Hid (encS z = 45 :: enc (-z).toNat) := by unfold encS; rw [if_pos hz]; rfl
    have hm : (-z).toNat < 2 ^ 64 := by omega
    obtain ⟨m, hmm⟩ : ∃ m, m = (-z).toNat := ⟨_, rfl⟩
    rw [← hmm] at hnw hE hm
    clear hmm
    go_enter Try.func58, Try.ntmps58
    go_wp2_with (first | (at_builtin; refine app1 rfl (.tmp 7) (.tmp 8) rfl base _ xs _ rfl rfl hown (by omega) (by omega) ?_; intro v1 w1 ho1 hb1) | (go_at_call 57; refine (appendNumber_any base v1 (xs ++ [45]) m w1 hm ho1 (by have := hb1.size; omega) (by simp; omega)).mono ?_; rintro e w2 ⟨v2, rfl, ho2, hb2⟩))
    go_ret
    exact ⟨_, rfl, ho2.cast (by rw [hE.out]; simp), hb1.trans hb2⟩
  · obtain ⟨m, rfl⟩ : ∃ m : Nat, z = m := ⟨z.toNat, by omega⟩
    have hE : Hid (encS m = 43 :: enc m) := by unfold encS; rw [if_neg hz]; rfl
    have hm : m < 2 ^ 64 := by omega
    go_enter Try.func58, Try.ntmps58
    go_wp2_with (first | (at_builtin; refine app1 rfl (.tmp 14) (.tmp 15) rfl base _ xs _ rfl rfl hown (by omega) (by omega) ?_; intro v1 w1 ho1 hb1) | (go_at_call 57; refine (appendNumber_any base v1 (xs ++ [43]) m w1 hm ho1 (by have := hb1.size; omega) (by simp; omega)).mono ?_; rintro e w2 ⟨v2, rfl, ho2, hb2⟩))
    go_ret
    exact ⟨_, rfl, ho2.cast (by rw [hE.out]; simp), hb1.trans hb2⟩
end Go.Proofs.Ytfbeilninpapaaa
