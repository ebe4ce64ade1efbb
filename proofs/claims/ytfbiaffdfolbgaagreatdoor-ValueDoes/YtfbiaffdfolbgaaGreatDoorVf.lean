/- The contract of bits.Div64: of a number of one word, and of one of two words by 1000. -/
import Derived.Test.YtfbiaffdfolbgaaGreatDoorVe
import Derived.Test.YtfbiaffdfolbgaaGreatDoorShelf
import Derived.Laws.MathBits
import Derived.Laws.Bits64b
import Derived.LoopN
namespace Go.Proofs.YtfbiaffdfolbgaaGreatDoor
set_option linter.unusedVariables false
open Go.RowKit
theorem lz1000 (w : World) : Calls Tryz.prog 136 #[.int .u64 1000] w fun e w' => e = .returned (.int .i64 54) ∧ w' = w := by
  have h := Tryz.bits_LeadingZeros64 1000 w (by decide) (by decide)
  have e : (64 - (Lib.bitLen (1000 : Int).toNat : Int)) = 54 := by decide
  rw [e] at h
  exact h
/-- The bits of a number whose lower ones are 0, and those of one that has only lower ones. -/
theorem or_low (H L : Nat) (h2 : H < 1000) (hL : L < 18446744073709551616) : bits .or .u64 ((H : Int) * 18014398509481984) ((L : Int) / 1024) = (H : Int) * 18014398509481984 + (L : Int) / 1024 := by
  have e1 : (H : Int) * 18014398509481984 = ((H * 18014398509481984 : Nat) : Int) := by omega
  have e2 : (L : Int) / 1024 = ((L / 1024 : Nat) : Int) := by omega
  rw [e1, e2, bits_or_u64_nat _ _ (by omega) (by omega)]
  have h := Nat.two_pow_add_eq_or_of_lt (i := 54) (b := L / 1024) (by omega) H
  have e3 : 2 ^ 54 * H = H * 18014398509481984 := by rw [Nat.mul_comm]
  rw [e3] at h
  rw [← h]
  omega
theorem and_hi : bits .and .u64 18014398509481984000 4294967295 = 0 := by
  rw [and_low32 _ (by decide) (by decide)]; decide
theorem wrap_in (x : Int) (h0 : 0 ≤ x) (h1 : x < 18446744073709551616) : IntKind.u64.wrap x = x := by rw [IntKind.wrap_u64]; omega
theorem wrap_ge (x : Int) : 0 ≤ IntKind.u64.wrap x ∧ IntKind.u64.wrap x < 18446744073709551616 := by rw [IntKind.wrap_u64]; omega
set_option maxRecDepth 100000 in
set_option maxHeartbeats 4000000 in
theorem div64_k (H L : Nat) (h1 : 1 ≤ H) (h2 : H < 1000) (hL : L < 18446744073709551616) (w : World) : Calls Tryz.prog 117 #[.int .u64 H, .int .u64 L, .int .u64 1000] w fun e w' => ∃ q r : Int, e = .returned (.tuple #[.int .u64 q, .int .u64 r]) ∧ 1000000000000001 ≤ q ∧ q < 18446744073709551616 ∧ w' = w := by
  have g1 : ((H : Int) == 0) = false := by simp; omega
  have o1 := or_low H L h2 hL
  have o2 := and_hi
  obtain ⟨U, hU⟩ : ∃ U, Hid (U = (H : Int) * 18014398509481984 + (L : Int) / 1024) := ⟨_, rfl⟩
  rw [← hU.out] at o1
  have hUb : Hid (18014398509481984 ≤ U ∧ U < 18014398509481984000) := by have := hU.out; exact ⟨by omega, by omega⟩
  obtain ⟨X, o3⟩ : ∃ X, IntKind.u64.wrap ((L : Int) * 18014398509481984) = X := ⟨_, rfl⟩
  have hX := wrap_ge ((L : Int) * 18014398509481984)
  rw [o3] at hX
  have o4 := and_low32 X hX.1 hX.2
  obtain ⟨V, o5⟩ : ∃ V, X % 4294967296 = V := ⟨_, rfl⟩
  obtain ⟨Z, o6⟩ : ∃ Z, X / 4294967296 = Z := ⟨_, rfl⟩
  rw [o5] at o4
  have hVZ : Hid (0 ≤ V ∧ V < 4294967296 ∧ 0 ≤ Z ∧ Z < 4294967296) := ⟨by omega, by omega, by omega, by omega⟩
  obtain ⟨q1, hq1⟩ : ∃ q1, Hid (q1 = U / 4194304000) := ⟨_, rfl⟩
  have hq1b : 0 ≤ q1 ∧ q1 < 4294967296 := by have := hq1.out; have := hUb.out; omega
  have hq1c : Hid (4294967 ≤ q1) := by have := hq1.out; have := hUb.out; exact (by omega : 4294967 ≤ q1)
  have o7 : IntKind.u64.wrap (U.tdiv 4194304000) = q1 := by
    have := hUb.out
    rw [Int.tdiv_eq_ediv_of_nonneg (by omega), ← hq1.out, wrap_in _ (by omega) (by omega)]
  obtain ⟨p1, hp1⟩ : ∃ p1, Hid (p1 = q1 * 4194304000) := ⟨_, rfl⟩
  have o8 : IntKind.u64.wrap (q1 * 4194304000) = p1 := by rw [hp1.out, wrap_in _ (by omega) (by omega)]
  obtain ⟨r1, hr1⟩ : ∃ r1, Hid (r1 = U - p1) := ⟨_, rfl⟩
  have hr1b : 0 ≤ r1 ∧ r1 < 4194304000 := by have := hr1.out; have := hp1.out; have := hq1.out; have := hUb.out; omega
  have o9 : IntKind.u64.wrap (U - p1) = r1 := by rw [← hr1.out, wrap_in _ (by omega) (by omega)]
  obtain ⟨m1, o10⟩ : ∃ m1, IntKind.u64.wrap (4294967296 * r1) = m1 := ⟨_, rfl⟩
  obtain ⟨s1, o11⟩ : ∃ s1, IntKind.u64.wrap (m1 + Z) = s1 := ⟨_, rfl⟩
  have hs1 := (wrap_ge (m1 + Z)).1
  rw [o11] at hs1
  obtain ⟨a1, o12⟩ : ∃ a, IntKind.u64.wrap (U * 4294967296) = a := ⟨_, rfl⟩
  obtain ⟨a2, o13⟩ : ∃ a, IntKind.u64.wrap (a1 + Z) = a := ⟨_, rfl⟩
  obtain ⟨a3, o14⟩ : ∃ a, IntKind.u64.wrap (q1 * 18014398509481984000) = a := ⟨_, rfl⟩
  obtain ⟨D, hD⟩ : ∃ D, Hid (D = r1 * 4294967296 + Z) := ⟨_, rfl⟩
  have hDb : Hid (0 ≤ D ∧ D < 18014398509481984000) := by have := hD.out; have := hVZ.out; exact ⟨by omega, by omega⟩
  have o15 : IntKind.u64.wrap (a2 - a3) = D := by
    have e1 := o12; have e2 := o13; have e3 := o14
    rw [IntKind.wrap_u64] at e1 e2 e3 ⊢
    have := hD.out; have := hr1.out; have := hp1.out; have := hDb.out
    omega
  obtain ⟨q0, hq0⟩ : ∃ q0, Hid (q0 = D / 4194304000) := ⟨_, rfl⟩
  have hq0b : 0 ≤ q0 ∧ q0 < 4294967296 := by have := hq0.out; have := hDb.out; omega
  have o16 : IntKind.u64.wrap (D.tdiv 4194304000) = q0 := by
    have := hDb.out
    rw [Int.tdiv_eq_ediv_of_nonneg (by omega), ← hq0.out, wrap_in _ (by omega) (by omega)]
  obtain ⟨p0, o17⟩ : ∃ a, IntKind.u64.wrap (q0 * 4194304000) = a := ⟨_, rfl⟩
  obtain ⟨r0, o18⟩ : ∃ a, IntKind.u64.wrap (D - p0) = a := ⟨_, rfl⟩
  obtain ⟨m0, o19⟩ : ∃ a, IntKind.u64.wrap (4294967296 * r0) = a := ⟨_, rfl⟩
  obtain ⟨s0, o20⟩ : ∃ a, IntKind.u64.wrap (m0 + V) = a := ⟨_, rfl⟩
  have hs0 := (wrap_ge (m0 + V)).1
  rw [o20] at hs0
  obtain ⟨b1, hb1⟩ : ∃ b, Hid (b = q1 * 4294967296) := ⟨_, rfl⟩
  have o21 : IntKind.u64.wrap (q1 * 4294967296) = b1 := by rw [hb1.out, wrap_in _ (by omega) (by omega)]
  have o22 : IntKind.u64.wrap (b1 + q0) = b1 + q0 := by have := hb1.out; rw [wrap_in _ (by omega) (by omega)]
  have n1 : ¬ (4294967296 : Int) ≤ q1 := by omega
  have n0 : ¬ (4294967296 : Int) ≤ q0 := by omega
  have n2 : ¬ s1 < 0 := by omega
  have n3 : ¬ s0 < 0 := by omega
  clear hX o5
  go_enter Tryz.func117, Tryz.ntmps117
  go_wp2_with (first | (go_at_call 136; refine (lz1000 _).mono ?_; rintro e w1 ⟨rfl, hw⟩; subst w1))
  refine wp_loop_rounds 1 ?_
  rw [rounds_succ]
  go_wp2
  refine wp_loop_rounds 1 ?_
  rw [rounds_succ]
  go_wp2
  go_ret2
  exact ⟨_, _, rfl, by have := hb1.out; have := hq1c.out; omega, by have := hb1.out; omega, rfl⟩
set_option maxRecDepth 100000 in
theorem div64_0 (L y : Nat) (hL : L < 18446744073709551616) (hy : 1 ≤ y) (hy2 : y < 18446744073709551616) (w : World) : Calls Tryz.prog 117 #[.int .u64 0, .int .u64 L, .int .u64 y] w fun e w' => ∃ r : Int, e = .returned (.tuple #[.int .u64 ((L / y : Nat) : Int), .int .u64 r]) ∧ Below w.heap.size w w' := by
  have g1 : ((y : Int) == 0) = false := by simp; omega
  have g2 : ¬ (y : Int) ≤ 0 := by omega
  have o1 : IntKind.u64.wrap ((L : Int).tdiv (y : Int)) = ((L / y : Nat) : Int) := by
    have h3 : L / y ≤ L := Nat.div_le_self _ _
    rw [Int.tdiv_eq_ediv_of_nonneg (by omega), ← Int.natCast_ediv]
    generalize L / y = q at *
    rw [wrap_in _ (by omega) (by omega)]
  have o1b : IntKind.u64.wrap ((L : Int) / (y : Int)) = ((L / y : Nat) : Int) := by rw [← o1, Int.tdiv_eq_ediv_of_nonneg (by omega)]
  obtain ⟨r, o2⟩ : ∃ r, IntKind.u64.wrap ((L : Int).tmod (y : Int)) = r := ⟨_, rfl⟩
  obtain ⟨q, hq⟩ : ∃ q, Hid (q = ((L / y : Nat) : Int)) := ⟨_, rfl⟩
  rw [← hq.out] at o1 o1b ⊢
  clear o1
  go_enter Tryz.func117, Tryz.ntmps117
  go_wp2
  go_region
  all_goals
    go_wp2
    go_ret2
    exact ⟨_, rfl, (Below.refl _ _).drew⟩
/-- What divided tells: the quotient, or just beyond all numbers. -/
def divN (n over : Nat) : Int := min ((n / over : Nat) : Int) 1000000000000001
set_option maxRecDepth 100000 in
set_option maxHeartbeats 1000000 in
theorem divided_any (n over : Nat) (hn : n < 18446744073709551616 * 18446744073709551616) (ho : 1 ≤ over) (ho2 : over < 18446744073709551616) (hsm : n < 18446744073709551616 ∨ over = 1000) (w : World) :
    Calls Tryz.prog 100 #[.int .u64 ((n / 18446744073709551616 : Nat) : Int), .int .u64 ((n % 18446744073709551616 : Nat) : Int), .int .u64 over] w fun e w' => e = .returned (.int .i64 (divN n over)) ∧ Below w.heap.size w w' := by
  by_cases h1 : n < 18446744073709551616
  · have e1 : n / 18446744073709551616 = 0 := Nat.div_eq_of_lt h1
    have e2 : n % 18446744073709551616 = n := Nat.mod_eq_of_lt h1
    rw [e1, e2]
    have hd := fun W => div64_0 n over h1 ho ho2 W
    have h3 : n / over ≤ n := Nat.div_le_self _ _
    unfold divN
    generalize n / over = q at *
    have hg : ¬ (over : Int) ≤ 0 := by omega
    clear e1 e2
    go_enter Tryz.func100, Tryz.ntmps100
    go_wp2_with (first | (go_at_call 117; refine (hd _).mono ?_; rintro e w2 ⟨r, rfl, hb2⟩))
    all_goals
      go_ret
      refine ⟨ret_int ?_, hb2⟩
      omega
  · obtain rfl : over = 1000 := hsm.resolve_left h1
    have hH : n / 18446744073709551616 < 18446744073709551616 := Nat.div_lt_of_lt_mul hn
    have hH1 : 1 ≤ n / 18446744073709551616 := by omega
    have hq : divN n 1000 = 1000000000000001 := by unfold divN; omega
    rw [hq]
    have hL : n % 18446744073709551616 < 18446744073709551616 := Nat.mod_lt _ (by omega)
    generalize n / 18446744073709551616 = H at *
    generalize n % 18446744073709551616 = L at *
    clear hn hsm h1 hq
    by_cases hh : H < 1000
    · have hd := fun W => div64_k H L hH1 hh hL W
      have hg : ¬ (1000 : Int) ≤ (H : Int) := by omega
      go_enter Tryz.func100, Tryz.ntmps100
      go_wp2_with (first | (go_at_call 117; refine (hd _).mono ?_; rintro e w2 ⟨q, r, rfl, hq1, hq2, hw⟩; subst w2))
      all_goals
        go_ret
        refine ⟨ret_int ?_, Below.refl _ _⟩
        omega
    · have hg : (1000 : Int) ≤ (H : Int) := by omega
      go_enter Tryz.func100, Tryz.ntmps100
      go_wp2
      go_ret
      exact ⟨rfl, Below.refl _ _⟩
end Go.Proofs.YtfbiaffdfolbgaaGreatDoor
