/- Vf; Vg; Vh. -/
import Derived.Test.YtaffplmfnincfaaGreatDoorVdVe
import Derived.Test.YtaffplmfnincfaaGreatDoorShelf
import Derived.Laws.MathBits
import Derived.Laws.Bits64b
import Derived.LoopN
/- The contract of bits.Div64: of a number of one word, and of one of two words by 1000. -/
namespace Go.Proofs.YtaffplmfnincfaaGreatDoor
set_option linter.unusedVariables false
open Go.RowKit
theorem lz1000 (w : World) : Calls Tryz.prog 280 #[.int .u64 1000] w fun e w' => e = .returned (.int .i64 54) ∧ w' = w := by
  have h := Tryz.bits_LeadingZeros64 1000 w (by decide) (by decide)
  have e : (64 - (Lib.bitLen (1000 : Int).toNat : Int)) = 54 := by decide
  rw [e] at h
  exact h
/-- The bits of a number whose lower ones are 0, and those of one that has only lower ones. -/
theorem or_low (H L : Nat) (h2 : H < 1000) (hL : L < 18446744073709551616) : bits .or .u64 ((H : Int) * 18014398509481984) ((L : Int) / 1024) = (H : Int) * 18014398509481984 + (L : Int) / 1024 := by
  have e1 : (H : Int) * 18014398509481984 = ((H * 18014398509481984 : Nat) : Int) := by omega
  have e2 : (L : Int) / 1024 = ((L / 1024 : Nat) : Int) := by omega
  rw [e1, e2, bits_or_u64_nat _ _ (by omega) (by omega)]
  have h := Nat.two_pow_add_eq_or_of_lt (i := 54) (b := L / 1024) (by omega) H
  have e3 : 2 ^ 54 * H = H * 18014398509481984 := by rw [Nat.mul_comm]
  rw [e3] at h
  rw [← h]
  omega
theorem and_hi : bits .and .u64 18014398509481984000 4294967295 = 0 := by
  rw [and_low32 _ (by decide) (by decide)]; decide
theorem wrap_in (x : Int) (h0 : 0 ≤ x) (h1 : x < 18446744073709551616) : IntKind.u64.wrap x = x := by rw [IntKind.wrap_u64]; omega
theorem wrap_ge (x : Int) : 0 ≤ IntKind.u64.wrap x ∧ IntKind.u64.wrap x < 18446744073709551616 := by rw [IntKind.wrap_u64]; omega
set_option maxRecDepth 100000 in
set_option maxHeartbeats 4000000 in
theorem div64_k (H L : Nat) (h1 : 1 ≤ H) (h2 : H < 1000) (hL : L < 18446744073709551616) (w : World) : Calls Tryz.prog 278 #[.int .u64 H, .int .u64 L, .int .u64 1000] w fun e w' => ∃ q r : Int, e = .returned (.tuple #[.int .u64 q, .int .u64 r]) ∧ 1000000000000001 ≤ q ∧ q < 18446744073709551616 ∧ w' = w := by
  have g1 : ((H : Int) == 0) = false := by simp; omega
  have o1 := or_low H L h2 hL
  have o2 := and_hi
  obtain ⟨U, hU⟩ : ∃ U, Hid (U = (H : Int) * 18014398509481984 + (L : Int) / 1024) := ⟨_, rfl⟩
  rw [← hU.out] at o1
  have hUb : Hid (18014398509481984 ≤ U ∧ U < 18014398509481984000) := by have := hU.out; exact ⟨by omega, by omega⟩
  obtain ⟨X, o3⟩ : ∃ X, IntKind.u64.wrap ((L : Int) * 18014398509481984) = X := ⟨_, rfl⟩
  have hX := wrap_ge ((L : Int) * 18014398509481984)
  rw [o3] at hX
  have o4 := and_low32 X hX.1 hX.2
  obtain ⟨V, o5⟩ : ∃ V, X % 4294967296 = V := ⟨_, rfl⟩
  obtain ⟨Z, o6⟩ : ∃ Z, X / 4294967296 = Z := ⟨_, rfl⟩
  rw [o5] at o4
  have hVZ : Hid (0 ≤ V ∧ V < 4294967296 ∧ 0 ≤ Z ∧ Z < 4294967296) := ⟨by omega, by omega, by omega, by omega⟩
  obtain ⟨q1, hq1⟩ : ∃ q1, Hid (q1 = U / 4194304000) := ⟨_, rfl⟩
  have hq1b : 0 ≤ q1 ∧ q1 < 4294967296 := by have := hq1.out; have := hUb.out; omega
  have hq1c : Hid (4294967 ≤ q1) := by have := hq1.out; have := hUb.out; exact (by omega : 4294967 ≤ q1)
  have o7 : IntKind.u64.wrap (U.tdiv 4194304000) = q1 := by
    have := hUb.out
    rw [Int.tdiv_eq_ediv_of_nonneg (by omega), ← hq1.out, wrap_in _ (by omega) (by omega)]
  obtain ⟨p1, hp1⟩ : ∃ p1, Hid (p1 = q1 * 4194304000) := ⟨_, rfl⟩
  have o8 : IntKind.u64.wrap (q1 * 4194304000) = p1 := by rw [hp1.out, wrap_in _ (by omega) (by omega)]
  obtain ⟨r1, hr1⟩ : ∃ r1, Hid (r1 = U - p1) := ⟨_, rfl⟩
  have hr1b : 0 ≤ r1 ∧ r1 < 4194304000 := by have := hr1.out; have := hp1.out; have := hq1.out; have := hUb.out; omega
  have o9 : IntKind.u64.wrap (U - p1) = r1 := by rw [← hr1.out, wrap_in _ (by omega) (by omega)]
  obtain ⟨m1, o10⟩ : ∃ m1, IntKind.u64.wrap (4294967296 * r1) = m1 := ⟨_, rfl⟩
  obtain ⟨s1, o11⟩ : ∃ s1, IntKind.u64.wrap (m1 + Z) = s1 := ⟨_, rfl⟩
  have hs1 := (wrap_ge (m1 + Z)).1
  rw [o11] at hs1
  obtain ⟨a1, o12⟩ : ∃ a, IntKind.u64.wrap (U * 4294967296) = a := ⟨_, rfl⟩
  obtain ⟨a2, o13⟩ : ∃ a, IntKind.u64.wrap (a1 + Z) = a := ⟨_, rfl⟩
  obtain ⟨a3, o14⟩ : ∃ a, IntKind.u64.wrap (q1 * 18014398509481984000) = a := ⟨_, rfl⟩
  obtain ⟨D, hD⟩ : ∃ D, Hid (D = r1 * 4294967296 + Z) := ⟨_, rfl⟩
  have hDb : Hid (0 ≤ D ∧ D < 18014398509481984000) := by have := hD.out; have := hVZ.out; exact ⟨by omega, by omega⟩
  have o15 : IntKind.u64.wrap (a2 - a3) = D := by
    have e1 := o12; have e2 := o13; have e3 := o14
    rw [IntKind.wrap_u64] at e1 e2 e3 ⊢
    have := hD.out; have := hr1.out; have := hp1.out; have := hDb.out
    omega
  obtain ⟨q0, hq0⟩ : ∃ q0, Hid (q0 = D / 4194304000) := ⟨_, rfl⟩
  have hq0b : 0 ≤ q0 ∧ q0 < 4294967296 := by have := hq0.out; have := hDb.out; omega
  have o16 : IntKind.u64.wrap (D.tdiv 4194304000) = q0 := by
    have := hDb.out
    rw [Int.tdiv_eq_ediv_of_nonneg (by omega), ← hq0.out, wrap_in _ (by omega) (by omega)]
  obtain ⟨p0, o17⟩ : ∃ a, IntKind.u64.wrap (q0 * 4194304000) = a := ⟨_, rfl⟩
  obtain ⟨r0, o18⟩ : ∃ a, IntKind.u64.wrap (D - p0) = a := ⟨_, rfl⟩
  obtain ⟨m0, o19⟩ : ∃ a, IntKind.u64.wrap (4294967296 * r0) = a := ⟨_, rfl⟩
  obtain ⟨s0, o20⟩ : ∃ a, IntKind.u64.wrap (m0 + V) = a := ⟨_, rfl⟩
  have hs0 := (wrap_ge (m0 + V)).1
  rw [o20] at hs0
  obtain ⟨b1, hb1⟩ : ∃ b, Hid (b = q1 * 4294967296) := ⟨_, rfl⟩
  have o21 : IntKind.u64.wrap (q1 * 4294967296) = b1 := by rw [hb1.out, wrap_in _ (by omega) (by omega)]
  have o22 : IntKind.u64.wrap (b1 + q0) = b1 + q0 := by have := hb1.out; rw [wrap_in _ (by omega) (by omega)]
  have n1 : ¬ (4294967296 : Int) ≤ q1 := by omega
  have n0 : ¬ (4294967296 : Int) ≤ q0 := by omega
  have n2 : ¬ s1 < 0 := by omega
  have n3 : ¬ s0 < 0 := by omega
  clear hX o5
  go_enter Tryz.func278, Tryz.ntmps278
  go_wp2_with (first | (go_at_call 280; refine (lz1000 _).mono ?_; rintro e w1 ⟨rfl, hw⟩; subst w1))
  refine wp_loop_rounds 1 ?_
  rw [rounds_succ]
  go_wp2
  refine wp_loop_rounds 1 ?_
  rw [rounds_succ]
  go_wp2
  go_ret2
  exact ⟨_, _, rfl, by have := hb1.out; have := hq1c.out; omega, by have := hb1.out; omega, rfl⟩
set_option maxRecDepth 100000 in
theorem div64_0 (L y : Nat) (hL : L < 18446744073709551616) (hy : 1 ≤ y) (hy2 : y < 18446744073709551616) (w : World) : Calls Tryz.prog 278 #[.int .u64 0, .int .u64 L, .int .u64 y] w fun e w' => ∃ r : Int, e = .returned (.tuple #[.int .u64 ((L / y : Nat) : Int), .int .u64 r]) ∧ Below w.heap.size w w' := by
  have g1 : ((y : Int) == 0) = false := by simp; omega
  have g2 : ¬ (y : Int) ≤ 0 := by omega
  have o1 : IntKind.u64.wrap ((L : Int).tdiv (y : Int)) = ((L / y : Nat) : Int) := by
    have h3 : L / y ≤ L := Nat.div_le_self _ _
    rw [Int.tdiv_eq_ediv_of_nonneg (by omega), ← Int.natCast_ediv]
    generalize L / y = q at *
    rw [wrap_in _ (by omega) (by omega)]
  have o1b : IntKind.u64.wrap ((L : Int) / (y : Int)) = ((L / y : Nat) : Int) := by rw [← o1, Int.tdiv_eq_ediv_of_nonneg (by omega)]
  obtain ⟨r, o2⟩ : ∃ r, IntKind.u64.wrap ((L : Int).tmod (y : Int)) = r := ⟨_, rfl⟩
  obtain ⟨q, hq⟩ : ∃ q, Hid (q = ((L / y : Nat) : Int)) := ⟨_, rfl⟩
  rw [← hq.out] at o1 o1b ⊢
  clear o1
  go_enter Tryz.func278, Tryz.ntmps278
  go_wp2
  go_region
  all_goals
    go_wp2
    go_ret2
    exact ⟨_, rfl, (Below.refl _ _).drew⟩
/-- What divided tells: the quotient, or just beyond all numbers. -/
def divN (n over : Nat) : Int := min ((n / over : Nat) : Int) 1000000000000001
set_option maxRecDepth 100000 in
set_option maxHeartbeats 1000000 in
theorem divided_any (n over : Nat) (hn : n < 18446744073709551616 * 18446744073709551616) (ho : 1 ≤ over) (ho2 : over < 18446744073709551616) (hsm : n < 18446744073709551616 ∨ over = 1000) (w : World) :
    Calls Tryz.prog 271 #[.int .u64 ((n / 18446744073709551616 : Nat) : Int), .int .u64 ((n % 18446744073709551616 : Nat) : Int), .int .u64 over] w fun e w' => e = .returned (.int .i64 (divN n over)) ∧ Below w.heap.size w w' := by
  by_cases h1 : n < 18446744073709551616
  · have e1 : n / 18446744073709551616 = 0 := Nat.div_eq_of_lt h1
    have e2 : n % 18446744073709551616 = n := Nat.mod_eq_of_lt h1
    rw [e1, e2]
    have hd := fun W => div64_0 n over h1 ho ho2 W
    have h3 : n / over ≤ n := Nat.div_le_self _ _
    unfold divN
    generalize n / over = q at *
    have hg : ¬ (over : Int) ≤ 0 := by omega
    clear e1 e2
    go_enter Tryz.func271, Tryz.ntmps271
    go_wp2_with (first | (go_at_call 278; refine (hd _).mono ?_; rintro e w2 ⟨r, rfl, hb2⟩))
    all_goals
      go_ret
      refine ⟨ret_int ?_, hb2⟩
      omega
  · obtain rfl : over = 1000 := hsm.resolve_left h1
    have hH : n / 18446744073709551616 < 18446744073709551616 := Nat.div_lt_of_lt_mul hn
    have hH1 : 1 ≤ n / 18446744073709551616 := by omega
    have hq : divN n 1000 = 1000000000000001 := by unfold divN; omega
    rw [hq]
    have hL : n % 18446744073709551616 < 18446744073709551616 := Nat.mod_lt _ (by omega)
    generalize n / 18446744073709551616 = H at *
    generalize n % 18446744073709551616 = L at *
    clear hn hsm h1 hq
    by_cases hh : H < 1000
    · have hd := fun W => div64_k H L hH1 hh hL W
      have hg : ¬ (1000 : Int) ≤ (H : Int) := by omega
      go_enter Tryz.func271, Tryz.ntmps271
      go_wp2_with (first | (go_at_call 278; refine (hd _).mono ?_; rintro e w2 ⟨q, r, rfl, hq1, hq2, hw⟩; subst w2))
      all_goals
        go_ret
        refine ⟨ret_int ?_, Below.refl _ _⟩
        omega
    · have hg : (1000 : Int) ≤ (H : Int) := by omega
      go_enter Tryz.func271, Tryz.ntmps271
      go_wp2
      go_ret
      exact ⟨rfl, Below.refl _ _⟩
end Go.Proofs.YtaffplmfnincfaaGreatDoor
/- Values: the contracts of scaled, product, quotient. -/
namespace Go.Proofs.YtaffplmfnincfaaGreatDoor
set_option linter.unusedVariables false
open Go.RowKit
attribute [local go_sem ↓] Go.wp_at_zero Go.wp_at_succ
theorem num_divN (x o : Nat) : num (divN x o) = num ((x / o : Nat) : Int) ∧ num (-divN x o) = num (-((x / o : Nat) : Int)) := by
  unfold divN
  generalize x / o = q
  by_cases h : (q : Int) ≤ 1000000000000000
  · have e : min (q : Int) 1000000000000001 = q := by omega
    rw [e]; exact ⟨rfl, rfl⟩
  · have e : min (q : Int) 1000000000000001 = 1000000000000001 := by omega
    rw [e]
    refine ⟨?_, ?_⟩
    · rw [num, if_pos (by omega), num, if_pos (by omega)]
    · rw [num, if_neg (by omega), if_pos (by omega), num, if_neg (by omega), if_pos (by omega)]
/-- The sign of a product by a divisor. -/
def sgnX (n by' over : Int) : Bool := !((!(decide (n < 0) == decide (by' < 0))) == decide (over < 0))
theorem abs_form (n : Int) : (n < 0 ∧ n = -(n.natAbs : Int)) ∨ (¬ n < 0 ∧ n = (n.natAbs : Int)) := by
  by_cases h : n < 0
  · exact .inl ⟨h, by omega⟩
  · exact .inr ⟨h, by omega⟩
theorem scaled_num (n by' over : Int) : num (if sgnX n by' over then -divN (n.natAbs * by'.natAbs) over.natAbs else divN (n.natAbs * by'.natAbs) over.natAbs) = num (Int.tdiv (n * by') over) := by
  obtain ⟨d1, d2⟩ := num_divN (n.natAbs * by'.natAbs) over.natAbs
  have key : Int.tdiv ((n.natAbs : Int) * (by'.natAbs : Int)) (over.natAbs : Int) = ((n.natAbs * by'.natAbs / over.natAbs : Nat) : Int) := by
    rw [← Int.natCast_mul]; rfl
  rcases abs_form n with ⟨h1, e1⟩ | ⟨h1, e1⟩ <;> rcases abs_form by' with ⟨h2, e2⟩ | ⟨h2, e2⟩ <;> rcases abs_form over with ⟨h3, e3⟩ | ⟨h3, e3⟩ <;>
    simp only [sgnX, h1, h2, h3, decide_true, decide_false]
  all_goals
    first | refine Eq.trans (show _ = num (divN _ _) from rfl) ?_ | refine Eq.trans (show _ = num (-divN _ _) from rfl) ?_
    first | rw [d1] | rw [d2]
    congr 1
    conv => rhs; rw [e1, e2, e3]
    simp only [Int.neg_mul, Int.mul_neg, Int.neg_neg, Int.tdiv_neg, Int.neg_tdiv, key]
/-- A number's size. -/
def szI (n : Int) : Int := (n.natAbs : Int)
theorem size_b (n : Int) (w : World) (h1 : -1000000000000000 ≤ n) (h2 : n ≤ 1000000000000000) : Calls Tryz.prog 196 #[.int .i64 n] w fun e w' => e = .returned (.int .u64 (szI n)) ∧ Below w.heap.size w w' :=
  (size_any n w h1 h2).mono fun e w' ⟨h, hw⟩ => ⟨h, by rw [hw]; exact Below.refl _ _⟩
set_option maxRecDepth 100000 in
set_option maxHeartbeats 1000000 in
theorem scaled_any (n by' over : Int) (hn : -1000000000000000 ≤ n ∧ n ≤ 1000000000000000) (hb : -1000000000000000 ≤ by' ∧ by' ≤ 1000000000000000) (ho : -1000000000000000 ≤ over ∧ over ≤ 1000000000000000) (ho0 : over ≠ 0)
    (hsm : by' = 1000 ∨ over = 1000) (w : World) : Calls Tryz.prog 256 #[.int .i64 n, .int .i64 by', .int .i64 over] w fun e w' => e = .returned (vlV (num (Int.tdiv (n * by') over))) ∧ Below w.heap.size w w' := by
  rw [← scaled_num n by' over]
  have hr := vlNew w zer
  have hB : Below (w.alloc (vlO zer)).heap.size (w.alloc (vlO zer)) (w.alloc (vlO zer)) := Below.refl _ _
  have bn : n.natAbs ≤ 1000000000000000 := by omega
  have bb : by'.natAbs ≤ 1000000000000000 := by omega
  have bo : over.natAbs ≤ 1000000000000000 ∧ 1 ≤ over.natAbs := by omega
  have hm := fun W => (Tryz.bits_Mul64 n.natAbs by'.natAbs (by omega) (by omega) W).mono fun e w' (h : e = .returned (.tuple #[.int .u64 ((n.natAbs * by'.natAbs / 18446744073709551616 : Nat) : Int), .int .u64 ((n.natAbs * by'.natAbs % 18446744073709551616 : Nat) : Int)]) ∧ w' = W) => (⟨h.1, by rw [h.2]; exact Below.refl _ _⟩ : e = .returned (.tuple #[.int .u64 ((n.natAbs * by'.natAbs / 18446744073709551616 : Nat) : Int), .int .u64 ((n.natAbs * by'.natAbs % 18446744073709551616 : Nat) : Int)]) ∧ Below W.heap.size W w')
  have hp : n.natAbs * by'.natAbs ≤ 1000000000000000 * 1000000000000000 := Nat.mul_le_mul bn bb
  have hd := fun W => divided_any (n.natAbs * by'.natAbs) over.natAbs (by omega) bo.2 (by omega) (by
    rcases hsm with rfl | rfl
    · left
      have : n.natAbs * (1000 : Int).natAbs ≤ 1000000000000000 * 1000 := Nat.mul_le_mul bn (by decide)
      omega
    · exact .inr rfl) W
  have hm1 : -1000000000000001 ≤ divN (n.natAbs * by'.natAbs) over.natAbs ∧ divN (n.natAbs * by'.natAbs) over.natAbs ≤ 1000000000000001 := by unfold divN; generalize n.natAbs * by'.natAbs / over.natAbs = q; omega
  obtain ⟨hi, ehi⟩ : ∃ x, Hid (x = ((n.natAbs * by'.natAbs / 18446744073709551616 : Nat) : Int)) := ⟨_, rfl⟩
  obtain ⟨lo, elo⟩ : ∃ x, Hid (x = ((n.natAbs * by'.natAbs % 18446744073709551616 : Nat) : Int)) := ⟨_, rfl⟩
  rw [← ehi.out, ← elo.out] at hm hd
  generalize divN (n.natAbs * by'.natAbs) over.natAbs = m at *
  have eA : (n.natAbs : Int) = szI n := rfl
  have eB : (by'.natAbs : Int) = szI by' := rfl
  have eC : (over.natAbs : Int) = szI over := rfl
  rw [eA, eB] at hm
  rw [eC] at hd
  clear hp bn bb bo hsm ehi elo ho0 eA eB eC
  cases hx : sgnX n by' over
  · rw [if_neg (by simp)]
    unfold sgnX at hx
    unfold vlV
    go_enter Tryz.func256, Tryz.ntmps256
    go_wp2_with (first | (go_at_call 196; refine (size_b _ _ (by omega) (by omega)).mono ?_; rintro e w2 ⟨rfl, hb2⟩; replace hB := hB.trans (hb2.mono hB.size); obtain ⟨r0, r1⟩ := (hr.grow hB).cells; obtain ⟨rf0, rf1⟩ := (hr.grow hB).frozen) | (go_at_call 270; refine (hm _).mono ?_; rintro e w2 ⟨rfl, hb2⟩; replace hB := hB.trans (hb2.mono hB.size); obtain ⟨r0, r1⟩ := (hr.grow hB).cells; obtain ⟨rf0, rf1⟩ := (hr.grow hB).frozen) | (go_at_call 271; refine (hd _).mono ?_; rintro e w2 ⟨rfl, hb2⟩; replace hB := hB.trans (hb2.mono hB.size); obtain ⟨r0, r1⟩ := (hr.grow hB).cells; obtain ⟨rf0, rf1⟩ := (hr.grow hB).frozen) | (go_at_call 155; refine (num_any _ _).mono ?_; rintro e w2 ⟨rfl, hb2⟩; replace hB := hB.trans (hb2.mono hB.size); obtain ⟨r0, r1⟩ := (hr.grow hB).cells; obtain ⟨rf0, rf1⟩ := (hr.grow hB).frozen; unfold vlV))
    exact end_set (v := num m) Tryz.results256 rfl (Nat.le_refl _) (bW0 w _) hB hr
  · rw [if_pos rfl]
    unfold sgnX at hx
    unfold vlV
    go_enter Tryz.func256, Tryz.ntmps256
    go_wp2_with (first | (go_at_call 196; refine (size_b _ _ (by omega) (by omega)).mono ?_; rintro e w2 ⟨rfl, hb2⟩; replace hB := hB.trans (hb2.mono hB.size); obtain ⟨r0, r1⟩ := (hr.grow hB).cells; obtain ⟨rf0, rf1⟩ := (hr.grow hB).frozen) | (go_at_call 270; refine (hm _).mono ?_; rintro e w2 ⟨rfl, hb2⟩; replace hB := hB.trans (hb2.mono hB.size); obtain ⟨r0, r1⟩ := (hr.grow hB).cells; obtain ⟨rf0, rf1⟩ := (hr.grow hB).frozen) | (go_at_call 271; refine (hd _).mono ?_; rintro e w2 ⟨rfl, hb2⟩; replace hB := hB.trans (hb2.mono hB.size); obtain ⟨r0, r1⟩ := (hr.grow hB).cells; obtain ⟨rf0, rf1⟩ := (hr.grow hB).frozen) | (go_at_call 155; refine (num_any _ _).mono ?_; rintro e w2 ⟨rfl, hb2⟩; replace hB := hB.trans (hb2.mono hB.size); obtain ⟨r0, r1⟩ := (hr.grow hB).cells; obtain ⟨rf0, rf1⟩ := (hr.grow hB).frozen; unfold vlV))
    exact end_set (v := num (-m)) Tryz.results256 rfl (Nat.le_refl _) (bW0 w _) hB hr
end Go.Proofs.YtaffplmfnincfaaGreatDoor
/- Values: the contracts of product, quotient. -/
namespace Go.Proofs.YtaffplmfnincfaaGreatDoor
set_option linter.unusedVariables false
open Go.RowKit
attribute [local go_sem ↓] Go.wp_at_zero Go.wp_at_succ
theorem cset {w : World} {x y o : Nat} {a b u : Value} (h : w.cell? ⟨y, o, none⟩ = some u) (hn : y ≠ x) : ((w.setCell ⟨x, 0, none⟩ a).setCell ⟨x, 1, none⟩ b).cell? ⟨y, o, none⟩ = some u := by
  rw [World.cell?_setCell_other _ _ _ _ (fun e => hn (congrArg Addr.block e).symm), World.cell?_setCell_other _ _ _ _ (fun e => hn (congrArg Addr.block e).symm)]; exact h
theorem sgB_in (v : Vl) : sgB v = 1 ∨ sgB v = -1 ∨ sgB v = 0 := by
  unfold sgB
  split
  · exact .inl rfl
  · split
    · exact .inr (.inl rfl)
    · split
      · exact .inr (.inl rfl)
      · split
        · exact .inl rfl
        · exact .inr (.inr rfl)
theorem mul_in {a b : Int} (ha : a = 1 ∨ a = -1 ∨ a = 0) (hb : b = 1 ∨ b = -1 ∨ b = 0) : a * b = 1 ∨ a * b = -1 ∨ a * b = 0 := by
  rcases ha with rfl | rfl | rfl <;> rcases hb with rfl | rfl | rfl <;> decide
set_option maxRecDepth 100000 in
set_option maxHeartbeats 2000000 in
theorem product_any (a b : Vl) (hva : IsV a) (hvb : IsV b) (w : World) : Calls Tryz.prog 224 #[vlV a, vlV b] w fun e w' => e = .returned (vlV (mul a b)) ∧ Below w.heap.size w w' := by
  obtain ⟨ha, hb, hr⟩ := pW2 w a b
  have hB : Below (W2 w a b).heap.size (W2 w a b) (W2 w a b) := Below.refl _ _
  have hia := fun W => isNum_b a W
  have hib := fun W => isNum_b b W
  by_cases hk : a.kind = 1 ∧ b.kind = 1
  · obtain ⟨ka, n⟩ := a
    obtain ⟨kb, m⟩ := b
    simp only at hk
    obtain ⟨rfl, rfl⟩ := hk
    have hn : -1000000000000000 ≤ n ∧ n ≤ 1000000000000000 := by rcases hva with h | h <;> simp at h <;> omega
    have hm : -1000000000000000 ≤ m ∧ m ≤ 1000000000000000 := by rcases hvb with h | h <;> simp at h <;> omega
    have hs := fun W => scaled_any n m 1000 hn hm (by decide) (by decide) (.inr rfl) W
    have e : mul ⟨1, n⟩ ⟨1, m⟩ = num (Int.tdiv (n * m) 1000) := by simp [mul]
    rw [e]; clear e
    generalize num (Int.tdiv (n * m) 1000) = R at *
    clear hva hvb
    unfold vlV at *
    go_enter Tryz.func224, Tryz.ntmps224
    go_wp2_with (first | (go_at_call 251; with_reducible refine (hia _).mono ?_; rintro e w2 ⟨rfl, hb2⟩; replace hB := hB.trans (hb2.mono hB.size); obtain ⟨a0, a1⟩ := (ha.grow hB).cells; obtain ⟨b0, b1⟩ := (hb.grow hB).cells; obtain ⟨r0, r1⟩ := (hr.grow hB).cells; obtain ⟨rf0, rf1⟩ := (hr.grow hB).frozen) | (go_at_call 251; with_reducible refine (hib _).mono ?_; rintro e w2 ⟨rfl, hb2⟩; replace hB := hB.trans (hb2.mono hB.size); obtain ⟨a0, a1⟩ := (ha.grow hB).cells; obtain ⟨b0, b1⟩ := (hb.grow hB).cells; obtain ⟨r0, r1⟩ := (hr.grow hB).cells; obtain ⟨rf0, rf1⟩ := (hr.grow hB).frozen) | (go_at_call 256; refine (hs _).mono ?_; rintro e w2 ⟨rfl, hb2⟩; replace hB := hB.trans (hb2.mono hB.size); obtain ⟨a0, a1⟩ := (ha.grow hB).cells; obtain ⟨b0, b1⟩ := (hb.grow hB).cells; obtain ⟨r0, r1⟩ := (hr.grow hB).cells; obtain ⟨rf0, rf1⟩ := (hr.grow hB).frozen))
    exact end_set (v := R) Tryz.results224 rfl (by omega) (bW2 w _ _) hB hr
  · have e : mul a b = byd (sgB a * sgB b) := by rw [mul, if_neg hk, sgB_sgn hva.zn, sgB_sgn hvb.zn]
    rw [e]; clear e
    have hsa := fun W => sign_b a W
    have hsb := fun W => sign_b b W
    have hin := mul_in (sgB_in a) (sgB_in b)
    have hen := fun W => endless_any (sgB a * sgB b) W hin
    have hwr : IntKind.i64.wrap (sgB a * sgB b) = sgB a * sgB b := by rcases hin with h | h | h <;> rw [h] <;> rfl
    obtain ⟨SA, eA⟩ : ∃ x, Hid (x = sgB a) := ⟨_, rfl⟩
    obtain ⟨SB, eB⟩ : ∃ x, Hid (x = sgB b) := ⟨_, rfl⟩
    rw [← eA.out] at hsa hen hwr ⊢
    rw [← eB.out] at hsb hen hwr ⊢
    obtain ⟨P, eP⟩ : ∃ x, Hid (x = SA * SB) := ⟨_, rfl⟩
    rw [← eP.out] at hen ⊢
    replace hwr : IntKind.i64.wrap (SA * SB) = P := hwr.trans eP.out.symm
    clear hva hvb hin eA eB eP
    generalize byd P = R at *
    have hkb : ((a.kind == 1) && (b.kind == 1)) = false := by
      cases h1 : (a.kind == 1) <;> cases h2 : (b.kind == 1) <;> simp_all
    clear hk
    unfold vlV at *
    cases h1 : (a.kind == 1)
    · rw [h1] at hia
      clear hkb hib
      go_enter Tryz.func224, Tryz.ntmps224
      go_wp2_with (first | (go_at_call 251; refine (hia _).mono ?_; rintro e w2 ⟨rfl, hb2⟩; replace hB := hB.trans (hb2.mono hB.size); obtain ⟨a0, a1⟩ := (ha.grow hB).cells; obtain ⟨b0, b1⟩ := (hb.grow hB).cells; obtain ⟨r0, r1⟩ := (hr.grow hB).cells; obtain ⟨rf0, rf1⟩ := (hr.grow hB).frozen))
      replace hB := hB.drew
      obtain ⟨a0, a1⟩ := (ha.grow hB).cells
      obtain ⟨b0, b1⟩ := (hb.grow hB).cells
      obtain ⟨r0, r1⟩ := (hr.grow hB).cells
      obtain ⟨rf0, rf1⟩ := (hr.grow hB).frozen
      go_region_held3 (fun W => W.cell? ⟨w.heap.size, 0, none⟩ = some (.int .i64 a.kind) ∧ W.cell? ⟨w.heap.size, 1, none⟩ = some (.int .i64 a.n) ∧ W.cell? ⟨w.heap.size + 1, 0, none⟩ = some (.int .i64 b.kind) ∧ W.cell? ⟨w.heap.size + 1, 1, none⟩ = some (.int .i64 b.n)) (first | exact ⟨a0, a1, b0, b1⟩ | exact ⟨cset a0 (by omega), cset a1 (by omega), cset b0 (by omega), cset b1 (by omega)⟩) (first | (go_at_call 250; with_reducible refine (hsa _).mono ?_; rintro e w2 ⟨rfl, hb2⟩; replace hB := hB.trans (hb2.mono hB.size); obtain ⟨a0, a1⟩ := (ha.grow hB).cells; obtain ⟨b0, b1⟩ := (hb.grow hB).cells; obtain ⟨r0, r1⟩ := (hr.grow hB).cells; obtain ⟨rf0, rf1⟩ := (hr.grow hB).frozen) | (go_at_call 250; with_reducible refine (hsb _).mono ?_; rintro e w2 ⟨rfl, hb2⟩; replace hB := hB.trans (hb2.mono hB.size); obtain ⟨a0, a1⟩ := (ha.grow hB).cells; obtain ⟨b0, b1⟩ := (hb.grow hB).cells; obtain ⟨r0, r1⟩ := (hr.grow hB).cells; obtain ⟨rf0, rf1⟩ := (hr.grow hB).frozen) | (go_at_call 249; with_reducible refine (hen _).mono ?_; rintro e w2 ⟨rfl, hb2⟩; replace hB := hB.trans (hb2.mono hB.size); obtain ⟨a0, a1⟩ := (ha.grow hB).cells; obtain ⟨b0, b1⟩ := (hb.grow hB).cells; obtain ⟨r0, r1⟩ := (hr.grow hB).cells; obtain ⟨rf0, rf1⟩ := (hr.grow hB).frozen))
      all_goals
        go_wp2
        exact end_set (v := R) Tryz.results224 rfl (by omega) (bW2 w _ _) hB hr
    · rw [h1] at hia hkb
      replace hkb : (b.kind == 1) = false := by simpa using hkb
      rw [hkb] at hib
      go_enter Tryz.func224, Tryz.ntmps224
      go_wp2_with (first | (go_at_call 251; with_reducible refine (hia _).mono ?_; rintro e w2 ⟨rfl, hb2⟩; replace hB := hB.trans (hb2.mono hB.size); obtain ⟨a0, a1⟩ := (ha.grow hB).cells; obtain ⟨b0, b1⟩ := (hb.grow hB).cells; obtain ⟨r0, r1⟩ := (hr.grow hB).cells; obtain ⟨rf0, rf1⟩ := (hr.grow hB).frozen) | (go_at_call 251; with_reducible refine (hib _).mono ?_; rintro e w2 ⟨rfl, hb2⟩; replace hB := hB.trans (hb2.mono hB.size); obtain ⟨a0, a1⟩ := (ha.grow hB).cells; obtain ⟨b0, b1⟩ := (hb.grow hB).cells; obtain ⟨r0, r1⟩ := (hr.grow hB).cells; obtain ⟨rf0, rf1⟩ := (hr.grow hB).frozen))
      replace hB := hB.drew
      obtain ⟨a0, a1⟩ := (ha.grow hB).cells
      obtain ⟨b0, b1⟩ := (hb.grow hB).cells
      obtain ⟨r0, r1⟩ := (hr.grow hB).cells
      obtain ⟨rf0, rf1⟩ := (hr.grow hB).frozen
      go_region_held3 (fun W => W.cell? ⟨w.heap.size, 0, none⟩ = some (.int .i64 a.kind) ∧ W.cell? ⟨w.heap.size, 1, none⟩ = some (.int .i64 a.n) ∧ W.cell? ⟨w.heap.size + 1, 0, none⟩ = some (.int .i64 b.kind) ∧ W.cell? ⟨w.heap.size + 1, 1, none⟩ = some (.int .i64 b.n)) (first | exact ⟨a0, a1, b0, b1⟩ | exact ⟨cset a0 (by omega), cset a1 (by omega), cset b0 (by omega), cset b1 (by omega)⟩) (first | (go_at_call 250; with_reducible refine (hsa _).mono ?_; rintro e w2 ⟨rfl, hb2⟩; replace hB := hB.trans (hb2.mono hB.size); obtain ⟨a0, a1⟩ := (ha.grow hB).cells; obtain ⟨b0, b1⟩ := (hb.grow hB).cells; obtain ⟨r0, r1⟩ := (hr.grow hB).cells; obtain ⟨rf0, rf1⟩ := (hr.grow hB).frozen) | (go_at_call 250; with_reducible refine (hsb _).mono ?_; rintro e w2 ⟨rfl, hb2⟩; replace hB := hB.trans (hb2.mono hB.size); obtain ⟨a0, a1⟩ := (ha.grow hB).cells; obtain ⟨b0, b1⟩ := (hb.grow hB).cells; obtain ⟨r0, r1⟩ := (hr.grow hB).cells; obtain ⟨rf0, rf1⟩ := (hr.grow hB).frozen) | (go_at_call 249; with_reducible refine (hen _).mono ?_; rintro e w2 ⟨rfl, hb2⟩; replace hB := hB.trans (hb2.mono hB.size); obtain ⟨a0, a1⟩ := (ha.grow hB).cells; obtain ⟨b0, b1⟩ := (hb.grow hB).cells; obtain ⟨r0, r1⟩ := (hr.grow hB).cells; obtain ⟨rf0, rf1⟩ := (hr.grow hB).frozen))
      all_goals
        go_wp2
        exact end_set (v := R) Tryz.results224 rfl (by omega) (bW2 w _ _) hB hr
set_option maxRecDepth 100000 in
set_option maxHeartbeats 2000000 in
theorem quotient_any (a b : Vl) (hva : IsV a) (hvb : IsV b) (oa : Ordy a) (ob : Ordy b) (w : World) : Calls Tryz.prog 225 #[vlV a, vlV b] w fun e w' => e = .returned (vlV (dvd a b)) ∧ Below w.heap.size w w' := by
  obtain ⟨ha, hb, hr⟩ := pW2 w a b
  have hB : Below (W2 w a b).heap.size (W2 w a b) (W2 w a b).drew := (Below.refl _ _).drew
  have hia := fun W => isNum_b a W
  have hib := fun W => isNum_b b W
  have hn0 := fun W => num_any 0 W
  have e0 : num 0 = ⟨1, 0⟩ := rfl
  rw [e0] at hn0
  clear e0
  obtain ⟨a0, a1⟩ := (ha.grow hB).cells
  obtain ⟨b0, b1⟩ := (hb.grow hB).cells
  obtain ⟨r0, r1⟩ := (hr.grow hB).cells
  obtain ⟨rf0, rf1⟩ := (hr.grow hB).frozen
  by_cases h1 : a.kind = 1
  · obtain ⟨ka, n⟩ := a
    simp only at h1
    subst h1
    have hn : -1000000000000000 ≤ n ∧ n ≤ 1000000000000000 := by rcases hva with h | h <;> simp at h <;> omega
    by_cases h2 : b.kind = 1
    · obtain ⟨kb, m⟩ := b
      simp only at h2
      subst h2
      have hm : -1000000000000000 ≤ m ∧ m ≤ 1000000000000000 := by rcases hvb with h | h <;> simp at h <;> omega
      by_cases h3 : m = 0
      · subst h3
        have e : dvd ⟨1, n⟩ ⟨1, 0⟩ = byd (sgB ⟨1, n⟩) := by rw [sgB_sgn (.inl rfl)]; simp [dvd]
        rw [e]; clear e
        have hsa := fun W => sign_b ⟨1, n⟩ W
        have hen := fun W => endless_any (sgB ⟨1, n⟩) W (sgB_in _)
        generalize sgB ⟨1, n⟩ = S at *
        generalize byd S = R at *
        clear hva hvb oa ob hm hib
        unfold vlV at *
        go_enter Tryz.func225, Tryz.ntmps225
        go_wp2
        go_region_held3 (fun W => W.cell? ⟨w.heap.size, 0, none⟩ = some (.int .i64 1) ∧ W.cell? ⟨w.heap.size, 1, none⟩ = some (.int .i64 n) ∧ W.cell? ⟨w.heap.size + 1, 0, none⟩ = some (.int .i64 1) ∧ W.cell? ⟨w.heap.size + 1, 1, none⟩ = some (.int .i64 0)) (first | exact ⟨a0, a1, b0, b1⟩) (first | (go_at_call 251; with_reducible refine (hia _).mono ?_; rintro e w2 ⟨rfl, hb2⟩; replace hB := hB.trans (hb2.mono hB.size); obtain ⟨a0, a1⟩ := (ha.grow hB).cells; obtain ⟨b0, b1⟩ := (hb.grow hB).cells; obtain ⟨r0, r1⟩ := (hr.grow hB).cells; obtain ⟨rf0, rf1⟩ := (hr.grow hB).frozen) | (go_at_call 155; with_reducible refine (hn0 _).mono ?_; rintro e w2 ⟨rfl, hb2⟩; replace hB := hB.trans (hb2.mono hB.size); obtain ⟨a0, a1⟩ := (ha.grow hB).cells; obtain ⟨b0, b1⟩ := (hb.grow hB).cells; obtain ⟨r0, r1⟩ := (hr.grow hB).cells; obtain ⟨rf0, rf1⟩ := (hr.grow hB).frozen))
        all_goals
          go_wp2_with (first | (go_at_call 250; with_reducible refine (hsa _).mono ?_; rintro e w2 ⟨rfl, hb2⟩; replace hB := hB.trans (hb2.mono hB.size); obtain ⟨a0, a1⟩ := (ha.grow hB).cells; obtain ⟨b0, b1⟩ := (hb.grow hB).cells; obtain ⟨r0, r1⟩ := (hr.grow hB).cells; obtain ⟨rf0, rf1⟩ := (hr.grow hB).frozen) | (go_at_call 249; with_reducible refine (hen _).mono ?_; rintro e w2 ⟨rfl, hb2⟩; replace hB := hB.trans (hb2.mono hB.size); obtain ⟨a0, a1⟩ := (ha.grow hB).cells; obtain ⟨b0, b1⟩ := (hb.grow hB).cells; obtain ⟨r0, r1⟩ := (hr.grow hB).cells; obtain ⟨rf0, rf1⟩ := (hr.grow hB).frozen))
          exact end_set (v := R) Tryz.results225 rfl (by omega) (bW2 w _ _) hB hr
      · have e : dvd ⟨1, n⟩ ⟨1, m⟩ = num (Int.tdiv (n * 1000) m) := by simp [dvd, h3]
        rw [e]; clear e
        have hs := fun W => scaled_any n 1000 m hn (by decide) hm h3 (.inl rfl) W
        generalize num (Int.tdiv (n * 1000) m) = R at *
        have h3b : (m == 0) = false := by simpa using h3
        clear hva hvb oa ob
        unfold vlV at *
        go_enter Tryz.func225, Tryz.ntmps225
        go_wp2
        go_region_held3 (fun W => W.cell? ⟨w.heap.size, 0, none⟩ = some (.int .i64 1) ∧ W.cell? ⟨w.heap.size, 1, none⟩ = some (.int .i64 n) ∧ W.cell? ⟨w.heap.size + 1, 0, none⟩ = some (.int .i64 1) ∧ W.cell? ⟨w.heap.size + 1, 1, none⟩ = some (.int .i64 m)) (first | exact ⟨a0, a1, b0, b1⟩) (first | (go_at_call 251; with_reducible refine (hia _).mono ?_; rintro e w2 ⟨rfl, hb2⟩; replace hB := hB.trans (hb2.mono hB.size); obtain ⟨a0, a1⟩ := (ha.grow hB).cells; obtain ⟨b0, b1⟩ := (hb.grow hB).cells; obtain ⟨r0, r1⟩ := (hr.grow hB).cells; obtain ⟨rf0, rf1⟩ := (hr.grow hB).frozen) | (go_at_call 155; with_reducible refine (hn0 _).mono ?_; rintro e w2 ⟨rfl, hb2⟩; replace hB := hB.trans (hb2.mono hB.size); obtain ⟨a0, a1⟩ := (ha.grow hB).cells; obtain ⟨b0, b1⟩ := (hb.grow hB).cells; obtain ⟨r0, r1⟩ := (hr.grow hB).cells; obtain ⟨rf0, rf1⟩ := (hr.grow hB).frozen))
        all_goals
          go_wp2_with (first | (go_at_call 251; with_reducible refine (hia _).mono ?_; rintro e w2 ⟨rfl, hb2⟩; replace hB := hB.trans (hb2.mono hB.size); obtain ⟨a0, a1⟩ := (ha.grow hB).cells; obtain ⟨b0, b1⟩ := (hb.grow hB).cells; obtain ⟨r0, r1⟩ := (hr.grow hB).cells; obtain ⟨rf0, rf1⟩ := (hr.grow hB).frozen) | (go_at_call 251; with_reducible refine (hib _).mono ?_; rintro e w2 ⟨rfl, hb2⟩; replace hB := hB.trans (hb2.mono hB.size); obtain ⟨a0, a1⟩ := (ha.grow hB).cells; obtain ⟨b0, b1⟩ := (hb.grow hB).cells; obtain ⟨r0, r1⟩ := (hr.grow hB).cells; obtain ⟨rf0, rf1⟩ := (hr.grow hB).frozen) | (go_at_call 256; with_reducible refine (hs _).mono ?_; rintro e w2 ⟨rfl, hb2⟩; replace hB := hB.trans (hb2.mono hB.size); obtain ⟨a0, a1⟩ := (ha.grow hB).cells; obtain ⟨b0, b1⟩ := (hb.grow hB).cells; obtain ⟨r0, r1⟩ := (hr.grow hB).cells; obtain ⟨rf0, rf1⟩ := (hr.grow hB).frozen))
          exact end_set (v := R) Tryz.results225 rfl (by omega) (bW2 w _ _) hB hr
    · have e : dvd ⟨1, n⟩ b = ⟨1, 0⟩ := by simp [dvd, h2]
      rw [e]; clear e
      have h2b : (b.kind == 1) = false := by simpa using h2
      rw [h2b] at hib
      clear hva hvb oa ob h2
      unfold vlV at *
      go_enter Tryz.func225, Tryz.ntmps225
      go_wp2
      go_region_held3 (fun W => W.cell? ⟨w.heap.size, 0, none⟩ = some (.int .i64 1) ∧ W.cell? ⟨w.heap.size, 1, none⟩ = some (.int .i64 n) ∧ W.cell? ⟨w.heap.size + 1, 0, none⟩ = some (.int .i64 b.kind) ∧ W.cell? ⟨w.heap.size + 1, 1, none⟩ = some (.int .i64 b.n)) (first | exact ⟨a0, a1, b0, b1⟩) (first | (go_at_call 251; with_reducible refine (hia _).mono ?_; rintro e w2 ⟨rfl, hb2⟩; replace hB := hB.trans (hb2.mono hB.size); obtain ⟨a0, a1⟩ := (ha.grow hB).cells; obtain ⟨b0, b1⟩ := (hb.grow hB).cells; obtain ⟨r0, r1⟩ := (hr.grow hB).cells; obtain ⟨rf0, rf1⟩ := (hr.grow hB).frozen) | (go_at_call 155; with_reducible refine (hn0 _).mono ?_; rintro e w2 ⟨rfl, hb2⟩; replace hB := hB.trans (hb2.mono hB.size); obtain ⟨a0, a1⟩ := (ha.grow hB).cells; obtain ⟨b0, b1⟩ := (hb.grow hB).cells; obtain ⟨r0, r1⟩ := (hr.grow hB).cells; obtain ⟨rf0, rf1⟩ := (hr.grow hB).frozen))
      all_goals
        go_wp2_with (first | (go_at_call 251; with_reducible refine (hia _).mono ?_; rintro e w2 ⟨rfl, hb2⟩; replace hB := hB.trans (hb2.mono hB.size); obtain ⟨a0, a1⟩ := (ha.grow hB).cells; obtain ⟨b0, b1⟩ := (hb.grow hB).cells; obtain ⟨r0, r1⟩ := (hr.grow hB).cells; obtain ⟨rf0, rf1⟩ := (hr.grow hB).frozen) | (go_at_call 251; with_reducible refine (hib _).mono ?_; rintro e w2 ⟨rfl, hb2⟩; replace hB := hB.trans (hb2.mono hB.size); obtain ⟨a0, a1⟩ := (ha.grow hB).cells; obtain ⟨b0, b1⟩ := (hb.grow hB).cells; obtain ⟨r0, r1⟩ := (hr.grow hB).cells; obtain ⟨rf0, rf1⟩ := (hr.grow hB).frozen) | (go_at_call 155; with_reducible refine (hn0 _).mono ?_; rintro e w2 ⟨rfl, hb2⟩; replace hB := hB.trans (hb2.mono hB.size); obtain ⟨a0, a1⟩ := (ha.grow hB).cells; obtain ⟨b0, b1⟩ := (hb.grow hB).cells; obtain ⟨r0, r1⟩ := (hr.grow hB).cells; obtain ⟨rf0, rf1⟩ := (hr.grow hB).frozen))
        exact end_set (v := ⟨1, 0⟩) Tryz.results225 rfl (by omega) (bW2 w _ _) hB hr
  · have h1b : (a.kind == 1) = false := by simpa using h1
    rw [h1b] at hia
    by_cases h2 : b.kind = 1
    · have h2b : (b.kind == 1) = true := by simpa using h2
      rw [h2b] at hib
      by_cases h3 : b.n < 0
      · have e : dvd a b = neg a := by simp [dvd, h1, h2, h3]
        rw [e]; clear e
        have ht := fun W => turned_any a hva W
        generalize neg a = R at *
        clear hva hvb oa ob h2 h1
        unfold vlV at *
        go_enter Tryz.func225, Tryz.ntmps225
        go_wp2
        go_region_with (first | (go_at_call 251; with_reducible refine (hia _).mono ?_; rintro e w2 ⟨rfl, hb2⟩; replace hB := hB.trans (hb2.mono hB.size); obtain ⟨a0, a1⟩ := (ha.grow hB).cells; obtain ⟨b0, b1⟩ := (hb.grow hB).cells; obtain ⟨r0, r1⟩ := (hr.grow hB).cells; obtain ⟨rf0, rf1⟩ := (hr.grow hB).frozen) | (go_at_call 155; with_reducible refine (hn0 _).mono ?_; rintro e w2 ⟨rfl, hb2⟩; replace hB := hB.trans (hb2.mono hB.size); obtain ⟨a0, a1⟩ := (ha.grow hB).cells; obtain ⟨b0, b1⟩ := (hb.grow hB).cells; obtain ⟨r0, r1⟩ := (hr.grow hB).cells; obtain ⟨rf0, rf1⟩ := (hr.grow hB).frozen))
        all_goals
          go_wp2_with (first | (go_at_call 251; with_reducible refine (hia _).mono ?_; rintro e w2 ⟨rfl, hb2⟩; replace hB := hB.trans (hb2.mono hB.size); obtain ⟨a0, a1⟩ := (ha.grow hB).cells; obtain ⟨b0, b1⟩ := (hb.grow hB).cells; obtain ⟨r0, r1⟩ := (hr.grow hB).cells; obtain ⟨rf0, rf1⟩ := (hr.grow hB).frozen) | (go_at_call 251; with_reducible refine (hib _).mono ?_; rintro e w2 ⟨rfl, hb2⟩; replace hB := hB.trans (hb2.mono hB.size); obtain ⟨a0, a1⟩ := (ha.grow hB).cells; obtain ⟨b0, b1⟩ := (hb.grow hB).cells; obtain ⟨r0, r1⟩ := (hr.grow hB).cells; obtain ⟨rf0, rf1⟩ := (hr.grow hB).frozen) | (go_at_call 216; with_reducible refine (ht _).mono ?_; rintro e w2 ⟨rfl, hb2⟩; replace hB := hB.trans (hb2.mono hB.size); obtain ⟨a0, a1⟩ := (ha.grow hB).cells; obtain ⟨b0, b1⟩ := (hb.grow hB).cells; obtain ⟨r0, r1⟩ := (hr.grow hB).cells; obtain ⟨rf0, rf1⟩ := (hr.grow hB).frozen))
          exact end_set (v := R) Tryz.results225 rfl (by omega) (bW2 w _ _) hB hr
      · have e : dvd a b = a := by simp [dvd, h1, h2, h3]
        rw [e]; clear e
        clear hva hvb oa ob h2 h1
        unfold vlV at *
        go_enter Tryz.func225, Tryz.ntmps225
        go_wp2
        go_region_with (first | (go_at_call 251; with_reducible refine (hia _).mono ?_; rintro e w2 ⟨rfl, hb2⟩; replace hB := hB.trans (hb2.mono hB.size); obtain ⟨a0, a1⟩ := (ha.grow hB).cells; obtain ⟨b0, b1⟩ := (hb.grow hB).cells; obtain ⟨r0, r1⟩ := (hr.grow hB).cells; obtain ⟨rf0, rf1⟩ := (hr.grow hB).frozen) | (go_at_call 155; with_reducible refine (hn0 _).mono ?_; rintro e w2 ⟨rfl, hb2⟩; replace hB := hB.trans (hb2.mono hB.size); obtain ⟨a0, a1⟩ := (ha.grow hB).cells; obtain ⟨b0, b1⟩ := (hb.grow hB).cells; obtain ⟨r0, r1⟩ := (hr.grow hB).cells; obtain ⟨rf0, rf1⟩ := (hr.grow hB).frozen))
        all_goals
          go_wp2_with (first | (go_at_call 251; with_reducible refine (hia _).mono ?_; rintro e w2 ⟨rfl, hb2⟩; replace hB := hB.trans (hb2.mono hB.size); obtain ⟨a0, a1⟩ := (ha.grow hB).cells; obtain ⟨b0, b1⟩ := (hb.grow hB).cells; obtain ⟨r0, r1⟩ := (hr.grow hB).cells; obtain ⟨rf0, rf1⟩ := (hr.grow hB).frozen) | (go_at_call 251; with_reducible refine (hib _).mono ?_; rintro e w2 ⟨rfl, hb2⟩; replace hB := hB.trans (hb2.mono hB.size); obtain ⟨a0, a1⟩ := (ha.grow hB).cells; obtain ⟨b0, b1⟩ := (hb.grow hB).cells; obtain ⟨r0, r1⟩ := (hr.grow hB).cells; obtain ⟨rf0, rf1⟩ := (hr.grow hB).frozen))
          exact end_set (v := a) Tryz.results225 rfl (by omega) (bW2 w _ _) hB hr
    · have h2b : (b.kind == 1) = false := by simpa using h2
      rw [h2b] at hib
      have e : dvd a b = nan := by simp [dvd, h1, h2]
      rw [e]; clear e
      have hnn := fun W => nan_b W
      clear hva hvb oa ob h2 h1
      unfold vlV at *
      go_enter Tryz.func225, Tryz.ntmps225
      go_wp2
      go_region_with (first | (go_at_call 251; with_reducible refine (hia _).mono ?_; rintro e w2 ⟨rfl, hb2⟩; replace hB := hB.trans (hb2.mono hB.size); obtain ⟨a0, a1⟩ := (ha.grow hB).cells; obtain ⟨b0, b1⟩ := (hb.grow hB).cells; obtain ⟨r0, r1⟩ := (hr.grow hB).cells; obtain ⟨rf0, rf1⟩ := (hr.grow hB).frozen) | (go_at_call 155; with_reducible refine (hn0 _).mono ?_; rintro e w2 ⟨rfl, hb2⟩; replace hB := hB.trans (hb2.mono hB.size); obtain ⟨a0, a1⟩ := (ha.grow hB).cells; obtain ⟨b0, b1⟩ := (hb.grow hB).cells; obtain ⟨r0, r1⟩ := (hr.grow hB).cells; obtain ⟨rf0, rf1⟩ := (hr.grow hB).frozen))
      all_goals
        go_wp2_with (first | (go_at_call 251; with_reducible refine (hia _).mono ?_; rintro e w2 ⟨rfl, hb2⟩; replace hB := hB.trans (hb2.mono hB.size); obtain ⟨a0, a1⟩ := (ha.grow hB).cells; obtain ⟨b0, b1⟩ := (hb.grow hB).cells; obtain ⟨r0, r1⟩ := (hr.grow hB).cells; obtain ⟨rf0, rf1⟩ := (hr.grow hB).frozen) | (go_at_call 251; with_reducible refine (hib _).mono ?_; rintro e w2 ⟨rfl, hb2⟩; replace hB := hB.trans (hb2.mono hB.size); obtain ⟨a0, a1⟩ := (ha.grow hB).cells; obtain ⟨b0, b1⟩ := (hb.grow hB).cells; obtain ⟨r0, r1⟩ := (hr.grow hB).cells; obtain ⟨rf0, rf1⟩ := (hr.grow hB).frozen) | (go_at_call 136; with_reducible refine (hnn _).mono ?_; rintro e w2 ⟨rfl, hb2⟩; replace hB := hB.trans (hb2.mono hB.size); obtain ⟨a0, a1⟩ := (ha.grow hB).cells; obtain ⟨b0, b1⟩ := (hb.grow hB).cells; obtain ⟨r0, r1⟩ := (hr.grow hB).cells; obtain ⟨rf0, rf1⟩ := (hr.grow hB).frozen))
        exact end_set (v := nan) Tryz.results225 rfl (by omega) (bW2 w _ _) hB hr
end Go.Proofs.YtaffplmfnincfaaGreatDoor
