/- Values: the contracts of scaled, product, quotient. -/
import Derived.Test.YtfbiaffdfolbgaaGreatDoorVf
namespace Go.Proofs.YtfbiaffdfolbgaaGreatDoor
set_option linter.unusedVariables false
open Go.RowKit
attribute [local go_sem ↓] Go.wp_at_zero Go.wp_at_succ
theorem num_divN (x o : Nat) : num (divN x o) = num ((x / o : Nat) : Int) ∧ num (-divN x o) = num (-((x / o : Nat) : Int)) := by
  unfold divN
  generalize x / o = q
  by_cases h : (q : Int) ≤ 1000000000000000
  · have e : min (q : Int) 1000000000000001 = q := by omega
    rw [e]; exact ⟨rfl, rfl⟩
  · have e : min (q : Int) 1000000000000001 = 1000000000000001 := by omega
    rw [e]
    refine ⟨?_, ?_⟩
    · rw [num, if_pos (by omega), num, if_pos (by omega)]
    · rw [num, if_neg (by omega), if_pos (by omega), num, if_neg (by omega), if_pos (by omega)]
/-- The sign of a product by a divisor. -/
def sgnX (n by' over : Int) : Bool := !((!(decide (n < 0) == decide (by' < 0))) == decide (over < 0))
theorem abs_form (n : Int) : (n < 0 ∧ n = -(n.natAbs : Int)) ∨ (¬ n < 0 ∧ n = (n.natAbs : Int)) := by
  by_cases h : n < 0
  · exact .inl ⟨h, by omega⟩
  · exact .inr ⟨h, by omega⟩
theorem scaled_num (n by' over : Int) : num (if sgnX n by' over then -divN (n.natAbs * by'.natAbs) over.natAbs else divN (n.natAbs * by'.natAbs) over.natAbs) = num (Int.tdiv (n * by') over) := by
  obtain ⟨d1, d2⟩ := num_divN (n.natAbs * by'.natAbs) over.natAbs
  have key : Int.tdiv ((n.natAbs : Int) * (by'.natAbs : Int)) (over.natAbs : Int) = ((n.natAbs * by'.natAbs / over.natAbs : Nat) : Int) := by
    rw [← Int.natCast_mul]; rfl
  rcases abs_form n with ⟨h1, e1⟩ | ⟨h1, e1⟩ <;> rcases abs_form by' with ⟨h2, e2⟩ | ⟨h2, e2⟩ <;> rcases abs_form over with ⟨h3, e3⟩ | ⟨h3, e3⟩ <;>
    simp only [sgnX, h1, h2, h3, decide_true, decide_false]
  all_goals
    first | refine Eq.trans (show _ = num (divN _ _) from rfl) ?_ | refine Eq.trans (show _ = num (-divN _ _) from rfl) ?_
    first | rw [d1] | rw [d2]
    congr 1
    conv => rhs; rw [e1, e2, e3]
    simp only [Int.neg_mul, Int.mul_neg, Int.neg_neg, Int.tdiv_neg, Int.neg_tdiv, key]
/-- A number's size. -/
def szI (n : Int) : Int := (n.natAbs : Int)
theorem size_b (n : Int) (w : World) (h1 : -1000000000000000 ≤ n) (h2 : n ≤ 1000000000000000) : Calls Tryz.prog 74 #[.int .i64 n] w fun e w' => e = .returned (.int .u64 (szI n)) ∧ Below w.heap.size w w' :=
  (size_any n w h1 h2).mono fun e w' ⟨h, hw⟩ => ⟨h, by rw [hw]; exact Below.refl _ _⟩
set_option maxRecDepth 100000 in
set_option maxHeartbeats 1000000 in
theorem scaled_any (n by' over : Int) (hn : -1000000000000000 ≤ n ∧ n ≤ 1000000000000000) (hb : -1000000000000000 ≤ by' ∧ by' ≤ 1000000000000000) (ho : -1000000000000000 ≤ over ∧ over ≤ 1000000000000000) (ho0 : over ≠ 0)
    (hsm : by' = 1000 ∨ over = 1000) (w : World) : Calls Tryz.prog 83 #[.int .i64 n, .int .i64 by', .int .i64 over] w fun e w' => e = .returned (vlV (num (Int.tdiv (n * by') over))) ∧ Below w.heap.size w w' := by
  rw [← scaled_num n by' over]
  have hr := vlNew w zer
  have hB : Below (w.alloc (vlO zer)).heap.size (w.alloc (vlO zer)) (w.alloc (vlO zer)) := Below.refl _ _
  have bn : n.natAbs ≤ 1000000000000000 := by omega
  have bb : by'.natAbs ≤ 1000000000000000 := by omega
  have bo : over.natAbs ≤ 1000000000000000 ∧ 1 ≤ over.natAbs := by omega
  have hm := fun W => (Tryz.bits_Mul64 n.natAbs by'.natAbs (by omega) (by omega) W).mono fun e w' (h : e = .returned (.tuple #[.int .u64 ((n.natAbs * by'.natAbs / 18446744073709551616 : Nat) : Int), .int .u64 ((n.natAbs * by'.natAbs % 18446744073709551616 : Nat) : Int)]) ∧ w' = W) => (⟨h.1, by rw [h.2]; exact Below.refl _ _⟩ : e = .returned (.tuple #[.int .u64 ((n.natAbs * by'.natAbs / 18446744073709551616 : Nat) : Int), .int .u64 ((n.natAbs * by'.natAbs % 18446744073709551616 : Nat) : Int)]) ∧ Below W.heap.size W w')
  have hp : n.natAbs * by'.natAbs ≤ 1000000000000000 * 1000000000000000 := Nat.mul_le_mul bn bb
  have hd := fun W => divided_any (n.natAbs * by'.natAbs) over.natAbs (by omega) bo.2 (by omega) (by
    rcases hsm with rfl | rfl
    · left
      have : n.natAbs * (1000 : Int).natAbs ≤ 1000000000000000 * 1000 := Nat.mul_le_mul bn (by decide)
      omega
    · exact .inr rfl) W
  have hm1 : -1000000000000001 ≤ divN (n.natAbs * by'.natAbs) over.natAbs ∧ divN (n.natAbs * by'.natAbs) over.natAbs ≤ 1000000000000001 := by unfold divN; generalize n.natAbs * by'.natAbs / over.natAbs = q; omega
  obtain ⟨hi, ehi⟩ : ∃ x, Hid (x = ((n.natAbs * by'.natAbs / 18446744073709551616 : Nat) : Int)) := ⟨_, rfl⟩
  obtain ⟨lo, elo⟩ : ∃ x, Hid (x = ((n.natAbs * by'.natAbs % 18446744073709551616 : Nat) : Int)) := ⟨_, rfl⟩
  rw [← ehi.out, ← elo.out] at hm hd
  generalize divN (n.natAbs * by'.natAbs) over.natAbs = m at *
  have eA : (n.natAbs : Int) = szI n := rfl
  have eB : (by'.natAbs : Int) = szI by' := rfl
  have eC : (over.natAbs : Int) = szI over := rfl
  rw [eA, eB] at hm
  rw [eC] at hd
  clear hp bn bb bo hsm ehi elo ho0 eA eB eC
  cases hx : sgnX n by' over
  · rw [if_neg (by simp)]
    unfold sgnX at hx
    unfold vlV
    go_enter Tryz.func83, Tryz.ntmps83
    go_wp2_with (first | (go_at_call 74; refine (size_b _ _ (by omega) (by omega)).mono ?_; rintro e w2 ⟨rfl, hb2⟩; replace hB := hB.trans (hb2.mono hB.size); obtain ⟨r0, r1⟩ := (hr.grow hB).cells; obtain ⟨rf0, rf1⟩ := (hr.grow hB).frozen) | (go_at_call 99; refine (hm _).mono ?_; rintro e w2 ⟨rfl, hb2⟩; replace hB := hB.trans (hb2.mono hB.size); obtain ⟨r0, r1⟩ := (hr.grow hB).cells; obtain ⟨rf0, rf1⟩ := (hr.grow hB).frozen) | (go_at_call 100; refine (hd _).mono ?_; rintro e w2 ⟨rfl, hb2⟩; replace hB := hB.trans (hb2.mono hB.size); obtain ⟨r0, r1⟩ := (hr.grow hB).cells; obtain ⟨rf0, rf1⟩ := (hr.grow hB).frozen) | (go_at_call 18; refine (num_any _ _).mono ?_; rintro e w2 ⟨rfl, hb2⟩; replace hB := hB.trans (hb2.mono hB.size); obtain ⟨r0, r1⟩ := (hr.grow hB).cells; obtain ⟨rf0, rf1⟩ := (hr.grow hB).frozen; unfold vlV))
    exact end_set (v := num m) Tryz.results83 rfl (Nat.le_refl _) (bW0 w _) hB hr
  · rw [if_pos rfl]
    unfold sgnX at hx
    unfold vlV
    go_enter Tryz.func83, Tryz.ntmps83
    go_wp2_with (first | (go_at_call 74; refine (size_b _ _ (by omega) (by omega)).mono ?_; rintro e w2 ⟨rfl, hb2⟩; replace hB := hB.trans (hb2.mono hB.size); obtain ⟨r0, r1⟩ := (hr.grow hB).cells; obtain ⟨rf0, rf1⟩ := (hr.grow hB).frozen) | (go_at_call 99; refine (hm _).mono ?_; rintro e w2 ⟨rfl, hb2⟩; replace hB := hB.trans (hb2.mono hB.size); obtain ⟨r0, r1⟩ := (hr.grow hB).cells; obtain ⟨rf0, rf1⟩ := (hr.grow hB).frozen) | (go_at_call 100; refine (hd _).mono ?_; rintro e w2 ⟨rfl, hb2⟩; replace hB := hB.trans (hb2.mono hB.size); obtain ⟨r0, r1⟩ := (hr.grow hB).cells; obtain ⟨rf0, rf1⟩ := (hr.grow hB).frozen) | (go_at_call 18; refine (num_any _ _).mono ?_; rintro e w2 ⟨rfl, hb2⟩; replace hB := hB.trans (hb2.mono hB.size); obtain ⟨r0, r1⟩ := (hr.grow hB).cells; obtain ⟨rf0, rf1⟩ := (hr.grow hB).frozen; unfold vlV))
    exact end_set (v := num (-m)) Tryz.results83 rfl (Nat.le_refl _) (bW0 w _) hB hr
end Go.Proofs.YtfbiaffdfolbgaaGreatDoor
