/- The contracts of the document's Num, Null, NaN, Plus, Minus, Truth, Is; of num; live. -/
import Derived.Test.YtfbiaffdfolbgabGreatDoorVv
namespace Go.Proofs.YtfbiaffdfolbgabGreatDoor
set_option linter.unusedVariables false
open Go.RowKit
attribute [local go_sem ↓] Go.wp_at_zero Go.wp_at_succ
set_option maxRecDepth 100000 in
theorem rnull_b (w : World) : Calls Tryz.prog 16 #[] w fun e w' => e = .returned (vlV nul) ∧ Below w.heap.size w w' := by
  go_enter Tryz.func16, Tryz.ntmps16
  go_wp2
  exact ret_cell Tryz.results16 rfl (vlNew w nul) ⟨rfl, bW0 w _⟩
set_option maxRecDepth 100000 in
theorem rplus_b (w : World) : Calls Tryz.prog 9 #[] w fun e w' => e = .returned (vlV pls) ∧ Below w.heap.size w w' := by
  go_enter Tryz.func9, Tryz.ntmps9
  go_wp2
  exact ret_cell Tryz.results9 rfl (vlNew w pls) ⟨rfl, bW0 w _⟩
set_option maxRecDepth 100000 in
theorem rminus_b (w : World) : Calls Tryz.prog 8 #[] w fun e w' => e = .returned (vlV mns) ∧ Below w.heap.size w w' := by
  go_enter Tryz.func8, Tryz.ntmps8
  go_wp2
  exact ret_cell Tryz.results8 rfl (vlNew w mns) ⟨rfl, bW0 w _⟩
set_option maxRecDepth 100000 in
theorem rnum_any (n : Int) (w : World) : Calls Tryz.prog 7 #[.int .i64 n] w fun e w' => e = .returned (vlV (num n)) ∧ Below w.heap.size w w' := by
  have hr := vlNew w zer
  have hB : Below (w.alloc (vlO zer)).heap.size (w.alloc (vlO zer)) (w.alloc (vlO zer)) := Below.refl _ _
  have hp := fun W => rplus_b W
  have hm := fun W => rminus_b W
  unfold vlV at hp hm
  by_cases h1 : 1000000000000000 < n
  · have e : num n = pls := by rw [num, if_pos h1]
    rw [e]; clear e
    go_enter Tryz.func7, Tryz.ntmps7
    go_wp2_with (first | (go_at_call 9; with_reducible refine (hp _).mono ?_; rintro e w2 ⟨rfl, hb2⟩; replace hB := hB.trans (hb2.mono hB.size); obtain ⟨r0, r1⟩ := (hr.grow hB).cells; obtain ⟨rf0, rf1⟩ := (hr.grow hB).frozen))
    exact end_set (v := pls) Tryz.results7 rfl (Nat.le_refl _) (bW0 w _) hB hr
  · by_cases h2 : n < -1000000000000000
    · have e : num n = mns := by rw [num, if_neg h1, if_pos h2]
      rw [e]; clear e
      go_enter Tryz.func7, Tryz.ntmps7
      go_wp2_with (first | (go_at_call 8; with_reducible refine (hm _).mono ?_; rintro e w2 ⟨rfl, hb2⟩; replace hB := hB.trans (hb2.mono hB.size); obtain ⟨r0, r1⟩ := (hr.grow hB).cells; obtain ⟨rf0, rf1⟩ := (hr.grow hB).frozen))
      exact end_set (v := mns) Tryz.results7 rfl (Nat.le_refl _) (bW0 w _) hB hr
    · have e : num n = ⟨1, n⟩ := by rw [num, if_neg h1, if_neg h2]
      rw [e]; clear e
      go_enter Tryz.func7, Tryz.ntmps7
      go_wp2
      exact ret_cell Tryz.results7 rfl (vlNew w ⟨1, n⟩) ⟨rfl, bW0 w _⟩
set_option maxRecDepth 100000 in
theorem ris_any (v : Vl) (w : World) : Calls Tryz.prog 10 #[vlV v] w fun e w' => e = .returned (.bool (isB v)) ∧ Below w.heap.size w w' := by
  obtain ⟨k, n⟩ := v
  unfold vlV
  obtain ⟨R, hR⟩ : ∃ R, Hid (R = isB ⟨k, n⟩) := ⟨_, rfl⟩
  rw [← hR.out]
  have hR2 : Hid (R = decide ((k = 1 ∧ -1000000000000000 ≤ n ∧ n ≤ 1000000000000000) ∨ (2 ≤ k ∧ k ≤ 5 ∧ n = 0))) := hR.out
  clear hR
  go_enter Tryz.func10, Tryz.ntmps10
  go_wp2
  all_goals
    go_ret
    refine ⟨?_, bW0 w _⟩
    rw [hR2.out]
    refine ret_bool ?_
    clear hR2
    rw [Bool.eq_iff_iff]
    simp_all
    try omega
set_option maxRecDepth 100000 in
theorem enum_any (n : Int) (w : World) : Calls Tryz.prog 15 #[.int .i64 n] w fun e w' => e = .returned (.int .i64 n) ∧ Below w.heap.size w w' := by
  go_enter Tryz.func15, Tryz.ntmps15
  go_wp2
  go_ret
  exact ⟨rfl, Below.refl _ _⟩
end Go.Proofs.YtfbiaffdfolbgabGreatDoor
