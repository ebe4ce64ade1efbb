/- The contracts of the document's Num, Null, NaN, Plus, Minus, Truth, Is; of num; live. -/
import Derived.Test.YtfbiaffdfolbgaaGreatDoorVv
namespace Go.Proofs.YtfbiaffdfolbgaaGreatDoor
set_option linter.unusedVariables false
open Go.RowKit
attribute [local go_sem ↓] Go.wp_at_zero Go.wp_at_succ
set_option maxRecDepth 100000 in
theorem rnull_b (w : World) : Calls Tryz.prog 23 #[] w fun e w' => e = .returned (vlV nul) ∧ Below w.heap.size w w' := by
  go_enter Tryz.func23, Tryz.ntmps23
  go_wp2
  exact ret_cell Tryz.results23 rfl (vlNew w nul) ⟨rfl, bW0 w _⟩
set_option maxRecDepth 100000 in
theorem rnan_b (w : World) : Calls Tryz.prog 25 #[] w fun e w' => e = .returned (vlV nan) ∧ Below w.heap.size w w' := by
  go_enter Tryz.func25, Tryz.ntmps25
  go_wp2
  exact ret_cell Tryz.results25 rfl (vlNew w nan) ⟨rfl, bW0 w _⟩
set_option maxRecDepth 100000 in
theorem rplus_b (w : World) : Calls Tryz.prog 27 #[] w fun e w' => e = .returned (vlV pls) ∧ Below w.heap.size w w' := by
  go_enter Tryz.func27, Tryz.ntmps27
  go_wp2
  exact ret_cell Tryz.results27 rfl (vlNew w pls) ⟨rfl, bW0 w _⟩
set_option maxRecDepth 100000 in
theorem rminus_b (w : World) : Calls Tryz.prog 29 #[] w fun e w' => e = .returned (vlV mns) ∧ Below w.heap.size w w' := by
  go_enter Tryz.func29, Tryz.ntmps29
  go_wp2
  exact ret_cell Tryz.results29 rfl (vlNew w mns) ⟨rfl, bW0 w _⟩
set_option maxRecDepth 100000 in
theorem rnum_any (n : Int) (w : World) : Calls Tryz.prog 19 #[.int .i64 n] w fun e w' => e = .returned (vlV (num n)) ∧ Below w.heap.size w w' := by
  have hr := vlNew w zer
  have hB : Below (w.alloc (vlO zer)).heap.size (w.alloc (vlO zer)) (w.alloc (vlO zer)) := Below.refl _ _
  have hp := fun W => rplus_b W
  have hm := fun W => rminus_b W
  unfold vlV at hp hm
  by_cases h1 : 1000000000000000 < n
  · have e : num n = pls := by rw [num, if_pos h1]
    rw [e]; clear e
    go_enter Tryz.func19, Tryz.ntmps19
    go_wp2_with (first | (go_at_call 27; with_reducible refine (hp _).mono ?_; rintro e w2 ⟨rfl, hb2⟩; replace hB := hB.trans (hb2.mono hB.size); obtain ⟨r0, r1⟩ := (hr.grow hB).cells; obtain ⟨rf0, rf1⟩ := (hr.grow hB).frozen))
    exact end_set (v := pls) Tryz.results19 rfl (Nat.le_refl _) (bW0 w _) hB hr
  · by_cases h2 : n < -1000000000000000
    · have e : num n = mns := by rw [num, if_neg h1, if_pos h2]
      rw [e]; clear e
      go_enter Tryz.func19, Tryz.ntmps19
      go_wp2_with (first | (go_at_call 29; with_reducible refine (hm _).mono ?_; rintro e w2 ⟨rfl, hb2⟩; replace hB := hB.trans (hb2.mono hB.size); obtain ⟨r0, r1⟩ := (hr.grow hB).cells; obtain ⟨rf0, rf1⟩ := (hr.grow hB).frozen))
      exact end_set (v := mns) Tryz.results19 rfl (Nat.le_refl _) (bW0 w _) hB hr
    · have e : num n = ⟨1, n⟩ := by rw [num, if_neg h1, if_neg h2]
      rw [e]; clear e
      go_enter Tryz.func19, Tryz.ntmps19
      go_wp2
      exact ret_cell Tryz.results19 rfl (vlNew w ⟨1, n⟩) ⟨rfl, bW0 w _⟩
set_option maxRecDepth 100000 in
theorem rtruth_any (b : Bool) (w : World) : Calls Tryz.prog 21 #[.bool b] w fun e w' => e = .returned (vlV (tru b)) ∧ Below w.heap.size w w' := by
  have hr := vlNew w zer
  have hB : Below (w.alloc (vlO zer)).heap.size (w.alloc (vlO zer)) (w.alloc (vlO zer)) := Below.refl _ _
  cases b
  · go_enter Tryz.func21, Tryz.ntmps21
    go_wp2_with (go_at_call 19; refine (rnum_any _ _).mono ?_; rintro e w2 ⟨rfl, hb2⟩; replace hB := hB.trans (hb2.mono hB.size); obtain ⟨r0, r1⟩ := (hr.grow hB).cells; obtain ⟨rf0, rf1⟩ := (hr.grow hB).frozen; unfold vlV)
    exact end_set (v := tru false) Tryz.results21 rfl (Nat.le_refl _) (bW0 w _) hB hr
  · go_enter Tryz.func21, Tryz.ntmps21
    go_wp2_with (go_at_call 19; refine (rnum_any _ _).mono ?_; rintro e w2 ⟨rfl, hb2⟩; replace hB := hB.trans (hb2.mono hB.size); obtain ⟨r0, r1⟩ := (hr.grow hB).cells; obtain ⟨rf0, rf1⟩ := (hr.grow hB).frozen; unfold vlV)
    exact end_set (v := tru true) Tryz.results21 rfl (Nat.le_refl _) (bW0 w _) hB hr
set_option maxRecDepth 100000 in
theorem ris_any (v : Vl) (w : World) : Calls Tryz.prog 12 #[vlV v] w fun e w' => e = .returned (.bool (isB v)) ∧ Below w.heap.size w w' := by
  obtain ⟨k, n⟩ := v
  unfold vlV
  obtain ⟨R, hR⟩ : ∃ R, Hid (R = isB ⟨k, n⟩) := ⟨_, rfl⟩
  rw [← hR.out]
  have hR2 : Hid (R = decide ((k = 1 ∧ -1000000000000000 ≤ n ∧ n ≤ 1000000000000000) ∨ (2 ≤ k ∧ k ≤ 5 ∧ n = 0))) := hR.out
  clear hR
  go_enter Tryz.func12, Tryz.ntmps12
  go_wp2
  all_goals
    go_ret
    refine ⟨?_, bW0 w _⟩
    rw [hR2.out]
    refine ret_bool ?_
    clear hR2
    rw [Bool.eq_iff_iff]
    simp_all
    try omega
set_option maxRecDepth 100000 in
theorem enum_any (n : Int) (w : World) : Calls Tryz.prog 15 #[.int .i64 n] w fun e w' => e = .returned (.int .i64 n) ∧ Below w.heap.size w w' := by
  go_enter Tryz.func15, Tryz.ntmps15
  go_wp2
  go_ret
  exact ⟨rfl, Below.refl _ _⟩
end Go.Proofs.YtfbiaffdfolbgaaGreatDoor
