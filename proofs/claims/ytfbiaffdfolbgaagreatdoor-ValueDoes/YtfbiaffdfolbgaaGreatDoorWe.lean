/- The document's small functions of values: True, sign, turned, beyond, size. -/
import Derived.Test.YtfbiaffdfolbgaaGreatDoorWd
namespace Go.Proofs.YtfbiaffdfolbgaaGreatDoor
set_option linter.unusedVariables false
open Go.RowKit
attribute [local go_sem ↓] Go.wp_at_zero Go.wp_at_succ
set_option maxRecDepth 100000 in
set_option maxHeartbeats 1000000 in
theorem rtrue_any (v : Vl) (w : World) : Calls Tryz.prog 14 #[vlV v] w fun e w' => e = .returned (.bool (truB v)) ∧ Below w.heap.size w w' := by
  have ha := vlNew w v
  have hB : Below (w.alloc (vlO v)).heap.size (w.alloc (vlO v)) (w.alloc (vlO v)) := Below.refl _ _
  obtain ⟨a0, a1⟩ := ha.cells
  unfold truB
  cases h1 : (v.kind == 1) <;> cases h2 : (v.n != 0) <;> cases h3 : (v.kind == 3) <;> cases h4 : (v.kind == 4) <;> cases h5 : (v.kind == 5)
  all_goals
    unfold vlV at *
    go_enter Tryz.func14, Tryz.ntmps14
    go_wp2
    go_ret
    exact ⟨rfl, (bW0 w _).trans (hB.mono (by simp))⟩
theorem rsize_any (n : Int) (h1 : -1000000000000000 ≤ n) (h2 : n ≤ 1000000000000000) (w : World) : Calls Tryz.prog 88 #[.int .i64 n] w fun e w' => e = .returned (.int .i64 (n.natAbs : Int)) ∧ Below w.heap.size w w' := by
  by_cases h : n < 0
  · obtain ⟨N, hN⟩ : ∃ N : Int, Hid (N = (n.natAbs : Int)) := ⟨_, rfl⟩
    have hw : IntKind.i64.wrap (-n) = N := by rw [IntKind.wrap_i64]; have := hN.out; omega
    have e : -n = N := by have := hN.out; omega
    rw [← hN.out]
    go_enter Tryz.func88, Tryz.ntmps88
    go_wp2
    go_ret
    exact ⟨rfl, Below.refl _ _⟩
  · have e : (n.natAbs : Int) = n := by omega
    rw [e]
    clear e
    go_enter Tryz.func88, Tryz.ntmps88
    go_wp2
    go_ret
    exact ⟨rfl, Below.refl _ _⟩
set_option maxRecDepth 100000 in
theorem rbeyond_any (s : Int) (w : World) : Calls Tryz.prog 87 #[.int .i64 s] w fun e w' => e = .returned (vlV (byd s)) ∧ Below w.heap.size w w' := by
  have hr := vlNew w zer
  have hB : Below (w.alloc (vlO zer)).heap.size (w.alloc (vlO zer)) (w.alloc (vlO zer)) := Below.refl _ _
  have hp := fun W => rplus_b W
  have hm := fun W => rminus_b W
  have hn := fun W => rnan_b W
  unfold vlV at hp hm hn
  by_cases h1 : 0 < s
  · have e : byd s = pls := by rw [byd, if_pos h1]
    rw [e]; clear e
    go_enter Tryz.func87, Tryz.ntmps87
    go_wp2_with (first | (go_at_call 27; with_reducible refine (hp _).mono ?_; rintro e w2 ⟨rfl, hb2⟩; replace hB := hB.trans (hb2.mono hB.size); obtain ⟨r0, r1⟩ := (hr.grow hB).cells; obtain ⟨rf0, rf1⟩ := (hr.grow hB).frozen))
    exact end_set Tryz.results87 rfl (Nat.le_refl _) (bW0 w _) hB hr
  · by_cases h2 : s < 0
    · have e : byd s = mns := by rw [byd, if_neg h1, if_pos h2]
      rw [e]; clear e
      go_enter Tryz.func87, Tryz.ntmps87
      go_wp2_with (first | (go_at_call 29; with_reducible refine (hm _).mono ?_; rintro e w2 ⟨rfl, hb2⟩; replace hB := hB.trans (hb2.mono hB.size); obtain ⟨r0, r1⟩ := (hr.grow hB).cells; obtain ⟨rf0, rf1⟩ := (hr.grow hB).frozen))
      exact end_set Tryz.results87 rfl (Nat.le_refl _) (bW0 w _) hB hr
    · have e : byd s = nan := by rw [byd, if_neg h1, if_neg h2]
      rw [e]; clear e
      go_enter Tryz.func87, Tryz.ntmps87
      go_wp2_with (first | (go_at_call 25; with_reducible refine (hn _).mono ?_; rintro e w2 ⟨rfl, hb2⟩; replace hB := hB.trans (hb2.mono hB.size); obtain ⟨r0, r1⟩ := (hr.grow hB).cells; obtain ⟨rf0, rf1⟩ := (hr.grow hB).frozen))
      exact end_set Tryz.results87 rfl (Nat.le_refl _) (bW0 w _) hB hr
set_option maxRecDepth 100000 in
theorem rsign_any (v : Vl) (w : World) : Calls Tryz.prog 65 #[vlV v] w fun e w' => e = .returned (.int .i64 (sgn v)) ∧ Below w.heap.size w w' := by
  have ha := vlNew w v
  have hB : Below (w.alloc (vlO v)).heap.size (w.alloc (vlO v)) (w.alloc (vlO v)) := Below.refl _ _
  obtain ⟨a0, a1⟩ := ha.cells
  by_cases h4 : v.kind = 4
  · have e : sgn v = 1 := by rw [sgn, if_pos (.inl h4)]
    have b4 : (v.kind == 4) = true := by simpa using h4
    rw [e]; clear e h4
    unfold vlV at *
    go_enter Tryz.func65, Tryz.ntmps65
    go_wp2
    go_ret
    exact ⟨rfl, (bW0 w _).trans (hB.mono (by simp))⟩
  · have b4 : (v.kind == 4) = false := by simpa using h4
    by_cases h1 : 0 < v.n
    · have e : sgn v = 1 := by rw [sgn, if_pos (.inr h1)]
      rw [e]; clear e h4
      unfold vlV at *
      go_enter Tryz.func65, Tryz.ntmps65
      go_wp2
      go_ret
      exact ⟨rfl, (bW0 w _).trans (hB.mono (by simp))⟩
    · by_cases h5 : v.kind = 5
      · have e : sgn v = -1 := by rw [sgn, if_neg (by intro h; rcases h with h | h; exact h4 h; exact h1 h), if_pos (.inl h5)]
        have b5 : (v.kind == 5) = true := by simpa using h5
        rw [e]; clear e h4 h5
        unfold vlV at *
        go_enter Tryz.func65, Tryz.ntmps65
        go_wp2
        go_ret
        exact ⟨rfl, (bW0 w _).trans (hB.mono (by simp))⟩
      · have b5 : (v.kind == 5) = false := by simpa using h5
        by_cases h0 : v.n < 0
        · have e : sgn v = -1 := by rw [sgn, if_neg (by intro h; rcases h with h | h; exact h4 h; exact h1 h), if_pos (.inr h0)]
          rw [e]; clear e h4 h5
          unfold vlV at *
          go_enter Tryz.func65, Tryz.ntmps65
          go_wp2
          go_ret
          exact ⟨rfl, (bW0 w _).trans (hB.mono (by simp))⟩
        · have e : sgn v = 0 := by rw [sgn, if_neg (by intro h; rcases h with h | h; exact h4 h; exact h1 h), if_neg (by intro h; rcases h with h | h; exact h5 h; exact h0 h)]
          rw [e]; clear e h4 h5
          unfold vlV at *
          go_enter Tryz.func65, Tryz.ntmps65
          go_wp2
          go_ret
          exact ⟨rfl, (bW0 w _).trans (hB.mono (by simp))⟩
end Go.Proofs.YtfbiaffdfolbgaaGreatDoor
