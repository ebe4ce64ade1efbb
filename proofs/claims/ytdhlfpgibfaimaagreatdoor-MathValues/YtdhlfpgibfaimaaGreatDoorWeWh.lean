/- We; Wf; Wg; Wh. -/
import Derived.Test.YtdhlfpgibfaimaaGreatDoorVpVw
/- The document's small functions of values: True, sign, turned, beyond, size. -/
namespace Go.Proofs.YtdhlfpgibfaimaaGreatDoor
set_option linter.unusedVariables false
open Go.RowKit
attribute [local go_sem ↓] Go.wp_at_zero Go.wp_at_succ
theorem knum_any (v : Vl) (w : World) : Calls Tryz.prog 124 #[vlV v] w fun e w' => e = .returned (.bool (v.kind == 1)) ∧ Below w.heap.size w w' := by
  have ha := vlNew w v
  have hB : Below (w.alloc (vlO v)).heap.size (w.alloc (vlO v)) (w.alloc (vlO v)) := Below.refl _ _
  obtain ⟨a0, a1⟩ := ha.cells
  unfold vlV at *
  go_enter Tryz.func124, Tryz.ntmps124
  go_wp2
  go_ret
  exact ⟨rfl, (bW0 w _).trans (hB.mono (by simp))⟩
set_option maxRecDepth 100000 in
set_option maxHeartbeats 1000000 in
theorem rtrue_any (v : Vl) (w : World) : Calls Tryz.prog 125 #[vlV v] w fun e w' => e = .returned (.bool (truB v)) ∧ Below w.heap.size w w' := by
  have ha := vlNew w v
  have hB : Below (w.alloc (vlO v)).heap.size (w.alloc (vlO v)) (w.alloc (vlO v)) := Below.refl _ _
  obtain ⟨a0, a1⟩ := ha.cells
  unfold truB
  cases h1 : (v.kind == 1) <;> cases h2 : (v.n != 0) <;> cases h3 : (v.kind == 3) <;> cases h4 : (v.kind == 4) <;> cases h5 : (v.kind == 5)
  all_goals
    unfold vlV at *
    go_enter Tryz.func125, Tryz.ntmps125
    go_wp2
    go_ret
    exact ⟨rfl, (bW0 w _).trans (hB.mono (by simp))⟩
theorem rsize_any (n : Int) (h1 : -1000000000000000 ≤ n) (h2 : n ≤ 1000000000000000) (w : World) : Calls Tryz.prog 162 #[.int .i64 n] w fun e w' => e = .returned (.int .i64 (n.natAbs : Int)) ∧ Below w.heap.size w w' := by
  by_cases h : n < 0
  · obtain ⟨N, hN⟩ : ∃ N : Int, Hid (N = (n.natAbs : Int)) := ⟨_, rfl⟩
    have hw : IntKind.i64.wrap (-n) = N := by rw [IntKind.wrap_i64]; have := hN.out; omega
    have e : -n = N := by have := hN.out; omega
    rw [← hN.out]
    go_enter Tryz.func162, Tryz.ntmps162
    go_wp2
    go_ret
    exact ⟨rfl, Below.refl _ _⟩
  · have e : (n.natAbs : Int) = n := by omega
    rw [e]
    clear e
    go_enter Tryz.func162, Tryz.ntmps162
    go_wp2
    go_ret
    exact ⟨rfl, Below.refl _ _⟩
set_option maxRecDepth 100000 in
theorem rbeyond_any (s : Int) (w : World) : Calls Tryz.prog 161 #[.int .i64 s] w fun e w' => e = .returned (vlV (byd s)) ∧ Below w.heap.size w w' := by
  have hr := vlNew w zer
  have hB : Below (w.alloc (vlO zer)).heap.size (w.alloc (vlO zer)) (w.alloc (vlO zer)) := Below.refl _ _
  have hp := fun W => rplus_b W
  have hm := fun W => rminus_b W
  have hn := fun W => rnan_b W
  unfold vlV at hp hm hn
  by_cases h1 : 0 < s
  · have e : byd s = pls := by rw [byd, if_pos h1]
    rw [e]; clear e
    go_enter Tryz.func161, Tryz.ntmps161
    go_wp2_with (first | (go_at_call 56; with_reducible refine (hp _).mono ?_; rintro e w2 ⟨rfl, hb2⟩; replace hB := hB.trans (hb2.mono hB.size); obtain ⟨r0, r1⟩ := (hr.grow hB).cells; obtain ⟨rf0, rf1⟩ := (hr.grow hB).frozen))
    exact end_set Tryz.results161 rfl (Nat.le_refl _) (bW0 w _) hB hr
  · by_cases h2 : s < 0
    · have e : byd s = mns := by rw [byd, if_neg h1, if_pos h2]
      rw [e]; clear e
      go_enter Tryz.func161, Tryz.ntmps161
      go_wp2_with (first | (go_at_call 57; with_reducible refine (hm _).mono ?_; rintro e w2 ⟨rfl, hb2⟩; replace hB := hB.trans (hb2.mono hB.size); obtain ⟨r0, r1⟩ := (hr.grow hB).cells; obtain ⟨rf0, rf1⟩ := (hr.grow hB).frozen))
      exact end_set Tryz.results161 rfl (Nat.le_refl _) (bW0 w _) hB hr
    · have e : byd s = nan := by rw [byd, if_neg h1, if_neg h2]
      rw [e]; clear e
      go_enter Tryz.func161, Tryz.ntmps161
      go_wp2_with (first | (go_at_call 130; with_reducible refine (hn _).mono ?_; rintro e w2 ⟨rfl, hb2⟩; replace hB := hB.trans (hb2.mono hB.size); obtain ⟨r0, r1⟩ := (hr.grow hB).cells; obtain ⟨rf0, rf1⟩ := (hr.grow hB).frozen))
      exact end_set Tryz.results161 rfl (Nat.le_refl _) (bW0 w _) hB hr
set_option maxRecDepth 100000 in
theorem rsign_any (v : Vl) (w : World) : Calls Tryz.prog 126 #[vlV v] w fun e w' => e = .returned (.int .i64 (sgn v)) ∧ Below w.heap.size w w' := by
  have ha := vlNew w v
  have hB : Below (w.alloc (vlO v)).heap.size (w.alloc (vlO v)) (w.alloc (vlO v)) := Below.refl _ _
  obtain ⟨a0, a1⟩ := ha.cells
  by_cases h4 : v.kind = 4
  · have e : sgn v = 1 := by rw [sgn, if_pos (.inl h4)]
    have b4 : (v.kind == 4) = true := by simpa using h4
    rw [e]; clear e h4
    unfold vlV at *
    go_enter Tryz.func126, Tryz.ntmps126
    go_wp2
    go_ret
    exact ⟨rfl, (bW0 w _).trans (hB.mono (by simp))⟩
  · have b4 : (v.kind == 4) = false := by simpa using h4
    by_cases h1 : 0 < v.n
    · have e : sgn v = 1 := by rw [sgn, if_pos (.inr h1)]
      rw [e]; clear e h4
      unfold vlV at *
      go_enter Tryz.func126, Tryz.ntmps126
      go_wp2
      go_ret
      exact ⟨rfl, (bW0 w _).trans (hB.mono (by simp))⟩
    · by_cases h5 : v.kind = 5
      · have e : sgn v = -1 := by rw [sgn, if_neg (by intro h; rcases h with h | h; exact h4 h; exact h1 h), if_pos (.inl h5)]
        have b5 : (v.kind == 5) = true := by simpa using h5
        rw [e]; clear e h4 h5
        unfold vlV at *
        go_enter Tryz.func126, Tryz.ntmps126
        go_wp2
        go_ret
        exact ⟨rfl, (bW0 w _).trans (hB.mono (by simp))⟩
      · have b5 : (v.kind == 5) = false := by simpa using h5
        by_cases h0 : v.n < 0
        · have e : sgn v = -1 := by rw [sgn, if_neg (by intro h; rcases h with h | h; exact h4 h; exact h1 h), if_pos (.inr h0)]
          rw [e]; clear e h4 h5
          unfold vlV at *
          go_enter Tryz.func126, Tryz.ntmps126
          go_wp2
          go_ret
          exact ⟨rfl, (bW0 w _).trans (hB.mono (by simp))⟩
        · have e : sgn v = 0 := by rw [sgn, if_neg (by intro h; rcases h with h | h; exact h4 h; exact h1 h), if_neg (by intro h; rcases h with h | h; exact h5 h; exact h0 h)]
          rw [e]; clear e h4 h5
          unfold vlV at *
          go_enter Tryz.func126, Tryz.ntmps126
          go_wp2
          go_ret
          exact ⟨rfl, (bW0 w _).trans (hB.mono (by simp))⟩
end Go.Proofs.YtdhlfpgibfaimaaGreatDoor
/- The document's turned, add, Less, over. -/
namespace Go.Proofs.YtdhlfpgibfaimaaGreatDoor
set_option linter.unusedVariables false
open Go.RowKit
attribute [local go_sem ↓] Go.wp_at_zero Go.wp_at_succ
set_option maxRecDepth 100000 in
set_option maxHeartbeats 1000000 in
theorem radd_any (a b : Vl) (hva : IsV a) (hvb : IsV b) (oa : Ordy a) (ob : Ordy b) (w : World) : Calls Tryz.prog 131 #[vlV a, vlV b] w fun e w' => e = .returned (vlV (add a b)) ∧ Below w.heap.size w w' := by
  obtain ⟨ha, hb, hr⟩ := pW2 w a b
  have hB : Below (W2 w a b).heap.size (W2 w a b) (W2 w a b) := Below.refl _ _
  have hia := fun W => knum_any a W
  have hib := fun W => knum_any b W
  rcases ordy_cases hva oa with ⟨n, rfl, h1, h2⟩ | rfl | rfl <;> rcases ordy_cases hvb ob with ⟨m, rfl, h3, h4⟩ | rfl | rfl <;> clear hva hvb oa ob
  · have e : add ⟨1, n⟩ ⟨1, m⟩ = num (n + m) := by simp [add]
    rw [e]; clear e
    unfold vlV at hia hib ⊢
    go_enter Tryz.func131, Tryz.ntmps131
    go_wp2_with (first | (go_at_call 124; with_reducible refine (hia _).mono ?_; rintro e w2 ⟨rfl, hb2⟩; replace hB := hB.trans (hb2.mono hB.size); obtain ⟨a0, a1⟩ := (ha.grow hB).cells; obtain ⟨b0, b1⟩ := (hb.grow hB).cells; obtain ⟨r0, r1⟩ := (hr.grow hB).cells; obtain ⟨rf0, rf1⟩ := (hr.grow hB).frozen) | (go_at_call 124; with_reducible refine (hib _).mono ?_; rintro e w2 ⟨rfl, hb2⟩; replace hB := hB.trans (hb2.mono hB.size); obtain ⟨a0, a1⟩ := (ha.grow hB).cells; obtain ⟨b0, b1⟩ := (hb.grow hB).cells; obtain ⟨r0, r1⟩ := (hr.grow hB).cells; obtain ⟨rf0, rf1⟩ := (hr.grow hB).frozen) | (go_at_call 26; refine (rnum_any _ _).mono ?_; rintro e w2 ⟨rfl, hb2⟩; replace hB := hB.trans (hb2.mono hB.size); obtain ⟨a0, a1⟩ := (ha.grow hB).cells; obtain ⟨b0, b1⟩ := (hb.grow hB).cells; obtain ⟨r0, r1⟩ := (hr.grow hB).cells; obtain ⟨rf0, rf1⟩ := (hr.grow hB).frozen; unfold vlV) | (go_at_call 130; refine (rnan_b _).mono ?_; rintro e w2 ⟨rfl, hb2⟩; replace hB := hB.trans (hb2.mono hB.size); obtain ⟨a0, a1⟩ := (ha.grow hB).cells; obtain ⟨b0, b1⟩ := (hb.grow hB).cells; obtain ⟨r0, r1⟩ := (hr.grow hB).cells; obtain ⟨rf0, rf1⟩ := (hr.grow hB).frozen; unfold vlV))
    exact end_set (v := num (n + m)) Tryz.results131 rfl (by omega) (bW2 w _ _) hB hr
  · have e : add ⟨1, n⟩ pls = pls := by simp [add, pls]
    rw [e]; clear e
    unfold vlV at hia hib ⊢
    go_enter Tryz.func131, Tryz.ntmps131
    go_wp2_with (first | (go_at_call 124; with_reducible refine (hia _).mono ?_; rintro e w2 ⟨rfl, hb2⟩; replace hB := hB.trans (hb2.mono hB.size); obtain ⟨a0, a1⟩ := (ha.grow hB).cells; obtain ⟨b0, b1⟩ := (hb.grow hB).cells; obtain ⟨r0, r1⟩ := (hr.grow hB).cells; obtain ⟨rf0, rf1⟩ := (hr.grow hB).frozen) | (go_at_call 124; with_reducible refine (hib _).mono ?_; rintro e w2 ⟨rfl, hb2⟩; replace hB := hB.trans (hb2.mono hB.size); obtain ⟨a0, a1⟩ := (ha.grow hB).cells; obtain ⟨b0, b1⟩ := (hb.grow hB).cells; obtain ⟨r0, r1⟩ := (hr.grow hB).cells; obtain ⟨rf0, rf1⟩ := (hr.grow hB).frozen) | (go_at_call 26; refine (rnum_any _ _).mono ?_; rintro e w2 ⟨rfl, hb2⟩; replace hB := hB.trans (hb2.mono hB.size); obtain ⟨a0, a1⟩ := (ha.grow hB).cells; obtain ⟨b0, b1⟩ := (hb.grow hB).cells; obtain ⟨r0, r1⟩ := (hr.grow hB).cells; obtain ⟨rf0, rf1⟩ := (hr.grow hB).frozen; unfold vlV) | (go_at_call 130; refine (rnan_b _).mono ?_; rintro e w2 ⟨rfl, hb2⟩; replace hB := hB.trans (hb2.mono hB.size); obtain ⟨a0, a1⟩ := (ha.grow hB).cells; obtain ⟨b0, b1⟩ := (hb.grow hB).cells; obtain ⟨r0, r1⟩ := (hr.grow hB).cells; obtain ⟨rf0, rf1⟩ := (hr.grow hB).frozen; unfold vlV))
    exact end_set (v := pls) Tryz.results131 rfl (by omega) (bW2 w _ _) hB hr
  · have e : add ⟨1, n⟩ mns = mns := by simp [add, mns]
    rw [e]; clear e
    unfold vlV at hia hib ⊢
    go_enter Tryz.func131, Tryz.ntmps131
    go_wp2_with (first | (go_at_call 124; with_reducible refine (hia _).mono ?_; rintro e w2 ⟨rfl, hb2⟩; replace hB := hB.trans (hb2.mono hB.size); obtain ⟨a0, a1⟩ := (ha.grow hB).cells; obtain ⟨b0, b1⟩ := (hb.grow hB).cells; obtain ⟨r0, r1⟩ := (hr.grow hB).cells; obtain ⟨rf0, rf1⟩ := (hr.grow hB).frozen) | (go_at_call 124; with_reducible refine (hib _).mono ?_; rintro e w2 ⟨rfl, hb2⟩; replace hB := hB.trans (hb2.mono hB.size); obtain ⟨a0, a1⟩ := (ha.grow hB).cells; obtain ⟨b0, b1⟩ := (hb.grow hB).cells; obtain ⟨r0, r1⟩ := (hr.grow hB).cells; obtain ⟨rf0, rf1⟩ := (hr.grow hB).frozen) | (go_at_call 26; refine (rnum_any _ _).mono ?_; rintro e w2 ⟨rfl, hb2⟩; replace hB := hB.trans (hb2.mono hB.size); obtain ⟨a0, a1⟩ := (ha.grow hB).cells; obtain ⟨b0, b1⟩ := (hb.grow hB).cells; obtain ⟨r0, r1⟩ := (hr.grow hB).cells; obtain ⟨rf0, rf1⟩ := (hr.grow hB).frozen; unfold vlV) | (go_at_call 130; refine (rnan_b _).mono ?_; rintro e w2 ⟨rfl, hb2⟩; replace hB := hB.trans (hb2.mono hB.size); obtain ⟨a0, a1⟩ := (ha.grow hB).cells; obtain ⟨b0, b1⟩ := (hb.grow hB).cells; obtain ⟨r0, r1⟩ := (hr.grow hB).cells; obtain ⟨rf0, rf1⟩ := (hr.grow hB).frozen; unfold vlV))
    exact end_set (v := mns) Tryz.results131 rfl (by omega) (bW2 w _ _) hB hr
  · have e : add pls ⟨1, m⟩ = pls := by simp [add, pls]
    rw [e]; clear e
    unfold vlV at hia hib ⊢
    go_enter Tryz.func131, Tryz.ntmps131
    go_wp2_with (first | (go_at_call 124; with_reducible refine (hia _).mono ?_; rintro e w2 ⟨rfl, hb2⟩; replace hB := hB.trans (hb2.mono hB.size); obtain ⟨a0, a1⟩ := (ha.grow hB).cells; obtain ⟨b0, b1⟩ := (hb.grow hB).cells; obtain ⟨r0, r1⟩ := (hr.grow hB).cells; obtain ⟨rf0, rf1⟩ := (hr.grow hB).frozen) | (go_at_call 124; with_reducible refine (hib _).mono ?_; rintro e w2 ⟨rfl, hb2⟩; replace hB := hB.trans (hb2.mono hB.size); obtain ⟨a0, a1⟩ := (ha.grow hB).cells; obtain ⟨b0, b1⟩ := (hb.grow hB).cells; obtain ⟨r0, r1⟩ := (hr.grow hB).cells; obtain ⟨rf0, rf1⟩ := (hr.grow hB).frozen) | (go_at_call 26; refine (rnum_any _ _).mono ?_; rintro e w2 ⟨rfl, hb2⟩; replace hB := hB.trans (hb2.mono hB.size); obtain ⟨a0, a1⟩ := (ha.grow hB).cells; obtain ⟨b0, b1⟩ := (hb.grow hB).cells; obtain ⟨r0, r1⟩ := (hr.grow hB).cells; obtain ⟨rf0, rf1⟩ := (hr.grow hB).frozen; unfold vlV) | (go_at_call 130; refine (rnan_b _).mono ?_; rintro e w2 ⟨rfl, hb2⟩; replace hB := hB.trans (hb2.mono hB.size); obtain ⟨a0, a1⟩ := (ha.grow hB).cells; obtain ⟨b0, b1⟩ := (hb.grow hB).cells; obtain ⟨r0, r1⟩ := (hr.grow hB).cells; obtain ⟨rf0, rf1⟩ := (hr.grow hB).frozen; unfold vlV))
    exact end_set (v := pls) Tryz.results131 rfl (by omega) (bW2 w _ _) hB hr
  · have e : add pls pls = pls := by simp [add, pls]
    rw [e]; clear e
    unfold vlV at hia hib ⊢
    go_enter Tryz.func131, Tryz.ntmps131
    go_wp2_with (first | (go_at_call 124; with_reducible refine (hia _).mono ?_; rintro e w2 ⟨rfl, hb2⟩; replace hB := hB.trans (hb2.mono hB.size); obtain ⟨a0, a1⟩ := (ha.grow hB).cells; obtain ⟨b0, b1⟩ := (hb.grow hB).cells; obtain ⟨r0, r1⟩ := (hr.grow hB).cells; obtain ⟨rf0, rf1⟩ := (hr.grow hB).frozen) | (go_at_call 124; with_reducible refine (hib _).mono ?_; rintro e w2 ⟨rfl, hb2⟩; replace hB := hB.trans (hb2.mono hB.size); obtain ⟨a0, a1⟩ := (ha.grow hB).cells; obtain ⟨b0, b1⟩ := (hb.grow hB).cells; obtain ⟨r0, r1⟩ := (hr.grow hB).cells; obtain ⟨rf0, rf1⟩ := (hr.grow hB).frozen) | (go_at_call 26; refine (rnum_any _ _).mono ?_; rintro e w2 ⟨rfl, hb2⟩; replace hB := hB.trans (hb2.mono hB.size); obtain ⟨a0, a1⟩ := (ha.grow hB).cells; obtain ⟨b0, b1⟩ := (hb.grow hB).cells; obtain ⟨r0, r1⟩ := (hr.grow hB).cells; obtain ⟨rf0, rf1⟩ := (hr.grow hB).frozen; unfold vlV) | (go_at_call 130; refine (rnan_b _).mono ?_; rintro e w2 ⟨rfl, hb2⟩; replace hB := hB.trans (hb2.mono hB.size); obtain ⟨a0, a1⟩ := (ha.grow hB).cells; obtain ⟨b0, b1⟩ := (hb.grow hB).cells; obtain ⟨r0, r1⟩ := (hr.grow hB).cells; obtain ⟨rf0, rf1⟩ := (hr.grow hB).frozen; unfold vlV))
    exact end_set (v := pls) Tryz.results131 rfl (by omega) (bW2 w _ _) hB hr
  · have e : add pls mns = nan := by simp [add, pls, mns]
    rw [e]; clear e
    unfold vlV at hia hib ⊢
    go_enter Tryz.func131, Tryz.ntmps131
    go_wp2_with (first | (go_at_call 124; with_reducible refine (hia _).mono ?_; rintro e w2 ⟨rfl, hb2⟩; replace hB := hB.trans (hb2.mono hB.size); obtain ⟨a0, a1⟩ := (ha.grow hB).cells; obtain ⟨b0, b1⟩ := (hb.grow hB).cells; obtain ⟨r0, r1⟩ := (hr.grow hB).cells; obtain ⟨rf0, rf1⟩ := (hr.grow hB).frozen) | (go_at_call 124; with_reducible refine (hib _).mono ?_; rintro e w2 ⟨rfl, hb2⟩; replace hB := hB.trans (hb2.mono hB.size); obtain ⟨a0, a1⟩ := (ha.grow hB).cells; obtain ⟨b0, b1⟩ := (hb.grow hB).cells; obtain ⟨r0, r1⟩ := (hr.grow hB).cells; obtain ⟨rf0, rf1⟩ := (hr.grow hB).frozen) | (go_at_call 26; refine (rnum_any _ _).mono ?_; rintro e w2 ⟨rfl, hb2⟩; replace hB := hB.trans (hb2.mono hB.size); obtain ⟨a0, a1⟩ := (ha.grow hB).cells; obtain ⟨b0, b1⟩ := (hb.grow hB).cells; obtain ⟨r0, r1⟩ := (hr.grow hB).cells; obtain ⟨rf0, rf1⟩ := (hr.grow hB).frozen; unfold vlV) | (go_at_call 130; refine (rnan_b _).mono ?_; rintro e w2 ⟨rfl, hb2⟩; replace hB := hB.trans (hb2.mono hB.size); obtain ⟨a0, a1⟩ := (ha.grow hB).cells; obtain ⟨b0, b1⟩ := (hb.grow hB).cells; obtain ⟨r0, r1⟩ := (hr.grow hB).cells; obtain ⟨rf0, rf1⟩ := (hr.grow hB).frozen; unfold vlV))
    exact end_set (v := nan) Tryz.results131 rfl (by omega) (bW2 w _ _) hB hr
  · have e : add mns ⟨1, m⟩ = mns := by simp [add, mns]
    rw [e]; clear e
    unfold vlV at hia hib ⊢
    go_enter Tryz.func131, Tryz.ntmps131
    go_wp2_with (first | (go_at_call 124; with_reducible refine (hia _).mono ?_; rintro e w2 ⟨rfl, hb2⟩; replace hB := hB.trans (hb2.mono hB.size); obtain ⟨a0, a1⟩ := (ha.grow hB).cells; obtain ⟨b0, b1⟩ := (hb.grow hB).cells; obtain ⟨r0, r1⟩ := (hr.grow hB).cells; obtain ⟨rf0, rf1⟩ := (hr.grow hB).frozen) | (go_at_call 124; with_reducible refine (hib _).mono ?_; rintro e w2 ⟨rfl, hb2⟩; replace hB := hB.trans (hb2.mono hB.size); obtain ⟨a0, a1⟩ := (ha.grow hB).cells; obtain ⟨b0, b1⟩ := (hb.grow hB).cells; obtain ⟨r0, r1⟩ := (hr.grow hB).cells; obtain ⟨rf0, rf1⟩ := (hr.grow hB).frozen) | (go_at_call 26; refine (rnum_any _ _).mono ?_; rintro e w2 ⟨rfl, hb2⟩; replace hB := hB.trans (hb2.mono hB.size); obtain ⟨a0, a1⟩ := (ha.grow hB).cells; obtain ⟨b0, b1⟩ := (hb.grow hB).cells; obtain ⟨r0, r1⟩ := (hr.grow hB).cells; obtain ⟨rf0, rf1⟩ := (hr.grow hB).frozen; unfold vlV) | (go_at_call 130; refine (rnan_b _).mono ?_; rintro e w2 ⟨rfl, hb2⟩; replace hB := hB.trans (hb2.mono hB.size); obtain ⟨a0, a1⟩ := (ha.grow hB).cells; obtain ⟨b0, b1⟩ := (hb.grow hB).cells; obtain ⟨r0, r1⟩ := (hr.grow hB).cells; obtain ⟨rf0, rf1⟩ := (hr.grow hB).frozen; unfold vlV))
    exact end_set (v := mns) Tryz.results131 rfl (by omega) (bW2 w _ _) hB hr
  · have e : add mns pls = nan := by simp [add, pls, mns]
    rw [e]; clear e
    unfold vlV at hia hib ⊢
    go_enter Tryz.func131, Tryz.ntmps131
    go_wp2_with (first | (go_at_call 124; with_reducible refine (hia _).mono ?_; rintro e w2 ⟨rfl, hb2⟩; replace hB := hB.trans (hb2.mono hB.size); obtain ⟨a0, a1⟩ := (ha.grow hB).cells; obtain ⟨b0, b1⟩ := (hb.grow hB).cells; obtain ⟨r0, r1⟩ := (hr.grow hB).cells; obtain ⟨rf0, rf1⟩ := (hr.grow hB).frozen) | (go_at_call 124; with_reducible refine (hib _).mono ?_; rintro e w2 ⟨rfl, hb2⟩; replace hB := hB.trans (hb2.mono hB.size); obtain ⟨a0, a1⟩ := (ha.grow hB).cells; obtain ⟨b0, b1⟩ := (hb.grow hB).cells; obtain ⟨r0, r1⟩ := (hr.grow hB).cells; obtain ⟨rf0, rf1⟩ := (hr.grow hB).frozen) | (go_at_call 26; refine (rnum_any _ _).mono ?_; rintro e w2 ⟨rfl, hb2⟩; replace hB := hB.trans (hb2.mono hB.size); obtain ⟨a0, a1⟩ := (ha.grow hB).cells; obtain ⟨b0, b1⟩ := (hb.grow hB).cells; obtain ⟨r0, r1⟩ := (hr.grow hB).cells; obtain ⟨rf0, rf1⟩ := (hr.grow hB).frozen; unfold vlV) | (go_at_call 130; refine (rnan_b _).mono ?_; rintro e w2 ⟨rfl, hb2⟩; replace hB := hB.trans (hb2.mono hB.size); obtain ⟨a0, a1⟩ := (ha.grow hB).cells; obtain ⟨b0, b1⟩ := (hb.grow hB).cells; obtain ⟨r0, r1⟩ := (hr.grow hB).cells; obtain ⟨rf0, rf1⟩ := (hr.grow hB).frozen; unfold vlV))
    exact end_set (v := nan) Tryz.results131 rfl (by omega) (bW2 w _ _) hB hr
  · have e : add mns mns = mns := by simp [add, mns]
    rw [e]; clear e
    unfold vlV at hia hib ⊢
    go_enter Tryz.func131, Tryz.ntmps131
    go_wp2_with (first | (go_at_call 124; with_reducible refine (hia _).mono ?_; rintro e w2 ⟨rfl, hb2⟩; replace hB := hB.trans (hb2.mono hB.size); obtain ⟨a0, a1⟩ := (ha.grow hB).cells; obtain ⟨b0, b1⟩ := (hb.grow hB).cells; obtain ⟨r0, r1⟩ := (hr.grow hB).cells; obtain ⟨rf0, rf1⟩ := (hr.grow hB).frozen) | (go_at_call 124; with_reducible refine (hib _).mono ?_; rintro e w2 ⟨rfl, hb2⟩; replace hB := hB.trans (hb2.mono hB.size); obtain ⟨a0, a1⟩ := (ha.grow hB).cells; obtain ⟨b0, b1⟩ := (hb.grow hB).cells; obtain ⟨r0, r1⟩ := (hr.grow hB).cells; obtain ⟨rf0, rf1⟩ := (hr.grow hB).frozen) | (go_at_call 26; refine (rnum_any _ _).mono ?_; rintro e w2 ⟨rfl, hb2⟩; replace hB := hB.trans (hb2.mono hB.size); obtain ⟨a0, a1⟩ := (ha.grow hB).cells; obtain ⟨b0, b1⟩ := (hb.grow hB).cells; obtain ⟨r0, r1⟩ := (hr.grow hB).cells; obtain ⟨rf0, rf1⟩ := (hr.grow hB).frozen; unfold vlV) | (go_at_call 130; refine (rnan_b _).mono ?_; rintro e w2 ⟨rfl, hb2⟩; replace hB := hB.trans (hb2.mono hB.size); obtain ⟨a0, a1⟩ := (ha.grow hB).cells; obtain ⟨b0, b1⟩ := (hb.grow hB).cells; obtain ⟨r0, r1⟩ := (hr.grow hB).cells; obtain ⟨rf0, rf1⟩ := (hr.grow hB).frozen; unfold vlV))
    exact end_set (v := mns) Tryz.results131 rfl (by omega) (bW2 w _ _) hB hr
set_option maxRecDepth 100000 in
set_option maxHeartbeats 1000000 in
theorem rless_any (a b : Vl) (hva : IsV a) (hvb : IsV b) (oa : Ordy a) (ob : Ordy b) (w : World) : Calls Tryz.prog 129 #[vlV a, vlV b] w fun e w' => e = .returned (.bool (lessB a b)) ∧ Below w.heap.size w w' := by
  have ha : VlAt ((w.alloc (vlO a)).alloc (vlO b)) w.heap.size a := (vlNew w a).alloc _
  have hb : VlAt ((w.alloc (vlO a)).alloc (vlO b)) (w.heap.size + 1) b := vlNew1 w _ b
  have hO : Below w.heap.size w ((w.alloc (vlO a)).alloc (vlO b)) := below2 w _ _
  have hB : Below ((w.alloc (vlO a)).alloc (vlO b)).heap.size ((w.alloc (vlO a)).alloc (vlO b)) ((w.alloc (vlO a)).alloc (vlO b)) := Below.refl _ _
  have hia := fun W => knum_any a W
  have hib := fun W => knum_any b W
  rcases ordy_cases hva oa with ⟨n, rfl, h1, h2⟩ | rfl | rfl <;> rcases ordy_cases hvb ob with ⟨m, rfl, h3, h4⟩ | rfl | rfl <;> clear hva hvb oa ob
  · have e : lessB ⟨1, n⟩ ⟨1, m⟩ = decide (n < m) := by simp [lessB]
    rw [e]; clear e
    unfold vlV at hia hib ⊢
    go_enter Tryz.func129, Tryz.ntmps129
    go_wp2_with (first | (go_at_call 124; with_reducible refine (hia _).mono ?_; rintro e w2 ⟨rfl, hb2⟩; replace hB := hB.trans (hb2.mono hB.size); obtain ⟨a0, a1⟩ := (ha.grow hB).cells; obtain ⟨b0, b1⟩ := (hb.grow hB).cells) | (go_at_call 124; with_reducible refine (hib _).mono ?_; rintro e w2 ⟨rfl, hb2⟩; replace hB := hB.trans (hb2.mono hB.size); obtain ⟨a0, a1⟩ := (ha.grow hB).cells; obtain ⟨b0, b1⟩ := (hb.grow hB).cells))
    go_ret
    exact ⟨rfl, hO.trans (hB.mono hO.size)⟩
  · have e : lessB ⟨1, n⟩ pls = true := by simp [lessB, pls]
    rw [e]; clear e
    unfold vlV at hia hib ⊢
    go_enter Tryz.func129, Tryz.ntmps129
    go_wp2_with (first | (go_at_call 124; with_reducible refine (hia _).mono ?_; rintro e w2 ⟨rfl, hb2⟩; replace hB := hB.trans (hb2.mono hB.size); obtain ⟨a0, a1⟩ := (ha.grow hB).cells; obtain ⟨b0, b1⟩ := (hb.grow hB).cells) | (go_at_call 124; with_reducible refine (hib _).mono ?_; rintro e w2 ⟨rfl, hb2⟩; replace hB := hB.trans (hb2.mono hB.size); obtain ⟨a0, a1⟩ := (ha.grow hB).cells; obtain ⟨b0, b1⟩ := (hb.grow hB).cells))
    go_ret
    exact ⟨rfl, hO.trans (hB.mono hO.size)⟩
  · have e : lessB ⟨1, n⟩ mns = false := by simp [lessB, mns]
    rw [e]; clear e
    unfold vlV at hia hib ⊢
    go_enter Tryz.func129, Tryz.ntmps129
    go_wp2_with (first | (go_at_call 124; with_reducible refine (hia _).mono ?_; rintro e w2 ⟨rfl, hb2⟩; replace hB := hB.trans (hb2.mono hB.size); obtain ⟨a0, a1⟩ := (ha.grow hB).cells; obtain ⟨b0, b1⟩ := (hb.grow hB).cells) | (go_at_call 124; with_reducible refine (hib _).mono ?_; rintro e w2 ⟨rfl, hb2⟩; replace hB := hB.trans (hb2.mono hB.size); obtain ⟨a0, a1⟩ := (ha.grow hB).cells; obtain ⟨b0, b1⟩ := (hb.grow hB).cells))
    go_ret
    exact ⟨rfl, hO.trans (hB.mono hO.size)⟩
  · have e : lessB pls ⟨1, m⟩ = false := by simp [lessB, pls]
    rw [e]; clear e
    unfold vlV at hia hib ⊢
    go_enter Tryz.func129, Tryz.ntmps129
    go_wp2_with (first | (go_at_call 124; with_reducible refine (hia _).mono ?_; rintro e w2 ⟨rfl, hb2⟩; replace hB := hB.trans (hb2.mono hB.size); obtain ⟨a0, a1⟩ := (ha.grow hB).cells; obtain ⟨b0, b1⟩ := (hb.grow hB).cells) | (go_at_call 124; with_reducible refine (hib _).mono ?_; rintro e w2 ⟨rfl, hb2⟩; replace hB := hB.trans (hb2.mono hB.size); obtain ⟨a0, a1⟩ := (ha.grow hB).cells; obtain ⟨b0, b1⟩ := (hb.grow hB).cells))
    go_ret
    exact ⟨rfl, hO.trans (hB.mono hO.size)⟩
  · have e : lessB pls pls = false := by simp [lessB, pls]
    rw [e]; clear e
    unfold vlV at hia hib ⊢
    go_enter Tryz.func129, Tryz.ntmps129
    go_wp2_with (first | (go_at_call 124; with_reducible refine (hia _).mono ?_; rintro e w2 ⟨rfl, hb2⟩; replace hB := hB.trans (hb2.mono hB.size); obtain ⟨a0, a1⟩ := (ha.grow hB).cells; obtain ⟨b0, b1⟩ := (hb.grow hB).cells) | (go_at_call 124; with_reducible refine (hib _).mono ?_; rintro e w2 ⟨rfl, hb2⟩; replace hB := hB.trans (hb2.mono hB.size); obtain ⟨a0, a1⟩ := (ha.grow hB).cells; obtain ⟨b0, b1⟩ := (hb.grow hB).cells))
    go_ret
    exact ⟨rfl, hO.trans (hB.mono hO.size)⟩
  · have e : lessB pls mns = false := by simp [lessB, pls, mns]
    rw [e]; clear e
    unfold vlV at hia hib ⊢
    go_enter Tryz.func129, Tryz.ntmps129
    go_wp2_with (first | (go_at_call 124; with_reducible refine (hia _).mono ?_; rintro e w2 ⟨rfl, hb2⟩; replace hB := hB.trans (hb2.mono hB.size); obtain ⟨a0, a1⟩ := (ha.grow hB).cells; obtain ⟨b0, b1⟩ := (hb.grow hB).cells) | (go_at_call 124; with_reducible refine (hib _).mono ?_; rintro e w2 ⟨rfl, hb2⟩; replace hB := hB.trans (hb2.mono hB.size); obtain ⟨a0, a1⟩ := (ha.grow hB).cells; obtain ⟨b0, b1⟩ := (hb.grow hB).cells))
    go_ret
    exact ⟨rfl, hO.trans (hB.mono hO.size)⟩
  · have e : lessB mns ⟨1, m⟩ = true := by simp [lessB, mns]
    rw [e]; clear e
    unfold vlV at hia hib ⊢
    go_enter Tryz.func129, Tryz.ntmps129
    go_wp2_with (first | (go_at_call 124; with_reducible refine (hia _).mono ?_; rintro e w2 ⟨rfl, hb2⟩; replace hB := hB.trans (hb2.mono hB.size); obtain ⟨a0, a1⟩ := (ha.grow hB).cells; obtain ⟨b0, b1⟩ := (hb.grow hB).cells) | (go_at_call 124; with_reducible refine (hib _).mono ?_; rintro e w2 ⟨rfl, hb2⟩; replace hB := hB.trans (hb2.mono hB.size); obtain ⟨a0, a1⟩ := (ha.grow hB).cells; obtain ⟨b0, b1⟩ := (hb.grow hB).cells))
    go_ret
    exact ⟨rfl, hO.trans (hB.mono hO.size)⟩
  · have e : lessB mns pls = true := by simp [lessB, pls, mns]
    rw [e]; clear e
    unfold vlV at hia hib ⊢
    go_enter Tryz.func129, Tryz.ntmps129
    go_wp2_with (first | (go_at_call 124; with_reducible refine (hia _).mono ?_; rintro e w2 ⟨rfl, hb2⟩; replace hB := hB.trans (hb2.mono hB.size); obtain ⟨a0, a1⟩ := (ha.grow hB).cells; obtain ⟨b0, b1⟩ := (hb.grow hB).cells) | (go_at_call 124; with_reducible refine (hib _).mono ?_; rintro e w2 ⟨rfl, hb2⟩; replace hB := hB.trans (hb2.mono hB.size); obtain ⟨a0, a1⟩ := (ha.grow hB).cells; obtain ⟨b0, b1⟩ := (hb.grow hB).cells))
    go_ret
    exact ⟨rfl, hO.trans (hB.mono hO.size)⟩
  · have e : lessB mns mns = false := by simp [lessB, mns]
    rw [e]; clear e
    unfold vlV at hia hib ⊢
    go_enter Tryz.func129, Tryz.ntmps129
    go_wp2_with (first | (go_at_call 124; with_reducible refine (hia _).mono ?_; rintro e w2 ⟨rfl, hb2⟩; replace hB := hB.trans (hb2.mono hB.size); obtain ⟨a0, a1⟩ := (ha.grow hB).cells; obtain ⟨b0, b1⟩ := (hb.grow hB).cells) | (go_at_call 124; with_reducible refine (hib _).mono ?_; rintro e w2 ⟨rfl, hb2⟩; replace hB := hB.trans (hb2.mono hB.size); obtain ⟨a0, a1⟩ := (ha.grow hB).cells; obtain ⟨b0, b1⟩ := (hb.grow hB).cells))
    go_ret
    exact ⟨rfl, hO.trans (hB.mono hO.size)⟩
end Go.Proofs.YtdhlfpgibfaimaaGreatDoor
/- The document's turned. -/
namespace Go.Proofs.YtdhlfpgibfaimaaGreatDoor
set_option linter.unusedVariables false
open Go.RowKit
attribute [local go_sem ↓] Go.wp_at_zero Go.wp_at_succ
set_option maxRecDepth 100000 in
set_option maxHeartbeats 1000000 in
theorem rturned_any (v : Vl) (hv : IsV v) (w : World) : Calls Tryz.prog 127 #[vlV v] w fun e w' => e = .returned (vlV (neg v)) ∧ Below w.heap.size w w' := by
  obtain ⟨ha, hr⟩ := pW1 w v
  have hB : Below (W1 w v).heap.size (W1 w v) (W1 w v) := Below.refl _ _
  rcases hv.cases with ⟨n, rfl, h1, h2⟩ | rfl | rfl | rfl | rfl
  · have e : neg ⟨1, n⟩ = ⟨1, -n⟩ := by simp [neg]
    have hw : IntKind.i64.wrap (-n) = -n := by rw [IntKind.wrap_i64]; omega
    rw [e]; clear e
    unfold vlV
    go_enter Tryz.func127, Tryz.ntmps127
    go_wp2
    exact ret_cell Tryz.results127 rfl (vlNew1 w _ ⟨1, -n⟩) ⟨rfl, (bW0 w _).alloc (by simp) _⟩
  · unfold vlV
    go_enter Tryz.func127, Tryz.ntmps127
    go_wp2
    have e : (⟨nul.kind, wrap64 (-nul.n)⟩ : Vl) = neg nul := by decide +kernel
    exact ret_cell (v := ⟨nul.kind, wrap64 (-nul.n)⟩) Tryz.results127 rfl (vlNew1 w _ ⟨nul.kind, wrap64 (-nul.n)⟩) ⟨by rw [e]; rfl, (bW0 w _).alloc (by simp) _⟩
  · unfold vlV
    go_enter Tryz.func127, Tryz.ntmps127
    go_wp2
    have e : (⟨nan.kind, wrap64 (-nan.n)⟩ : Vl) = neg nan := by decide +kernel
    exact ret_cell (v := ⟨nan.kind, wrap64 (-nan.n)⟩) Tryz.results127 rfl (vlNew1 w _ ⟨nan.kind, wrap64 (-nan.n)⟩) ⟨by rw [e]; rfl, (bW0 w _).alloc (by simp) _⟩
  · unfold vlV
    go_enter Tryz.func127, Tryz.ntmps127
    go_wp2_with (first | (go_at_call 57; refine (rminus_b _).mono ?_; rintro e w2 ⟨rfl, hb2⟩; replace hB := hB.trans (hb2.mono hB.size); obtain ⟨a0, a1⟩ := (ha.grow hB).cells; obtain ⟨af0, af1⟩ := (ha.grow hB).frozen; obtain ⟨r0, r1⟩ := (hr.grow hB).cells; obtain ⟨rf0, rf1⟩ := (hr.grow hB).frozen; unfold vlV))
    exact end_set (v := mns) Tryz.results127 rfl (by omega) (bW1 w _) hB hr
  · unfold vlV
    go_enter Tryz.func127, Tryz.ntmps127
    go_wp2_with (first | (go_at_call 56; refine (rplus_b _).mono ?_; rintro e w2 ⟨rfl, hb2⟩; replace hB := hB.trans (hb2.mono hB.size); obtain ⟨a0, a1⟩ := (ha.grow hB).cells; obtain ⟨af0, af1⟩ := (ha.grow hB).frozen; obtain ⟨r0, r1⟩ := (hr.grow hB).cells; obtain ⟨rf0, rf1⟩ := (hr.grow hB).frozen; unfold vlV))
    exact end_set (v := pls) Tryz.results127 rfl (by omega) (bW1 w _) hB hr
end Go.Proofs.YtdhlfpgibfaimaaGreatDoor
/- The document's over. -/
namespace Go.Proofs.YtdhlfpgibfaimaaGreatDoor
set_option linter.unusedVariables false
set_option linter.unusedSimpArgs false
open Go.RowKit
attribute [local go_sem ↓] Go.wp_at_zero Go.wp_at_succ
set_option maxRecDepth 100000 in
set_option maxHeartbeats 2000000 in
theorem rover_any (a b : Vl) (hva : IsV a) (hvb : IsV b) (oa : Ordy a) (ob : Ordy b) (w : World) : Calls Tryz.prog 133 #[vlV a, vlV b] w fun e w' => e = .returned (vlV (dvd a b)) ∧ Below w.heap.size w w' := by
  obtain ⟨ha, hb, hr⟩ := pW2 w a b
  have hB : Below (W2 w a b).heap.size (W2 w a b) (W2 w a b) := Below.refl _ _
  have hia := fun W => knum_any a W
  have hib := fun W => knum_any b W
  have hsg := fun W => rsign_any a W
  have hby := fun W => rbeyond_any (sgn a) W
  have htu := fun W => rturned_any a hva W
  have hn0 := fun W => rnum_any 0 W
  have e0 : num 0 = ⟨1, 0⟩ := rfl
  rw [e0] at hn0
  clear e0
  rcases ordy_cases hva oa with ⟨n, rfl, h1, h2⟩ | rfl | rfl <;> rcases ordy_cases hvb ob with ⟨m, rfl, h3, h4⟩ | rfl | rfl <;> clear hva hvb oa ob
  · by_cases hm : m = 0
    · subst hm
      have e : dvd ⟨1, n⟩ ⟨1, 0⟩ = byd (sgn ⟨1, n⟩) := by simp [dvd]
      rw [e]; clear e htu hn0
      generalize sgn ⟨1, n⟩ = s at *
      generalize byd s = V at *
      unfold vlV at *
      go_enter Tryz.func133, Tryz.ntmps133
      go_wp2_with (first | (go_at_call 124; with_reducible refine (hia _).mono ?_; rintro e w2 ⟨rfl, hb2⟩; replace hB := hB.trans (hb2.mono hB.size); obtain ⟨a0, a1⟩ := (ha.grow hB).cells; obtain ⟨b0, b1⟩ := (hb.grow hB).cells; obtain ⟨r0, r1⟩ := (hr.grow hB).cells; obtain ⟨rf0, rf1⟩ := (hr.grow hB).frozen) | (go_at_call 124; with_reducible refine (hib _).mono ?_; rintro e w2 ⟨rfl, hb2⟩; replace hB := hB.trans (hb2.mono hB.size); obtain ⟨a0, a1⟩ := (ha.grow hB).cells; obtain ⟨b0, b1⟩ := (hb.grow hB).cells; obtain ⟨r0, r1⟩ := (hr.grow hB).cells; obtain ⟨rf0, rf1⟩ := (hr.grow hB).frozen) | (go_at_call 126; with_reducible refine (hsg _).mono ?_; rintro e w2 ⟨rfl, hb2⟩; replace hB := hB.trans (hb2.mono hB.size); obtain ⟨a0, a1⟩ := (ha.grow hB).cells; obtain ⟨b0, b1⟩ := (hb.grow hB).cells; obtain ⟨r0, r1⟩ := (hr.grow hB).cells; obtain ⟨rf0, rf1⟩ := (hr.grow hB).frozen) | (go_at_call 161; with_reducible refine (hby _).mono ?_; rintro e w2 ⟨rfl, hb2⟩; replace hB := hB.trans (hb2.mono hB.size); obtain ⟨a0, a1⟩ := (ha.grow hB).cells; obtain ⟨b0, b1⟩ := (hb.grow hB).cells; obtain ⟨r0, r1⟩ := (hr.grow hB).cells; obtain ⟨rf0, rf1⟩ := (hr.grow hB).frozen))
      exact end_set (v := V) Tryz.results133 rfl (by omega) (bW2 w _ _) hB hr
    · have e : dvd ⟨1, n⟩ ⟨1, m⟩ = num (Int.tdiv (n * 1000) m) := by simp [dvd, hm]
      rw [e]; clear e htu hn0 hsg hby
      have bm : (m == 0) = false := by simpa using hm
      have hw1 : IntKind.i64.wrap (n * 1000) = n * 1000 := by rw [IntKind.wrap_i64]; omega
      have hq : (Int.tdiv (n * 1000) m).natAbs ≤ 1000000000000000000 := by
        rw [Int.natAbs_tdiv]
        exact Nat.le_trans (Nat.div_le_self _ _) (by omega)
      have hw2 : IntKind.i64.wrap (Int.tdiv (n * 1000) m) = Int.tdiv (n * 1000) m := by rw [IntKind.wrap_i64]; omega
      have hnq := fun W => rnum_any (Int.tdiv (n * 1000) m) W
      generalize hQ : Int.tdiv (n * 1000) m = Q at *
      generalize num Q = V at *
      clear hq
      unfold vlV at *
      go_enter Tryz.func133, Tryz.ntmps133
      go_wp2_with (first | (go_at_call 124; with_reducible refine (hia _).mono ?_; rintro e w2 ⟨rfl, hb2⟩; replace hB := hB.trans (hb2.mono hB.size); obtain ⟨a0, a1⟩ := (ha.grow hB).cells; obtain ⟨b0, b1⟩ := (hb.grow hB).cells; obtain ⟨r0, r1⟩ := (hr.grow hB).cells; obtain ⟨rf0, rf1⟩ := (hr.grow hB).frozen) | (go_at_call 124; with_reducible refine (hib _).mono ?_; rintro e w2 ⟨rfl, hb2⟩; replace hB := hB.trans (hb2.mono hB.size); obtain ⟨a0, a1⟩ := (ha.grow hB).cells; obtain ⟨b0, b1⟩ := (hb.grow hB).cells; obtain ⟨r0, r1⟩ := (hr.grow hB).cells; obtain ⟨rf0, rf1⟩ := (hr.grow hB).frozen) | (go_at_call 26; with_reducible refine (hnq _).mono ?_; rintro e w2 ⟨rfl, hb2⟩; replace hB := hB.trans (hb2.mono hB.size); obtain ⟨a0, a1⟩ := (ha.grow hB).cells; obtain ⟨b0, b1⟩ := (hb.grow hB).cells; obtain ⟨r0, r1⟩ := (hr.grow hB).cells; obtain ⟨rf0, rf1⟩ := (hr.grow hB).frozen))
      exact end_set (v := V) Tryz.results133 rfl (by omega) (bW2 w _ _) hB hr
  · have e : dvd ⟨1, n⟩ pls = ⟨1, 0⟩ := by simp [dvd, pls]
    rw [e]; clear e htu hsg hby
    unfold vlV at *
    go_enter Tryz.func133, Tryz.ntmps133
    go_wp2_with (first | (go_at_call 124; with_reducible refine (hia _).mono ?_; rintro e w2 ⟨rfl, hb2⟩; replace hB := hB.trans (hb2.mono hB.size); obtain ⟨a0, a1⟩ := (ha.grow hB).cells; obtain ⟨b0, b1⟩ := (hb.grow hB).cells; obtain ⟨r0, r1⟩ := (hr.grow hB).cells; obtain ⟨rf0, rf1⟩ := (hr.grow hB).frozen) | (go_at_call 124; with_reducible refine (hib _).mono ?_; rintro e w2 ⟨rfl, hb2⟩; replace hB := hB.trans (hb2.mono hB.size); obtain ⟨a0, a1⟩ := (ha.grow hB).cells; obtain ⟨b0, b1⟩ := (hb.grow hB).cells; obtain ⟨r0, r1⟩ := (hr.grow hB).cells; obtain ⟨rf0, rf1⟩ := (hr.grow hB).frozen) | (go_at_call 26; with_reducible refine (hn0 _).mono ?_; rintro e w2 ⟨rfl, hb2⟩; replace hB := hB.trans (hb2.mono hB.size); obtain ⟨a0, a1⟩ := (ha.grow hB).cells; obtain ⟨b0, b1⟩ := (hb.grow hB).cells; obtain ⟨r0, r1⟩ := (hr.grow hB).cells; obtain ⟨rf0, rf1⟩ := (hr.grow hB).frozen))
    exact end_set (v := ⟨1, 0⟩) Tryz.results133 rfl (by omega) (bW2 w _ _) hB hr
  · have e : dvd ⟨1, n⟩ mns = ⟨1, 0⟩ := by simp [dvd, mns]
    rw [e]; clear e htu hsg hby
    unfold vlV at *
    go_enter Tryz.func133, Tryz.ntmps133
    go_wp2_with (first | (go_at_call 124; with_reducible refine (hia _).mono ?_; rintro e w2 ⟨rfl, hb2⟩; replace hB := hB.trans (hb2.mono hB.size); obtain ⟨a0, a1⟩ := (ha.grow hB).cells; obtain ⟨b0, b1⟩ := (hb.grow hB).cells; obtain ⟨r0, r1⟩ := (hr.grow hB).cells; obtain ⟨rf0, rf1⟩ := (hr.grow hB).frozen) | (go_at_call 124; with_reducible refine (hib _).mono ?_; rintro e w2 ⟨rfl, hb2⟩; replace hB := hB.trans (hb2.mono hB.size); obtain ⟨a0, a1⟩ := (ha.grow hB).cells; obtain ⟨b0, b1⟩ := (hb.grow hB).cells; obtain ⟨r0, r1⟩ := (hr.grow hB).cells; obtain ⟨rf0, rf1⟩ := (hr.grow hB).frozen) | (go_at_call 26; with_reducible refine (hn0 _).mono ?_; rintro e w2 ⟨rfl, hb2⟩; replace hB := hB.trans (hb2.mono hB.size); obtain ⟨a0, a1⟩ := (ha.grow hB).cells; obtain ⟨b0, b1⟩ := (hb.grow hB).cells; obtain ⟨r0, r1⟩ := (hr.grow hB).cells; obtain ⟨rf0, rf1⟩ := (hr.grow hB).frozen))
    exact end_set (v := ⟨1, 0⟩) Tryz.results133 rfl (by omega) (bW2 w _ _) hB hr
  · clear hn0 hsg hby
    by_cases hm : m < 0
    · have e : dvd pls ⟨1, m⟩ = mns := by simp [dvd, pls, mns, neg, hm]
      have e2 : neg pls = mns := by simp [neg, pls, mns]
      rw [e]; clear e
      rw [e2] at htu; clear e2
      unfold vlV at *
      go_enter Tryz.func133, Tryz.ntmps133
      go_wp2_with (first | (go_at_call 124; with_reducible refine (hia _).mono ?_; rintro e w2 ⟨rfl, hb2⟩; replace hB := hB.trans (hb2.mono hB.size); obtain ⟨a0, a1⟩ := (ha.grow hB).cells; obtain ⟨b0, b1⟩ := (hb.grow hB).cells; obtain ⟨r0, r1⟩ := (hr.grow hB).cells; obtain ⟨rf0, rf1⟩ := (hr.grow hB).frozen) | (go_at_call 124; with_reducible refine (hib _).mono ?_; rintro e w2 ⟨rfl, hb2⟩; replace hB := hB.trans (hb2.mono hB.size); obtain ⟨a0, a1⟩ := (ha.grow hB).cells; obtain ⟨b0, b1⟩ := (hb.grow hB).cells; obtain ⟨r0, r1⟩ := (hr.grow hB).cells; obtain ⟨rf0, rf1⟩ := (hr.grow hB).frozen) | (go_at_call 127; with_reducible refine (htu _).mono ?_; rintro e w2 ⟨rfl, hb2⟩; replace hB := hB.trans (hb2.mono hB.size); obtain ⟨a0, a1⟩ := (ha.grow hB).cells; obtain ⟨b0, b1⟩ := (hb.grow hB).cells; obtain ⟨r0, r1⟩ := (hr.grow hB).cells; obtain ⟨rf0, rf1⟩ := (hr.grow hB).frozen))
      exact end_set (v := mns) Tryz.results133 rfl (by omega) (bW2 w _ _) hB hr
    · have e : dvd pls ⟨1, m⟩ = pls := by simp [dvd, pls, mns, hm]
      rw [e]; clear e htu
      unfold vlV at *
      go_enter Tryz.func133, Tryz.ntmps133
      go_wp2_with (first | (go_at_call 124; with_reducible refine (hia _).mono ?_; rintro e w2 ⟨rfl, hb2⟩; replace hB := hB.trans (hb2.mono hB.size); obtain ⟨a0, a1⟩ := (ha.grow hB).cells; obtain ⟨b0, b1⟩ := (hb.grow hB).cells; obtain ⟨r0, r1⟩ := (hr.grow hB).cells; obtain ⟨rf0, rf1⟩ := (hr.grow hB).frozen) | (go_at_call 124; with_reducible refine (hib _).mono ?_; rintro e w2 ⟨rfl, hb2⟩; replace hB := hB.trans (hb2.mono hB.size); obtain ⟨a0, a1⟩ := (ha.grow hB).cells; obtain ⟨b0, b1⟩ := (hb.grow hB).cells; obtain ⟨r0, r1⟩ := (hr.grow hB).cells; obtain ⟨rf0, rf1⟩ := (hr.grow hB).frozen))
      exact end_set (v := pls) Tryz.results133 rfl (by omega) (bW2 w _ _) hB hr
  · have e : dvd pls pls = nan := by simp [dvd, pls, mns]
    rw [e]; clear e htu hn0 hsg hby
    unfold vlV at *
    go_enter Tryz.func133, Tryz.ntmps133
    go_wp2_with (first | (go_at_call 124; with_reducible refine (hia _).mono ?_; rintro e w2 ⟨rfl, hb2⟩; replace hB := hB.trans (hb2.mono hB.size); obtain ⟨a0, a1⟩ := (ha.grow hB).cells; obtain ⟨b0, b1⟩ := (hb.grow hB).cells; obtain ⟨r0, r1⟩ := (hr.grow hB).cells; obtain ⟨rf0, rf1⟩ := (hr.grow hB).frozen) | (go_at_call 124; with_reducible refine (hib _).mono ?_; rintro e w2 ⟨rfl, hb2⟩; replace hB := hB.trans (hb2.mono hB.size); obtain ⟨a0, a1⟩ := (ha.grow hB).cells; obtain ⟨b0, b1⟩ := (hb.grow hB).cells; obtain ⟨r0, r1⟩ := (hr.grow hB).cells; obtain ⟨rf0, rf1⟩ := (hr.grow hB).frozen) | (go_at_call 130; refine (rnan_b _).mono ?_; rintro e w2 ⟨rfl, hb2⟩; replace hB := hB.trans (hb2.mono hB.size); obtain ⟨a0, a1⟩ := (ha.grow hB).cells; obtain ⟨b0, b1⟩ := (hb.grow hB).cells; obtain ⟨r0, r1⟩ := (hr.grow hB).cells; obtain ⟨rf0, rf1⟩ := (hr.grow hB).frozen; unfold vlV))
    exact end_set (v := nan) Tryz.results133 rfl (by omega) (bW2 w _ _) hB hr
  · have e : dvd pls mns = nan := by simp [dvd, pls, mns]
    rw [e]; clear e htu hn0 hsg hby
    unfold vlV at *
    go_enter Tryz.func133, Tryz.ntmps133
    go_wp2_with (first | (go_at_call 124; with_reducible refine (hia _).mono ?_; rintro e w2 ⟨rfl, hb2⟩; replace hB := hB.trans (hb2.mono hB.size); obtain ⟨a0, a1⟩ := (ha.grow hB).cells; obtain ⟨b0, b1⟩ := (hb.grow hB).cells; obtain ⟨r0, r1⟩ := (hr.grow hB).cells; obtain ⟨rf0, rf1⟩ := (hr.grow hB).frozen) | (go_at_call 124; with_reducible refine (hib _).mono ?_; rintro e w2 ⟨rfl, hb2⟩; replace hB := hB.trans (hb2.mono hB.size); obtain ⟨a0, a1⟩ := (ha.grow hB).cells; obtain ⟨b0, b1⟩ := (hb.grow hB).cells; obtain ⟨r0, r1⟩ := (hr.grow hB).cells; obtain ⟨rf0, rf1⟩ := (hr.grow hB).frozen) | (go_at_call 130; refine (rnan_b _).mono ?_; rintro e w2 ⟨rfl, hb2⟩; replace hB := hB.trans (hb2.mono hB.size); obtain ⟨a0, a1⟩ := (ha.grow hB).cells; obtain ⟨b0, b1⟩ := (hb.grow hB).cells; obtain ⟨r0, r1⟩ := (hr.grow hB).cells; obtain ⟨rf0, rf1⟩ := (hr.grow hB).frozen; unfold vlV))
    exact end_set (v := nan) Tryz.results133 rfl (by omega) (bW2 w _ _) hB hr
  · clear hn0 hsg hby
    by_cases hm : m < 0
    · have e : dvd mns ⟨1, m⟩ = pls := by simp [dvd, pls, mns, neg, hm]
      have e2 : neg mns = pls := by simp [neg, pls, mns]
      rw [e]; clear e
      rw [e2] at htu; clear e2
      unfold vlV at *
      go_enter Tryz.func133, Tryz.ntmps133
      go_wp2_with (first | (go_at_call 124; with_reducible refine (hia _).mono ?_; rintro e w2 ⟨rfl, hb2⟩; replace hB := hB.trans (hb2.mono hB.size); obtain ⟨a0, a1⟩ := (ha.grow hB).cells; obtain ⟨b0, b1⟩ := (hb.grow hB).cells; obtain ⟨r0, r1⟩ := (hr.grow hB).cells; obtain ⟨rf0, rf1⟩ := (hr.grow hB).frozen) | (go_at_call 124; with_reducible refine (hib _).mono ?_; rintro e w2 ⟨rfl, hb2⟩; replace hB := hB.trans (hb2.mono hB.size); obtain ⟨a0, a1⟩ := (ha.grow hB).cells; obtain ⟨b0, b1⟩ := (hb.grow hB).cells; obtain ⟨r0, r1⟩ := (hr.grow hB).cells; obtain ⟨rf0, rf1⟩ := (hr.grow hB).frozen) | (go_at_call 127; with_reducible refine (htu _).mono ?_; rintro e w2 ⟨rfl, hb2⟩; replace hB := hB.trans (hb2.mono hB.size); obtain ⟨a0, a1⟩ := (ha.grow hB).cells; obtain ⟨b0, b1⟩ := (hb.grow hB).cells; obtain ⟨r0, r1⟩ := (hr.grow hB).cells; obtain ⟨rf0, rf1⟩ := (hr.grow hB).frozen))
      exact end_set (v := pls) Tryz.results133 rfl (by omega) (bW2 w _ _) hB hr
    · have e : dvd mns ⟨1, m⟩ = mns := by simp [dvd, pls, mns, hm]
      rw [e]; clear e htu
      unfold vlV at *
      go_enter Tryz.func133, Tryz.ntmps133
      go_wp2_with (first | (go_at_call 124; with_reducible refine (hia _).mono ?_; rintro e w2 ⟨rfl, hb2⟩; replace hB := hB.trans (hb2.mono hB.size); obtain ⟨a0, a1⟩ := (ha.grow hB).cells; obtain ⟨b0, b1⟩ := (hb.grow hB).cells; obtain ⟨r0, r1⟩ := (hr.grow hB).cells; obtain ⟨rf0, rf1⟩ := (hr.grow hB).frozen) | (go_at_call 124; with_reducible refine (hib _).mono ?_; rintro e w2 ⟨rfl, hb2⟩; replace hB := hB.trans (hb2.mono hB.size); obtain ⟨a0, a1⟩ := (ha.grow hB).cells; obtain ⟨b0, b1⟩ := (hb.grow hB).cells; obtain ⟨r0, r1⟩ := (hr.grow hB).cells; obtain ⟨rf0, rf1⟩ := (hr.grow hB).frozen))
      exact end_set (v := mns) Tryz.results133 rfl (by omega) (bW2 w _ _) hB hr
  · have e : dvd mns pls = nan := by simp [dvd, pls, mns]
    rw [e]; clear e htu hn0 hsg hby
    unfold vlV at *
    go_enter Tryz.func133, Tryz.ntmps133
    go_wp2_with (first | (go_at_call 124; with_reducible refine (hia _).mono ?_; rintro e w2 ⟨rfl, hb2⟩; replace hB := hB.trans (hb2.mono hB.size); obtain ⟨a0, a1⟩ := (ha.grow hB).cells; obtain ⟨b0, b1⟩ := (hb.grow hB).cells; obtain ⟨r0, r1⟩ := (hr.grow hB).cells; obtain ⟨rf0, rf1⟩ := (hr.grow hB).frozen) | (go_at_call 124; with_reducible refine (hib _).mono ?_; rintro e w2 ⟨rfl, hb2⟩; replace hB := hB.trans (hb2.mono hB.size); obtain ⟨a0, a1⟩ := (ha.grow hB).cells; obtain ⟨b0, b1⟩ := (hb.grow hB).cells; obtain ⟨r0, r1⟩ := (hr.grow hB).cells; obtain ⟨rf0, rf1⟩ := (hr.grow hB).frozen) | (go_at_call 130; refine (rnan_b _).mono ?_; rintro e w2 ⟨rfl, hb2⟩; replace hB := hB.trans (hb2.mono hB.size); obtain ⟨a0, a1⟩ := (ha.grow hB).cells; obtain ⟨b0, b1⟩ := (hb.grow hB).cells; obtain ⟨r0, r1⟩ := (hr.grow hB).cells; obtain ⟨rf0, rf1⟩ := (hr.grow hB).frozen; unfold vlV))
    exact end_set (v := nan) Tryz.results133 rfl (by omega) (bW2 w _ _) hB hr
  · have e : dvd mns mns = nan := by simp [dvd, pls, mns]
    rw [e]; clear e htu hn0 hsg hby
    unfold vlV at *
    go_enter Tryz.func133, Tryz.ntmps133
    go_wp2_with (first | (go_at_call 124; with_reducible refine (hia _).mono ?_; rintro e w2 ⟨rfl, hb2⟩; replace hB := hB.trans (hb2.mono hB.size); obtain ⟨a0, a1⟩ := (ha.grow hB).cells; obtain ⟨b0, b1⟩ := (hb.grow hB).cells; obtain ⟨r0, r1⟩ := (hr.grow hB).cells; obtain ⟨rf0, rf1⟩ := (hr.grow hB).frozen) | (go_at_call 124; with_reducible refine (hib _).mono ?_; rintro e w2 ⟨rfl, hb2⟩; replace hB := hB.trans (hb2.mono hB.size); obtain ⟨a0, a1⟩ := (ha.grow hB).cells; obtain ⟨b0, b1⟩ := (hb.grow hB).cells; obtain ⟨r0, r1⟩ := (hr.grow hB).cells; obtain ⟨rf0, rf1⟩ := (hr.grow hB).frozen) | (go_at_call 130; refine (rnan_b _).mono ?_; rintro e w2 ⟨rfl, hb2⟩; replace hB := hB.trans (hb2.mono hB.size); obtain ⟨a0, a1⟩ := (ha.grow hB).cells; obtain ⟨b0, b1⟩ := (hb.grow hB).cells; obtain ⟨r0, r1⟩ := (hr.grow hB).cells; obtain ⟨rf0, rf1⟩ := (hr.grow hB).frozen; unfold vlV))
    exact end_set (v := nan) Tryz.results133 rfl (by omega) (bW2 w _ _) hB hr
end Go.Proofs.YtdhlfpgibfaimaaGreatDoor
