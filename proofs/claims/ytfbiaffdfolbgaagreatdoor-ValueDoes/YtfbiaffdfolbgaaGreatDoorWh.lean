/- The document's over. -/
import Derived.Test.YtfbiaffdfolbgaaGreatDoorWg
namespace Go.Proofs.YtfbiaffdfolbgaaGreatDoor
set_option linter.unusedVariables false
set_option linter.unusedSimpArgs false
open Go.RowKit
attribute [local go_sem ↓] Go.wp_at_zero Go.wp_at_succ
set_option maxRecDepth 100000 in
set_option maxHeartbeats 2000000 in
theorem rover_any (a b : Vl) (hva : IsV a) (hvb : IsV b) (oa : Ordy a) (ob : Ordy b) (w : World) : Calls Tryz.prog 70 #[vlV a, vlV b] w fun e w' => e = .returned (vlV (dvd a b)) ∧ Below w.heap.size w w' := by
  obtain ⟨ha, hb, hr⟩ := pW2 w a b
  have hB : Below (W2 w a b).heap.size (W2 w a b) (W2 w a b) := Below.refl _ _
  have hia := fun W => knum_any a W
  have hib := fun W => knum_any b W
  have hsg := fun W => rsign_any a W
  have hby := fun W => rbeyond_any (sgn a) W
  have htu := fun W => rturned_any a hva W
  have hn0 := fun W => rnum_any 0 W
  have e0 : num 0 = ⟨1, 0⟩ := rfl
  rw [e0] at hn0
  clear e0
  rcases ordy_cases hva oa with ⟨n, rfl, h1, h2⟩ | rfl | rfl <;> rcases ordy_cases hvb ob with ⟨m, rfl, h3, h4⟩ | rfl | rfl <;> clear hva hvb oa ob
  · by_cases hm : m = 0
    · subst hm
      have e : dvd ⟨1, n⟩ ⟨1, 0⟩ = byd (sgn ⟨1, n⟩) := by simp [dvd]
      rw [e]; clear e htu hn0
      generalize sgn ⟨1, n⟩ = s at *
      generalize byd s = V at *
      unfold vlV at *
      go_enter Tryz.func70, Tryz.ntmps70
      go_wp2_with (first | (go_at_call 42; with_reducible refine (hia _).mono ?_; rintro e w2 ⟨rfl, hb2⟩; replace hB := hB.trans (hb2.mono hB.size); obtain ⟨a0, a1⟩ := (ha.grow hB).cells; obtain ⟨b0, b1⟩ := (hb.grow hB).cells; obtain ⟨r0, r1⟩ := (hr.grow hB).cells; obtain ⟨rf0, rf1⟩ := (hr.grow hB).frozen) | (go_at_call 42; with_reducible refine (hib _).mono ?_; rintro e w2 ⟨rfl, hb2⟩; replace hB := hB.trans (hb2.mono hB.size); obtain ⟨a0, a1⟩ := (ha.grow hB).cells; obtain ⟨b0, b1⟩ := (hb.grow hB).cells; obtain ⟨r0, r1⟩ := (hr.grow hB).cells; obtain ⟨rf0, rf1⟩ := (hr.grow hB).frozen) | (go_at_call 65; with_reducible refine (hsg _).mono ?_; rintro e w2 ⟨rfl, hb2⟩; replace hB := hB.trans (hb2.mono hB.size); obtain ⟨a0, a1⟩ := (ha.grow hB).cells; obtain ⟨b0, b1⟩ := (hb.grow hB).cells; obtain ⟨r0, r1⟩ := (hr.grow hB).cells; obtain ⟨rf0, rf1⟩ := (hr.grow hB).frozen) | (go_at_call 87; with_reducible refine (hby _).mono ?_; rintro e w2 ⟨rfl, hb2⟩; replace hB := hB.trans (hb2.mono hB.size); obtain ⟨a0, a1⟩ := (ha.grow hB).cells; obtain ⟨b0, b1⟩ := (hb.grow hB).cells; obtain ⟨r0, r1⟩ := (hr.grow hB).cells; obtain ⟨rf0, rf1⟩ := (hr.grow hB).frozen))
      exact end_set (v := V) Tryz.results70 rfl (by omega) (bW2 w _ _) hB hr
    · have e : dvd ⟨1, n⟩ ⟨1, m⟩ = num (Int.tdiv (n * 1000) m) := by simp [dvd, hm]
      rw [e]; clear e htu hn0 hsg hby
      have bm : (m == 0) = false := by simpa using hm
      have hw1 : IntKind.i64.wrap (n * 1000) = n * 1000 := by rw [IntKind.wrap_i64]; omega
      have hq : (Int.tdiv (n * 1000) m).natAbs ≤ 1000000000000000000 := by
        rw [Int.natAbs_tdiv]
        exact Nat.le_trans (Nat.div_le_self _ _) (by omega)
      have hw2 : IntKind.i64.wrap (Int.tdiv (n * 1000) m) = Int.tdiv (n * 1000) m := by rw [IntKind.wrap_i64]; omega
      have hnq := fun W => rnum_any (Int.tdiv (n * 1000) m) W
      generalize hQ : Int.tdiv (n * 1000) m = Q at *
      generalize num Q = V at *
      clear hq
      unfold vlV at *
      go_enter Tryz.func70, Tryz.ntmps70
      go_wp2_with (first | (go_at_call 42; with_reducible refine (hia _).mono ?_; rintro e w2 ⟨rfl, hb2⟩; replace hB := hB.trans (hb2.mono hB.size); obtain ⟨a0, a1⟩ := (ha.grow hB).cells; obtain ⟨b0, b1⟩ := (hb.grow hB).cells; obtain ⟨r0, r1⟩ := (hr.grow hB).cells; obtain ⟨rf0, rf1⟩ := (hr.grow hB).frozen) | (go_at_call 42; with_reducible refine (hib _).mono ?_; rintro e w2 ⟨rfl, hb2⟩; replace hB := hB.trans (hb2.mono hB.size); obtain ⟨a0, a1⟩ := (ha.grow hB).cells; obtain ⟨b0, b1⟩ := (hb.grow hB).cells; obtain ⟨r0, r1⟩ := (hr.grow hB).cells; obtain ⟨rf0, rf1⟩ := (hr.grow hB).frozen) | (go_at_call 19; with_reducible refine (hnq _).mono ?_; rintro e w2 ⟨rfl, hb2⟩; replace hB := hB.trans (hb2.mono hB.size); obtain ⟨a0, a1⟩ := (ha.grow hB).cells; obtain ⟨b0, b1⟩ := (hb.grow hB).cells; obtain ⟨r0, r1⟩ := (hr.grow hB).cells; obtain ⟨rf0, rf1⟩ := (hr.grow hB).frozen))
      exact end_set (v := V) Tryz.results70 rfl (by omega) (bW2 w _ _) hB hr
  · have e : dvd ⟨1, n⟩ pls = ⟨1, 0⟩ := by simp [dvd, pls]
    rw [e]; clear e htu hsg hby
    unfold vlV at *
    go_enter Tryz.func70, Tryz.ntmps70
    go_wp2_with (first | (go_at_call 42; with_reducible refine (hia _).mono ?_; rintro e w2 ⟨rfl, hb2⟩; replace hB := hB.trans (hb2.mono hB.size); obtain ⟨a0, a1⟩ := (ha.grow hB).cells; obtain ⟨b0, b1⟩ := (hb.grow hB).cells; obtain ⟨r0, r1⟩ := (hr.grow hB).cells; obtain ⟨rf0, rf1⟩ := (hr.grow hB).frozen) | (go_at_call 42; with_reducible refine (hib _).mono ?_; rintro e w2 ⟨rfl, hb2⟩; replace hB := hB.trans (hb2.mono hB.size); obtain ⟨a0, a1⟩ := (ha.grow hB).cells; obtain ⟨b0, b1⟩ := (hb.grow hB).cells; obtain ⟨r0, r1⟩ := (hr.grow hB).cells; obtain ⟨rf0, rf1⟩ := (hr.grow hB).frozen) | (go_at_call 19; with_reducible refine (hn0 _).mono ?_; rintro e w2 ⟨rfl, hb2⟩; replace hB := hB.trans (hb2.mono hB.size); obtain ⟨a0, a1⟩ := (ha.grow hB).cells; obtain ⟨b0, b1⟩ := (hb.grow hB).cells; obtain ⟨r0, r1⟩ := (hr.grow hB).cells; obtain ⟨rf0, rf1⟩ := (hr.grow hB).frozen))
    exact end_set (v := ⟨1, 0⟩) Tryz.results70 rfl (by omega) (bW2 w _ _) hB hr
  · have e : dvd ⟨1, n⟩ mns = ⟨1, 0⟩ := by simp [dvd, mns]
    rw [e]; clear e htu hsg hby
    unfold vlV at *
    go_enter Tryz.func70, Tryz.ntmps70
    go_wp2_with (first | (go_at_call 42; with_reducible refine (hia _).mono ?_; rintro e w2 ⟨rfl, hb2⟩; replace hB := hB.trans (hb2.mono hB.size); obtain ⟨a0, a1⟩ := (ha.grow hB).cells; obtain ⟨b0, b1⟩ := (hb.grow hB).cells; obtain ⟨r0, r1⟩ := (hr.grow hB).cells; obtain ⟨rf0, rf1⟩ := (hr.grow hB).frozen) | (go_at_call 42; with_reducible refine (hib _).mono ?_; rintro e w2 ⟨rfl, hb2⟩; replace hB := hB.trans (hb2.mono hB.size); obtain ⟨a0, a1⟩ := (ha.grow hB).cells; obtain ⟨b0, b1⟩ := (hb.grow hB).cells; obtain ⟨r0, r1⟩ := (hr.grow hB).cells; obtain ⟨rf0, rf1⟩ := (hr.grow hB).frozen) | (go_at_call 19; with_reducible refine (hn0 _).mono ?_; rintro e w2 ⟨rfl, hb2⟩; replace hB := hB.trans (hb2.mono hB.size); obtain ⟨a0, a1⟩ := (ha.grow hB).cells; obtain ⟨b0, b1⟩ := (hb.grow hB).cells; obtain ⟨r0, r1⟩ := (hr.grow hB).cells; obtain ⟨rf0, rf1⟩ := (hr.grow hB).frozen))
    exact end_set (v := ⟨1, 0⟩) Tryz.results70 rfl (by omega) (bW2 w _ _) hB hr
  · clear hn0 hsg hby
    by_cases hm : m < 0
    · have e : dvd pls ⟨1, m⟩ = mns := by simp [dvd, pls, mns, neg, hm]
      have e2 : neg pls = mns := by simp [neg, pls, mns]
      rw [e]; clear e
      rw [e2] at htu; clear e2
      unfold vlV at *
      go_enter Tryz.func70, Tryz.ntmps70
      go_wp2_with (first | (go_at_call 42; with_reducible refine (hia _).mono ?_; rintro e w2 ⟨rfl, hb2⟩; replace hB := hB.trans (hb2.mono hB.size); obtain ⟨a0, a1⟩ := (ha.grow hB).cells; obtain ⟨b0, b1⟩ := (hb.grow hB).cells; obtain ⟨r0, r1⟩ := (hr.grow hB).cells; obtain ⟨rf0, rf1⟩ := (hr.grow hB).frozen) | (go_at_call 42; with_reducible refine (hib _).mono ?_; rintro e w2 ⟨rfl, hb2⟩; replace hB := hB.trans (hb2.mono hB.size); obtain ⟨a0, a1⟩ := (ha.grow hB).cells; obtain ⟨b0, b1⟩ := (hb.grow hB).cells; obtain ⟨r0, r1⟩ := (hr.grow hB).cells; obtain ⟨rf0, rf1⟩ := (hr.grow hB).frozen) | (go_at_call 66; with_reducible refine (htu _).mono ?_; rintro e w2 ⟨rfl, hb2⟩; replace hB := hB.trans (hb2.mono hB.size); obtain ⟨a0, a1⟩ := (ha.grow hB).cells; obtain ⟨b0, b1⟩ := (hb.grow hB).cells; obtain ⟨r0, r1⟩ := (hr.grow hB).cells; obtain ⟨rf0, rf1⟩ := (hr.grow hB).frozen))
      exact end_set (v := mns) Tryz.results70 rfl (by omega) (bW2 w _ _) hB hr
    · have e : dvd pls ⟨1, m⟩ = pls := by simp [dvd, pls, mns, hm]
      rw [e]; clear e htu
      unfold vlV at *
      go_enter Tryz.func70, Tryz.ntmps70
      go_wp2_with (first | (go_at_call 42; with_reducible refine (hia _).mono ?_; rintro e w2 ⟨rfl, hb2⟩; replace hB := hB.trans (hb2.mono hB.size); obtain ⟨a0, a1⟩ := (ha.grow hB).cells; obtain ⟨b0, b1⟩ := (hb.grow hB).cells; obtain ⟨r0, r1⟩ := (hr.grow hB).cells; obtain ⟨rf0, rf1⟩ := (hr.grow hB).frozen) | (go_at_call 42; with_reducible refine (hib _).mono ?_; rintro e w2 ⟨rfl, hb2⟩; replace hB := hB.trans (hb2.mono hB.size); obtain ⟨a0, a1⟩ := (ha.grow hB).cells; obtain ⟨b0, b1⟩ := (hb.grow hB).cells; obtain ⟨r0, r1⟩ := (hr.grow hB).cells; obtain ⟨rf0, rf1⟩ := (hr.grow hB).frozen))
      exact end_set (v := pls) Tryz.results70 rfl (by omega) (bW2 w _ _) hB hr
  · have e : dvd pls pls = nan := by simp [dvd, pls, mns]
    rw [e]; clear e htu hn0 hsg hby
    unfold vlV at *
    go_enter Tryz.func70, Tryz.ntmps70
    go_wp2_with (first | (go_at_call 42; with_reducible refine (hia _).mono ?_; rintro e w2 ⟨rfl, hb2⟩; replace hB := hB.trans (hb2.mono hB.size); obtain ⟨a0, a1⟩ := (ha.grow hB).cells; obtain ⟨b0, b1⟩ := (hb.grow hB).cells; obtain ⟨r0, r1⟩ := (hr.grow hB).cells; obtain ⟨rf0, rf1⟩ := (hr.grow hB).frozen) | (go_at_call 42; with_reducible refine (hib _).mono ?_; rintro e w2 ⟨rfl, hb2⟩; replace hB := hB.trans (hb2.mono hB.size); obtain ⟨a0, a1⟩ := (ha.grow hB).cells; obtain ⟨b0, b1⟩ := (hb.grow hB).cells; obtain ⟨r0, r1⟩ := (hr.grow hB).cells; obtain ⟨rf0, rf1⟩ := (hr.grow hB).frozen) | (go_at_call 25; refine (rnan_b _).mono ?_; rintro e w2 ⟨rfl, hb2⟩; replace hB := hB.trans (hb2.mono hB.size); obtain ⟨a0, a1⟩ := (ha.grow hB).cells; obtain ⟨b0, b1⟩ := (hb.grow hB).cells; obtain ⟨r0, r1⟩ := (hr.grow hB).cells; obtain ⟨rf0, rf1⟩ := (hr.grow hB).frozen; unfold vlV))
    exact end_set (v := nan) Tryz.results70 rfl (by omega) (bW2 w _ _) hB hr
  · have e : dvd pls mns = nan := by simp [dvd, pls, mns]
    rw [e]; clear e htu hn0 hsg hby
    unfold vlV at *
    go_enter Tryz.func70, Tryz.ntmps70
    go_wp2_with (first | (go_at_call 42; with_reducible refine (hia _).mono ?_; rintro e w2 ⟨rfl, hb2⟩; replace hB := hB.trans (hb2.mono hB.size); obtain ⟨a0, a1⟩ := (ha.grow hB).cells; obtain ⟨b0, b1⟩ := (hb.grow hB).cells; obtain ⟨r0, r1⟩ := (hr.grow hB).cells; obtain ⟨rf0, rf1⟩ := (hr.grow hB).frozen) | (go_at_call 42; with_reducible refine (hib _).mono ?_; rintro e w2 ⟨rfl, hb2⟩; replace hB := hB.trans (hb2.mono hB.size); obtain ⟨a0, a1⟩ := (ha.grow hB).cells; obtain ⟨b0, b1⟩ := (hb.grow hB).cells; obtain ⟨r0, r1⟩ := (hr.grow hB).cells; obtain ⟨rf0, rf1⟩ := (hr.grow hB).frozen) | (go_at_call 25; refine (rnan_b _).mono ?_; rintro e w2 ⟨rfl, hb2⟩; replace hB := hB.trans (hb2.mono hB.size); obtain ⟨a0, a1⟩ := (ha.grow hB).cells; obtain ⟨b0, b1⟩ := (hb.grow hB).cells; obtain ⟨r0, r1⟩ := (hr.grow hB).cells; obtain ⟨rf0, rf1⟩ := (hr.grow hB).frozen; unfold vlV))
    exact end_set (v := nan) Tryz.results70 rfl (by omega) (bW2 w _ _) hB hr
  · clear hn0 hsg hby
    by_cases hm : m < 0
    · have e : dvd mns ⟨1, m⟩ = pls := by simp [dvd, pls, mns, neg, hm]
      have e2 : neg mns = pls := by simp [neg, pls, mns]
      rw [e]; clear e
      rw [e2] at htu; clear e2
      unfold vlV at *
      go_enter Tryz.func70, Tryz.ntmps70
      go_wp2_with (first | (go_at_call 42; with_reducible refine (hia _).mono ?_; rintro e w2 ⟨rfl, hb2⟩; replace hB := hB.trans (hb2.mono hB.size); obtain ⟨a0, a1⟩ := (ha.grow hB).cells; obtain ⟨b0, b1⟩ := (hb.grow hB).cells; obtain ⟨r0, r1⟩ := (hr.grow hB).cells; obtain ⟨rf0, rf1⟩ := (hr.grow hB).frozen) | (go_at_call 42; with_reducible refine (hib _).mono ?_; rintro e w2 ⟨rfl, hb2⟩; replace hB := hB.trans (hb2.mono hB.size); obtain ⟨a0, a1⟩ := (ha.grow hB).cells; obtain ⟨b0, b1⟩ := (hb.grow hB).cells; obtain ⟨r0, r1⟩ := (hr.grow hB).cells; obtain ⟨rf0, rf1⟩ := (hr.grow hB).frozen) | (go_at_call 66; with_reducible refine (htu _).mono ?_; rintro e w2 ⟨rfl, hb2⟩; replace hB := hB.trans (hb2.mono hB.size); obtain ⟨a0, a1⟩ := (ha.grow hB).cells; obtain ⟨b0, b1⟩ := (hb.grow hB).cells; obtain ⟨r0, r1⟩ := (hr.grow hB).cells; obtain ⟨rf0, rf1⟩ := (hr.grow hB).frozen))
      exact end_set (v := pls) Tryz.results70 rfl (by omega) (bW2 w _ _) hB hr
    · have e : dvd mns ⟨1, m⟩ = mns := by simp [dvd, pls, mns, hm]
      rw [e]; clear e htu
      unfold vlV at *
      go_enter Tryz.func70, Tryz.ntmps70
      go_wp2_with (first | (go_at_call 42; with_reducible refine (hia _).mono ?_; rintro e w2 ⟨rfl, hb2⟩; replace hB := hB.trans (hb2.mono hB.size); obtain ⟨a0, a1⟩ := (ha.grow hB).cells; obtain ⟨b0, b1⟩ := (hb.grow hB).cells; obtain ⟨r0, r1⟩ := (hr.grow hB).cells; obtain ⟨rf0, rf1⟩ := (hr.grow hB).frozen) | (go_at_call 42; with_reducible refine (hib _).mono ?_; rintro e w2 ⟨rfl, hb2⟩; replace hB := hB.trans (hb2.mono hB.size); obtain ⟨a0, a1⟩ := (ha.grow hB).cells; obtain ⟨b0, b1⟩ := (hb.grow hB).cells; obtain ⟨r0, r1⟩ := (hr.grow hB).cells; obtain ⟨rf0, rf1⟩ := (hr.grow hB).frozen))
      exact end_set (v := mns) Tryz.results70 rfl (by omega) (bW2 w _ _) hB hr
  · have e : dvd mns pls = nan := by simp [dvd, pls, mns]
    rw [e]; clear e htu hn0 hsg hby
    unfold vlV at *
    go_enter Tryz.func70, Tryz.ntmps70
    go_wp2_with (first | (go_at_call 42; with_reducible refine (hia _).mono ?_; rintro e w2 ⟨rfl, hb2⟩; replace hB := hB.trans (hb2.mono hB.size); obtain ⟨a0, a1⟩ := (ha.grow hB).cells; obtain ⟨b0, b1⟩ := (hb.grow hB).cells; obtain ⟨r0, r1⟩ := (hr.grow hB).cells; obtain ⟨rf0, rf1⟩ := (hr.grow hB).frozen) | (go_at_call 42; with_reducible refine (hib _).mono ?_; rintro e w2 ⟨rfl, hb2⟩; replace hB := hB.trans (hb2.mono hB.size); obtain ⟨a0, a1⟩ := (ha.grow hB).cells; obtain ⟨b0, b1⟩ := (hb.grow hB).cells; obtain ⟨r0, r1⟩ := (hr.grow hB).cells; obtain ⟨rf0, rf1⟩ := (hr.grow hB).frozen) | (go_at_call 25; refine (rnan_b _).mono ?_; rintro e w2 ⟨rfl, hb2⟩; replace hB := hB.trans (hb2.mono hB.size); obtain ⟨a0, a1⟩ := (ha.grow hB).cells; obtain ⟨b0, b1⟩ := (hb.grow hB).cells; obtain ⟨r0, r1⟩ := (hr.grow hB).cells; obtain ⟨rf0, rf1⟩ := (hr.grow hB).frozen; unfold vlV))
    exact end_set (v := nan) Tryz.results70 rfl (by omega) (bW2 w _ _) hB hr
  · have e : dvd mns mns = nan := by simp [dvd, pls, mns]
    rw [e]; clear e htu hn0 hsg hby
    unfold vlV at *
    go_enter Tryz.func70, Tryz.ntmps70
    go_wp2_with (first | (go_at_call 42; with_reducible refine (hia _).mono ?_; rintro e w2 ⟨rfl, hb2⟩; replace hB := hB.trans (hb2.mono hB.size); obtain ⟨a0, a1⟩ := (ha.grow hB).cells; obtain ⟨b0, b1⟩ := (hb.grow hB).cells; obtain ⟨r0, r1⟩ := (hr.grow hB).cells; obtain ⟨rf0, rf1⟩ := (hr.grow hB).frozen) | (go_at_call 42; with_reducible refine (hib _).mono ?_; rintro e w2 ⟨rfl, hb2⟩; replace hB := hB.trans (hb2.mono hB.size); obtain ⟨a0, a1⟩ := (ha.grow hB).cells; obtain ⟨b0, b1⟩ := (hb.grow hB).cells; obtain ⟨r0, r1⟩ := (hr.grow hB).cells; obtain ⟨rf0, rf1⟩ := (hr.grow hB).frozen) | (go_at_call 25; refine (rnan_b _).mono ?_; rintro e w2 ⟨rfl, hb2⟩; replace hB := hB.trans (hb2.mono hB.size); obtain ⟨a0, a1⟩ := (ha.grow hB).cells; obtain ⟨b0, b1⟩ := (hb.grow hB).cells; obtain ⟨r0, r1⟩ := (hr.grow hB).cells; obtain ⟨rf0, rf1⟩ := (hr.grow hB).frozen; unfold vlV))
    exact end_set (v := nan) Tryz.results70 rfl (by omega) (bW2 w _ _) hB hr
end Go.Proofs.YtfbiaffdfolbgaaGreatDoor
