/- Wi; Wj. -/
import Derived.Test.YtdhlfpgibfaimaaGreatDoorWeWh
/- The document's times, of what is not both numbers. -/
namespace Go.Proofs.YtdhlfpgibfaimaaGreatDoor
set_option linter.unusedVariables false
open Go.RowKit
attribute [local go_sem ↓] Go.wp_at_zero Go.wp_at_succ
theorem sgn_in (v : Vl) : sgn v = 1 ∨ sgn v = -1 ∨ sgn v = 0 := by
  unfold sgn; split
  · exact .inl rfl
  · split
    · exact .inr (.inl rfl)
    · exact .inr (.inr rfl)
set_option maxRecDepth 100000 in
set_option maxHeartbeats 2000000 in
theorem rtimes_odd (a b : Vl) (hva : IsV a) (hvb : IsV b) (hk : ((a.kind == 1) && (b.kind == 1)) = false) (w : World) : Calls Tryz.prog 132 #[vlV a, vlV b] w fun e w' => e = .returned (vlV (mul a b)) ∧ Below w.heap.size w w' := by
  obtain ⟨ha, hb, hr⟩ := pW2 w a b
  have hB : Below (W2 w a b).heap.size (W2 w a b) (W2 w a b) := Below.refl _ _
  have hia := fun W => knum_any a W
  have hib := fun W => knum_any b W
  have e : mul a b = byd (sgn a * sgn b) := by
    rw [mul, if_neg]
    intro h
    simp [h.1, h.2] at hk
  rw [e]; clear e
  have hsa := fun W => rsign_any a W
  have hsb := fun W => rsign_any b W
  have hen := fun W => rbeyond_any (sgn a * sgn b) W
  have hwr : IntKind.i64.wrap (sgn a * sgn b) = sgn a * sgn b := by
    rcases sgn_in a with h | h | h <;> rcases sgn_in b with g | g | g <;> rw [h, g] <;> rfl
  generalize sgn a = SA at *
  generalize sgn b = SB at *
  obtain ⟨P, eP⟩ : ∃ x, Hid (x = SA * SB) := ⟨_, rfl⟩
  rw [← eP.out] at hen ⊢
  replace hwr : IntKind.i64.wrap (SA * SB) = P := hwr.trans eP.out.symm
  clear eP
  generalize byd P = R at *
  clear hva hvb
  unfold vlV at *
  cases h1 : (a.kind == 1) <;> cases h2 : (b.kind == 1)
  case true.true => rw [h1, h2] at hk; cases hk
  all_goals
    rw [h1] at hia
    rw [h2] at hib
    clear hk
    go_enter Tryz.func132, Tryz.ntmps132
    go_wp2
    replace hB := hB.drew
    obtain ⟨a0, a1⟩ := (ha.grow hB).cells
    obtain ⟨b0, b1⟩ := (hb.grow hB).cells
    obtain ⟨r0, r1⟩ := (hr.grow hB).cells
    obtain ⟨rf0, rf1⟩ := (hr.grow hB).frozen
    go_region_held3 (fun W => W.cell? ⟨w.heap.size, 0, none⟩ = some (.int .i64 a.kind) ∧ W.cell? ⟨w.heap.size, 1, none⟩ = some (.int .i64 a.n) ∧ W.cell? ⟨w.heap.size + 1, 0, none⟩ = some (.int .i64 b.kind) ∧ W.cell? ⟨w.heap.size + 1, 1, none⟩ = some (.int .i64 b.n)) (first | exact ⟨a0, a1, b0, b1⟩) (first | (go_at_call 126; with_reducible refine (hsa _).mono ?_; rintro e w2 ⟨rfl, hb2⟩; replace hB := hB.trans (hb2.mono hB.size); obtain ⟨a0, a1⟩ := (ha.grow hB).cells; obtain ⟨b0, b1⟩ := (hb.grow hB).cells; obtain ⟨r0, r1⟩ := (hr.grow hB).cells; obtain ⟨rf0, rf1⟩ := (hr.grow hB).frozen) | (go_at_call 126; with_reducible refine (hsb _).mono ?_; rintro e w2 ⟨rfl, hb2⟩; replace hB := hB.trans (hb2.mono hB.size); obtain ⟨a0, a1⟩ := (ha.grow hB).cells; obtain ⟨b0, b1⟩ := (hb.grow hB).cells; obtain ⟨r0, r1⟩ := (hr.grow hB).cells; obtain ⟨rf0, rf1⟩ := (hr.grow hB).frozen))
    all_goals
      go_wp2_with (first | (go_at_call 124; with_reducible refine (hia _).mono ?_; rintro e w2 ⟨rfl, hb2⟩; replace hB := hB.trans (hb2.mono hB.size); obtain ⟨a0, a1⟩ := (ha.grow hB).cells; obtain ⟨b0, b1⟩ := (hb.grow hB).cells; obtain ⟨r0, r1⟩ := (hr.grow hB).cells; obtain ⟨rf0, rf1⟩ := (hr.grow hB).frozen) | (go_at_call 124; with_reducible refine (hib _).mono ?_; rintro e w2 ⟨rfl, hb2⟩; replace hB := hB.trans (hb2.mono hB.size); obtain ⟨a0, a1⟩ := (ha.grow hB).cells; obtain ⟨b0, b1⟩ := (hb.grow hB).cells; obtain ⟨r0, r1⟩ := (hr.grow hB).cells; obtain ⟨rf0, rf1⟩ := (hr.grow hB).frozen) | (go_at_call 161; with_reducible refine (hen _).mono ?_; rintro e w2 ⟨rfl, hb2⟩; replace hB := hB.trans (hb2.mono hB.size); obtain ⟨a0, a1⟩ := (ha.grow hB).cells; obtain ⟨b0, b1⟩ := (hb.grow hB).cells; obtain ⟨r0, r1⟩ := (hr.grow hB).cells; obtain ⟨rf0, rf1⟩ := (hr.grow hB).frozen))
      exact end_set (v := R) Tryz.results132 rfl (by omega) (bW2 w _ _) hB hr
end Go.Proofs.YtdhlfpgibfaimaaGreatDoor
/- The document's times, of numbers. -/
namespace Go.Proofs.YtdhlfpgibfaimaaGreatDoor
set_option linter.unusedVariables false
open Go.RowKit
attribute [local go_sem ↓] Go.wp_at_zero Go.wp_at_succ
theorem sgn_sign (n : Int) : sgn ⟨1, n⟩ = n.sign := by
  unfold sgn
  by_cases h : 0 < n
  · rw [if_pos (.inr h), Int.sign_eq_one_of_pos h]
  · rw [if_neg (by simp; omega)]
    by_cases h2 : n < 0
    · rw [if_pos (.inr h2), Int.sign_eq_neg_one_of_neg h2]
    · have : n = 0 := by omega
      subst this
      rfl
set_option maxRecDepth 100000 in
set_option maxHeartbeats 2000000 in
theorem rtimes_num (n m : Int) (h1 : -1000000000000000 ≤ n) (h2 : n ≤ 1000000000000000) (h3 : -1000000000000000 ≤ m) (h4 : m ≤ 1000000000000000) (w : World) : Calls Tryz.prog 132 #[vlV ⟨1, n⟩, vlV ⟨1, m⟩] w fun e w' => e = .returned (vlV (mul ⟨1, n⟩ ⟨1, m⟩)) ∧ Below w.heap.size w w' := by
  obtain ⟨ha, hb, hr⟩ := pW2 w ⟨1, n⟩ ⟨1, m⟩
  have hB : Below (W2 w ⟨1, n⟩ ⟨1, m⟩).heap.size (W2 w ⟨1, n⟩ ⟨1, m⟩) (W2 w ⟨1, n⟩ ⟨1, m⟩) := Below.refl _ _
  have hia := fun W => knum_any ⟨1, n⟩ W
  have hib := fun W => knum_any ⟨1, m⟩ W
  have hsa := fun W => rsign_any ⟨1, n⟩ W
  have hsb := fun W => rsign_any ⟨1, m⟩ W
  have hza := fun W => rsize_any n h1 h2 W
  have hzb := fun W => rsize_any m h3 h4 W
  have hwr : IntKind.i64.wrap (sgn ⟨1, n⟩ * sgn ⟨1, m⟩) = sgn ⟨1, n⟩ * sgn ⟨1, m⟩ := by
    rcases sgn_in ⟨1, n⟩ with h | h | h <;> rcases sgn_in ⟨1, m⟩ with g | g | g <;> rw [h, g] <;> rfl
  have hPin : Hid (sgn ⟨1, n⟩ * sgn ⟨1, m⟩ = 1 ∨ sgn ⟨1, n⟩ * sgn ⟨1, m⟩ = -1 ∨ sgn ⟨1, n⟩ * sgn ⟨1, m⟩ = 0) := by
    rcases sgn_in ⟨1, n⟩ with h | h | h <;> rcases sgn_in ⟨1, m⟩ with g | g | g <;> rw [h, g] <;> (first | exact .inl rfl | exact .inr (.inl rfl) | exact .inr (.inr rfl))
  have hmul := mul_halves n m
  rw [← sgn_sign, ← sgn_sign] at hmul
  have hin := halves_in (n.natAbs : Int) (m.natAbs : Int) (by omega) (by omega) (by omega) (by omega)
  generalize sgn ⟨1, n⟩ = SA at *
  generalize sgn ⟨1, m⟩ = SB at *
  obtain ⟨P, eP⟩ : ∃ x, Hid (x = SA * SB) := ⟨_, rfl⟩
  rw [← eP.out] at hmul hPin
  replace hwr : IntKind.i64.wrap (SA * SB) = P := hwr.trans eP.out.symm
  obtain ⟨X, eX⟩ : ∃ x, Hid (x = (n.natAbs : Int)) := ⟨_, rfl⟩
  obtain ⟨Y, eY⟩ : ∃ x, Hid (x = (m.natAbs : Int)) := ⟨_, rfl⟩
  rw [← eX.out] at hmul hin hza
  rw [← eY.out] at hmul hin hzb
  have hX : 0 ≤ X ∧ X ≤ 1000000000000000 := by have := eX.out; omega
  have hY : 0 ≤ Y ∧ Y ≤ 1000000000000000 := by have := eY.out; omega
  obtain ⟨Q, eQ⟩ : ∃ x, Hid (x = X / 1000) := ⟨_, rfl⟩
  obtain ⟨S, eS⟩ : ∃ x, Hid (x = X % 1000) := ⟨_, rfl⟩
  rw [← eQ.out] at hmul hin
  rw [← eS.out] at hmul hin
  have hQ : 0 ≤ Q ∧ Q ≤ 1000000000000 := by have := eQ.out; omega
  have hS : 0 ≤ S ∧ S < 1000 := by have := eS.out; omega
  have q1 : X / 1000 = Q := eQ.out.symm
  have q2 : X % 1000 = S := eS.out.symm
  have q3 : X.tdiv 1000 = Q := by rw [Int.tdiv_eq_ediv_of_nonneg hX.1]; exact q1
  have q4 : X.tmod 1000 = S := by rw [Int.tmod_eq_emod_of_nonneg hX.1]; exact q2
  have w1 : IntKind.i64.wrap Q = Q := by rw [IntKind.wrap_i64]; omega
  have w2' : IntKind.i64.wrap S = S := by rw [IntKind.wrap_i64]; omega
  clear eP eX eY eQ eS
  rw [hmul]; clear hmul
  have hbd := fun W => rbeyond_any P W
  by_cases hbig : 0 < Q ∧ 1000000000000000 / Q < Y
  · rw [if_pos hbig]
    obtain ⟨g1, g2⟩ := hbig
    have g0 : (Q == 0) = false := by simp; omega
    obtain ⟨D, eD⟩ : ∃ x, Hid (x = 1000000000000000 / Q) := ⟨_, rfl⟩
    have hD : 0 ≤ D ∧ D ≤ 1000000000000000 := by
      rw [eD.out]
      exact ⟨Int.ediv_nonneg (by omega) (by omega), Int.ediv_le_self _ (by omega)⟩
    have d1 : (1000000000000000 : Int) / Q = D := eD.out.symm
    have d2 : (1000000000000000 : Int).tdiv Q = D := by rw [Int.tdiv_eq_ediv_of_nonneg (by omega)]; exact d1
    have w3' : IntKind.i64.wrap D = D := by rw [IntKind.wrap_i64]; omega
    rw [d1] at g2
    generalize byd P = R at *
    clear hin eD hPin
    unfold vlV at *
    go_enter Tryz.func132, Tryz.ntmps132
    go_wp2
    replace hB := hB.drew
    obtain ⟨a0, a1⟩ := (ha.grow hB).cells
    obtain ⟨b0, b1⟩ := (hb.grow hB).cells
    obtain ⟨r0, r1⟩ := (hr.grow hB).cells
    obtain ⟨rf0, rf1⟩ := (hr.grow hB).frozen
    go_region_held3 (fun W => W.cell? ⟨w.heap.size, 0, none⟩ = some (.int .i64 1) ∧ W.cell? ⟨w.heap.size, 1, none⟩ = some (.int .i64 n) ∧ W.cell? ⟨w.heap.size + 1, 0, none⟩ = some (.int .i64 1) ∧ W.cell? ⟨w.heap.size + 1, 1, none⟩ = some (.int .i64 m)) (first | exact ⟨a0, a1, b0, b1⟩) (first | (go_at_call 126; with_reducible refine (hsa _).mono ?_; rintro e w2 ⟨rfl, hb2⟩; replace hB := hB.trans (hb2.mono hB.size); obtain ⟨a0, a1⟩ := (ha.grow hB).cells; obtain ⟨b0, b1⟩ := (hb.grow hB).cells; obtain ⟨r0, r1⟩ := (hr.grow hB).cells; obtain ⟨rf0, rf1⟩ := (hr.grow hB).frozen) | (go_at_call 126; with_reducible refine (hsb _).mono ?_; rintro e w2 ⟨rfl, hb2⟩; replace hB := hB.trans (hb2.mono hB.size); obtain ⟨a0, a1⟩ := (ha.grow hB).cells; obtain ⟨b0, b1⟩ := (hb.grow hB).cells; obtain ⟨r0, r1⟩ := (hr.grow hB).cells; obtain ⟨rf0, rf1⟩ := (hr.grow hB).frozen))
    all_goals
      go_wp2_with (first | (go_at_call 124; with_reducible refine (hia _).mono ?_; rintro e w2 ⟨rfl, hb2⟩; replace hB := hB.trans (hb2.mono hB.size); obtain ⟨a0, a1⟩ := (ha.grow hB).cells; obtain ⟨b0, b1⟩ := (hb.grow hB).cells; obtain ⟨r0, r1⟩ := (hr.grow hB).cells; obtain ⟨rf0, rf1⟩ := (hr.grow hB).frozen) | (go_at_call 124; with_reducible refine (hib _).mono ?_; rintro e w2 ⟨rfl, hb2⟩; replace hB := hB.trans (hb2.mono hB.size); obtain ⟨a0, a1⟩ := (ha.grow hB).cells; obtain ⟨b0, b1⟩ := (hb.grow hB).cells; obtain ⟨r0, r1⟩ := (hr.grow hB).cells; obtain ⟨rf0, rf1⟩ := (hr.grow hB).frozen))
      replace hB := hB.drew
      obtain ⟨a0, a1⟩ := (ha.grow hB).cells
      obtain ⟨b0, b1⟩ := (hb.grow hB).cells
      obtain ⟨r0, r1⟩ := (hr.grow hB).cells
      obtain ⟨rf0, rf1⟩ := (hr.grow hB).frozen
      go_region_held3 (fun W => W.cell? ⟨w.heap.size, 0, none⟩ = some (.int .i64 1) ∧ W.cell? ⟨w.heap.size, 1, none⟩ = some (.int .i64 n) ∧ W.cell? ⟨w.heap.size + 1, 0, none⟩ = some (.int .i64 1) ∧ W.cell? ⟨w.heap.size + 1, 1, none⟩ = some (.int .i64 m)) (first | exact ⟨a0, a1, b0, b1⟩) (first | (go_at_call 162; with_reducible refine (hza _).mono ?_; rintro e w2 ⟨rfl, hb2⟩; replace hB := hB.trans (hb2.mono hB.size); obtain ⟨a0, a1⟩ := (ha.grow hB).cells; obtain ⟨b0, b1⟩ := (hb.grow hB).cells; obtain ⟨r0, r1⟩ := (hr.grow hB).cells; obtain ⟨rf0, rf1⟩ := (hr.grow hB).frozen) | (go_at_call 162; with_reducible refine (hzb _).mono ?_; rintro e w2 ⟨rfl, hb2⟩; replace hB := hB.trans (hb2.mono hB.size); obtain ⟨a0, a1⟩ := (ha.grow hB).cells; obtain ⟨b0, b1⟩ := (hb.grow hB).cells; obtain ⟨r0, r1⟩ := (hr.grow hB).cells; obtain ⟨rf0, rf1⟩ := (hr.grow hB).frozen))
      all_goals
        go_wp2_with (first | (go_at_call 161; with_reducible refine (hbd _).mono ?_; rintro e w2 ⟨rfl, hb2⟩; replace hB := hB.trans (hb2.mono hB.size); obtain ⟨a0, a1⟩ := (ha.grow hB).cells; obtain ⟨b0, b1⟩ := (hb.grow hB).cells; obtain ⟨r0, r1⟩ := (hr.grow hB).cells; obtain ⟨rf0, rf1⟩ := (hr.grow hB).frozen))
        exact end_set (v := R) Tryz.results132 rfl (by omega) (bW2 w _ _) hB hr
  · rw [if_neg hbig]
    obtain ⟨i1, i2, i3, i4⟩ := hin hbig
    have hb2 : (¬ 0 < Q) ∨ (0 < Q ∧ ¬ 1000000000000000 / Q < Y) := by
      by_cases h : 0 < Q
      · exact .inr ⟨h, fun g => hbig ⟨h, g⟩⟩
      · exact .inl h
    clear hin hbig hbd
    have hnz := fun W => rnum_any (P * (Q * Y + S * Y / 1000)) W
    obtain ⟨A, eA⟩ : ∃ x, Hid (x = Q * Y) := ⟨_, rfl⟩
    obtain ⟨B, eB⟩ : ∃ x, Hid (x = S * Y) := ⟨_, rfl⟩
    rw [← eA.out] at i1 i2 hnz
    rw [← eB.out] at i3 i4 hnz
    rw [← eA.out, ← eB.out]
    have z1 : Q * Y = A := eA.out.symm
    have z2 : S * Y = B := eB.out.symm
    have y1 : IntKind.i64.wrap A = A := by rw [IntKind.wrap_i64]; omega
    have y2 : IntKind.i64.wrap B = B := by rw [IntKind.wrap_i64]; omega
    obtain ⟨C, eC⟩ : ∃ x, Hid (x = B / 1000) := ⟨_, rfl⟩
    have hC : 0 ≤ C ∧ C ≤ 999000000000000 := by have := eC.out; omega
    rw [← eC.out] at hnz ⊢
    have z3 : B / 1000 = C := eC.out.symm
    have z4 : B.tdiv 1000 = C := by rw [Int.tdiv_eq_ediv_of_nonneg i3]; exact z3
    have y3 : IntKind.i64.wrap C = C := by rw [IntKind.wrap_i64]; omega
    have y4 : IntKind.i64.wrap (A + C) = A + C := by rw [IntKind.wrap_i64]; omega
    have y5 : IntKind.i64.wrap (P * (A + C)) = P * (A + C) := by
      rcases hPin.out with h | h | h <;> rw [h, IntKind.wrap_i64] <;> omega
    have y6 : IntKind.i64.wrap P = P := by
      rcases hPin.out with h | h | h <;> rw [h] <;> rfl
    obtain ⟨Z, eZ⟩ : ∃ x, Hid (x = P * (A + C)) := ⟨_, rfl⟩
    rw [← eZ.out] at hnz ⊢
    replace y5 : IntKind.i64.wrap (P * (A + C)) = Z := y5.trans eZ.out.symm
    generalize num Z = R at *
    clear eA eB eC eZ hPin
    rcases hb2 with g1 | ⟨g1, g2⟩
    · skip
      unfold vlV at *
      go_enter Tryz.func132, Tryz.ntmps132
      go_wp2
      replace hB := hB.drew
      obtain ⟨a0, a1⟩ := (ha.grow hB).cells
      obtain ⟨b0, b1⟩ := (hb.grow hB).cells
      obtain ⟨r0, r1⟩ := (hr.grow hB).cells
      obtain ⟨rf0, rf1⟩ := (hr.grow hB).frozen
      go_region_held3 (fun W => W.cell? ⟨w.heap.size, 0, none⟩ = some (.int .i64 1) ∧ W.cell? ⟨w.heap.size, 1, none⟩ = some (.int .i64 n) ∧ W.cell? ⟨w.heap.size + 1, 0, none⟩ = some (.int .i64 1) ∧ W.cell? ⟨w.heap.size + 1, 1, none⟩ = some (.int .i64 m)) (first | exact ⟨a0, a1, b0, b1⟩) (first | (go_at_call 126; with_reducible refine (hsa _).mono ?_; rintro e w2 ⟨rfl, hb2⟩; replace hB := hB.trans (hb2.mono hB.size); obtain ⟨a0, a1⟩ := (ha.grow hB).cells; obtain ⟨b0, b1⟩ := (hb.grow hB).cells; obtain ⟨r0, r1⟩ := (hr.grow hB).cells; obtain ⟨rf0, rf1⟩ := (hr.grow hB).frozen) | (go_at_call 126; with_reducible refine (hsb _).mono ?_; rintro e w2 ⟨rfl, hb2⟩; replace hB := hB.trans (hb2.mono hB.size); obtain ⟨a0, a1⟩ := (ha.grow hB).cells; obtain ⟨b0, b1⟩ := (hb.grow hB).cells; obtain ⟨r0, r1⟩ := (hr.grow hB).cells; obtain ⟨rf0, rf1⟩ := (hr.grow hB).frozen))
      all_goals
        go_wp2_with (first | (go_at_call 124; with_reducible refine (hia _).mono ?_; rintro e w2 ⟨rfl, hb2⟩; replace hB := hB.trans (hb2.mono hB.size); obtain ⟨a0, a1⟩ := (ha.grow hB).cells; obtain ⟨b0, b1⟩ := (hb.grow hB).cells; obtain ⟨r0, r1⟩ := (hr.grow hB).cells; obtain ⟨rf0, rf1⟩ := (hr.grow hB).frozen) | (go_at_call 124; with_reducible refine (hib _).mono ?_; rintro e w2 ⟨rfl, hb2⟩; replace hB := hB.trans (hb2.mono hB.size); obtain ⟨a0, a1⟩ := (ha.grow hB).cells; obtain ⟨b0, b1⟩ := (hb.grow hB).cells; obtain ⟨r0, r1⟩ := (hr.grow hB).cells; obtain ⟨rf0, rf1⟩ := (hr.grow hB).frozen))
        replace hB := hB.drew
        obtain ⟨a0, a1⟩ := (ha.grow hB).cells
        obtain ⟨b0, b1⟩ := (hb.grow hB).cells
        obtain ⟨r0, r1⟩ := (hr.grow hB).cells
        obtain ⟨rf0, rf1⟩ := (hr.grow hB).frozen
        go_region_held3 (fun W => W.cell? ⟨w.heap.size, 0, none⟩ = some (.int .i64 1) ∧ W.cell? ⟨w.heap.size, 1, none⟩ = some (.int .i64 n) ∧ W.cell? ⟨w.heap.size + 1, 0, none⟩ = some (.int .i64 1) ∧ W.cell? ⟨w.heap.size + 1, 1, none⟩ = some (.int .i64 m)) (first | exact ⟨a0, a1, b0, b1⟩) (first | (go_at_call 162; with_reducible refine (hza _).mono ?_; rintro e w2 ⟨rfl, hb2⟩; replace hB := hB.trans (hb2.mono hB.size); obtain ⟨a0, a1⟩ := (ha.grow hB).cells; obtain ⟨b0, b1⟩ := (hb.grow hB).cells; obtain ⟨r0, r1⟩ := (hr.grow hB).cells; obtain ⟨rf0, rf1⟩ := (hr.grow hB).frozen) | (go_at_call 162; with_reducible refine (hzb _).mono ?_; rintro e w2 ⟨rfl, hb2⟩; replace hB := hB.trans (hb2.mono hB.size); obtain ⟨a0, a1⟩ := (ha.grow hB).cells; obtain ⟨b0, b1⟩ := (hb.grow hB).cells; obtain ⟨r0, r1⟩ := (hr.grow hB).cells; obtain ⟨rf0, rf1⟩ := (hr.grow hB).frozen))
        all_goals
          go_wp2_with (first | (go_at_call 26; with_reducible refine (hnz _).mono ?_; rintro e w2 ⟨rfl, hb2⟩; replace hB := hB.trans (hb2.mono hB.size); obtain ⟨a0, a1⟩ := (ha.grow hB).cells; obtain ⟨b0, b1⟩ := (hb.grow hB).cells; obtain ⟨r0, r1⟩ := (hr.grow hB).cells; obtain ⟨rf0, rf1⟩ := (hr.grow hB).frozen))
          exact end_set (v := R) Tryz.results132 rfl (by omega) (bW2 w _ _) hB hr
    · have g0 : (Q == 0) = false := by simp; omega
      obtain ⟨D, eD⟩ : ∃ x, Hid (x = 1000000000000000 / Q) := ⟨_, rfl⟩
      have hD : 0 ≤ D ∧ D ≤ 1000000000000000 := by
        rw [eD.out]
        exact ⟨Int.ediv_nonneg (by omega) (by omega), Int.ediv_le_self _ (by omega)⟩
      have d1 : (1000000000000000 : Int) / Q = D := eD.out.symm
      have d2 : (1000000000000000 : Int).tdiv Q = D := by rw [Int.tdiv_eq_ediv_of_nonneg (by omega)]; exact d1
      have w3' : IntKind.i64.wrap D = D := by rw [IntKind.wrap_i64]; omega
      rw [d1] at g2
      clear eD
      unfold vlV at *
      go_enter Tryz.func132, Tryz.ntmps132
      go_wp2
      replace hB := hB.drew
      obtain ⟨a0, a1⟩ := (ha.grow hB).cells
      obtain ⟨b0, b1⟩ := (hb.grow hB).cells
      obtain ⟨r0, r1⟩ := (hr.grow hB).cells
      obtain ⟨rf0, rf1⟩ := (hr.grow hB).frozen
      go_region_held3 (fun W => W.cell? ⟨w.heap.size, 0, none⟩ = some (.int .i64 1) ∧ W.cell? ⟨w.heap.size, 1, none⟩ = some (.int .i64 n) ∧ W.cell? ⟨w.heap.size + 1, 0, none⟩ = some (.int .i64 1) ∧ W.cell? ⟨w.heap.size + 1, 1, none⟩ = some (.int .i64 m)) (first | exact ⟨a0, a1, b0, b1⟩) (first | (go_at_call 126; with_reducible refine (hsa _).mono ?_; rintro e w2 ⟨rfl, hb2⟩; replace hB := hB.trans (hb2.mono hB.size); obtain ⟨a0, a1⟩ := (ha.grow hB).cells; obtain ⟨b0, b1⟩ := (hb.grow hB).cells; obtain ⟨r0, r1⟩ := (hr.grow hB).cells; obtain ⟨rf0, rf1⟩ := (hr.grow hB).frozen) | (go_at_call 126; with_reducible refine (hsb _).mono ?_; rintro e w2 ⟨rfl, hb2⟩; replace hB := hB.trans (hb2.mono hB.size); obtain ⟨a0, a1⟩ := (ha.grow hB).cells; obtain ⟨b0, b1⟩ := (hb.grow hB).cells; obtain ⟨r0, r1⟩ := (hr.grow hB).cells; obtain ⟨rf0, rf1⟩ := (hr.grow hB).frozen))
      all_goals
        go_wp2_with (first | (go_at_call 124; with_reducible refine (hia _).mono ?_; rintro e w2 ⟨rfl, hb2⟩; replace hB := hB.trans (hb2.mono hB.size); obtain ⟨a0, a1⟩ := (ha.grow hB).cells; obtain ⟨b0, b1⟩ := (hb.grow hB).cells; obtain ⟨r0, r1⟩ := (hr.grow hB).cells; obtain ⟨rf0, rf1⟩ := (hr.grow hB).frozen) | (go_at_call 124; with_reducible refine (hib _).mono ?_; rintro e w2 ⟨rfl, hb2⟩; replace hB := hB.trans (hb2.mono hB.size); obtain ⟨a0, a1⟩ := (ha.grow hB).cells; obtain ⟨b0, b1⟩ := (hb.grow hB).cells; obtain ⟨r0, r1⟩ := (hr.grow hB).cells; obtain ⟨rf0, rf1⟩ := (hr.grow hB).frozen))
        replace hB := hB.drew
        obtain ⟨a0, a1⟩ := (ha.grow hB).cells
        obtain ⟨b0, b1⟩ := (hb.grow hB).cells
        obtain ⟨r0, r1⟩ := (hr.grow hB).cells
        obtain ⟨rf0, rf1⟩ := (hr.grow hB).frozen
        go_region_held3 (fun W => W.cell? ⟨w.heap.size, 0, none⟩ = some (.int .i64 1) ∧ W.cell? ⟨w.heap.size, 1, none⟩ = some (.int .i64 n) ∧ W.cell? ⟨w.heap.size + 1, 0, none⟩ = some (.int .i64 1) ∧ W.cell? ⟨w.heap.size + 1, 1, none⟩ = some (.int .i64 m)) (first | exact ⟨a0, a1, b0, b1⟩) (first | (go_at_call 162; with_reducible refine (hza _).mono ?_; rintro e w2 ⟨rfl, hb2⟩; replace hB := hB.trans (hb2.mono hB.size); obtain ⟨a0, a1⟩ := (ha.grow hB).cells; obtain ⟨b0, b1⟩ := (hb.grow hB).cells; obtain ⟨r0, r1⟩ := (hr.grow hB).cells; obtain ⟨rf0, rf1⟩ := (hr.grow hB).frozen) | (go_at_call 162; with_reducible refine (hzb _).mono ?_; rintro e w2 ⟨rfl, hb2⟩; replace hB := hB.trans (hb2.mono hB.size); obtain ⟨a0, a1⟩ := (ha.grow hB).cells; obtain ⟨b0, b1⟩ := (hb.grow hB).cells; obtain ⟨r0, r1⟩ := (hr.grow hB).cells; obtain ⟨rf0, rf1⟩ := (hr.grow hB).frozen))
        all_goals
          go_wp2_with (first | (go_at_call 26; with_reducible refine (hnz _).mono ?_; rintro e w2 ⟨rfl, hb2⟩; replace hB := hB.trans (hb2.mono hB.size); obtain ⟨a0, a1⟩ := (ha.grow hB).cells; obtain ⟨b0, b1⟩ := (hb.grow hB).cells; obtain ⟨r0, r1⟩ := (hr.grow hB).cells; obtain ⟨rf0, rf1⟩ := (hr.grow hB).frozen))
          exact end_set (v := R) Tryz.results132 rfl (by omega) (bW2 w _ _) hB hr
end Go.Proofs.YtdhlfpgibfaimaaGreatDoor
