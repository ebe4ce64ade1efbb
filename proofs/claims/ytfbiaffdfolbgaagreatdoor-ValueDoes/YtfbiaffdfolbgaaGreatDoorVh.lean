/- Values: the contracts of product, quotient. -/
import Derived.Test.YtfbiaffdfolbgaaGreatDoorVg
namespace Go.Proofs.YtfbiaffdfolbgaaGreatDoor
set_option linter.unusedVariables false
open Go.RowKit
attribute [local go_sem ↓] Go.wp_at_zero Go.wp_at_succ
theorem cset {w : World} {x y o : Nat} {a b u : Value} (h : w.cell? ⟨y, o, none⟩ = some u) (hn : y ≠ x) : ((w.setCell ⟨x, 0, none⟩ a).setCell ⟨x, 1, none⟩ b).cell? ⟨y, o, none⟩ = some u := by
  rw [World.cell?_setCell_other _ _ _ _ (fun e => hn (congrArg Addr.block e).symm), World.cell?_setCell_other _ _ _ _ (fun e => hn (congrArg Addr.block e).symm)]; exact h
theorem sgB_in (v : Vl) : sgB v = 1 ∨ sgB v = -1 ∨ sgB v = 0 := by
  unfold sgB
  split
  · exact .inl rfl
  · split
    · exact .inr (.inl rfl)
    · split
      · exact .inr (.inl rfl)
      · split
        · exact .inl rfl
        · exact .inr (.inr rfl)
theorem mul_in {a b : Int} (ha : a = 1 ∨ a = -1 ∨ a = 0) (hb : b = 1 ∨ b = -1 ∨ b = 0) : a * b = 1 ∨ a * b = -1 ∨ a * b = 0 := by
  rcases ha with rfl | rfl | rfl <;> rcases hb with rfl | rfl | rfl <;> decide
set_option maxRecDepth 100000 in
set_option maxHeartbeats 2000000 in
theorem product_any (a b : Vl) (hva : IsV a) (hvb : IsV b) (w : World) : Calls Tryz.prog 53 #[vlV a, vlV b] w fun e w' => e = .returned (vlV (mul a b)) ∧ Below w.heap.size w w' := by
  obtain ⟨ha, hb, hr⟩ := pW2 w a b
  have hB : Below (W2 w a b).heap.size (W2 w a b) (W2 w a b) := Below.refl _ _
  have hia := fun W => isNum_b a W
  have hib := fun W => isNum_b b W
  by_cases hk : a.kind = 1 ∧ b.kind = 1
  · obtain ⟨ka, n⟩ := a
    obtain ⟨kb, m⟩ := b
    simp only at hk
    obtain ⟨rfl, rfl⟩ := hk
    have hn : -1000000000000000 ≤ n ∧ n ≤ 1000000000000000 := by rcases hva with h | h <;> simp at h <;> omega
    have hm : -1000000000000000 ≤ m ∧ m ≤ 1000000000000000 := by rcases hvb with h | h <;> simp at h <;> omega
    have hs := fun W => scaled_any n m 1000 hn hm (by decide) (by decide) (.inr rfl) W
    have e : mul ⟨1, n⟩ ⟨1, m⟩ = num (Int.tdiv (n * m) 1000) := by simp [mul]
    rw [e]; clear e
    generalize num (Int.tdiv (n * m) 1000) = R at *
    clear hva hvb
    unfold vlV at *
    go_enter Tryz.func53, Tryz.ntmps53
    go_wp2_with (first | (go_at_call 78; with_reducible refine (hia _).mono ?_; rintro e w2 ⟨rfl, hb2⟩; replace hB := hB.trans (hb2.mono hB.size); obtain ⟨a0, a1⟩ := (ha.grow hB).cells; obtain ⟨b0, b1⟩ := (hb.grow hB).cells; obtain ⟨r0, r1⟩ := (hr.grow hB).cells; obtain ⟨rf0, rf1⟩ := (hr.grow hB).frozen) | (go_at_call 78; with_reducible refine (hib _).mono ?_; rintro e w2 ⟨rfl, hb2⟩; replace hB := hB.trans (hb2.mono hB.size); obtain ⟨a0, a1⟩ := (ha.grow hB).cells; obtain ⟨b0, b1⟩ := (hb.grow hB).cells; obtain ⟨r0, r1⟩ := (hr.grow hB).cells; obtain ⟨rf0, rf1⟩ := (hr.grow hB).frozen) | (go_at_call 83; refine (hs _).mono ?_; rintro e w2 ⟨rfl, hb2⟩; replace hB := hB.trans (hb2.mono hB.size); obtain ⟨a0, a1⟩ := (ha.grow hB).cells; obtain ⟨b0, b1⟩ := (hb.grow hB).cells; obtain ⟨r0, r1⟩ := (hr.grow hB).cells; obtain ⟨rf0, rf1⟩ := (hr.grow hB).frozen))
    exact end_set (v := R) Tryz.results53 rfl (by omega) (bW2 w _ _) hB hr
  · have e : mul a b = byd (sgB a * sgB b) := by rw [mul, if_neg hk, sgB_sgn hva.zn, sgB_sgn hvb.zn]
    rw [e]; clear e
    have hsa := fun W => sign_b a W
    have hsb := fun W => sign_b b W
    have hin := mul_in (sgB_in a) (sgB_in b)
    have hen := fun W => endless_any (sgB a * sgB b) W hin
    have hwr : IntKind.i64.wrap (sgB a * sgB b) = sgB a * sgB b := by rcases hin with h | h | h <;> rw [h] <;> rfl
    obtain ⟨SA, eA⟩ : ∃ x, Hid (x = sgB a) := ⟨_, rfl⟩
    obtain ⟨SB, eB⟩ : ∃ x, Hid (x = sgB b) := ⟨_, rfl⟩
    rw [← eA.out] at hsa hen hwr ⊢
    rw [← eB.out] at hsb hen hwr ⊢
    obtain ⟨P, eP⟩ : ∃ x, Hid (x = SA * SB) := ⟨_, rfl⟩
    rw [← eP.out] at hen ⊢
    replace hwr : IntKind.i64.wrap (SA * SB) = P := hwr.trans eP.out.symm
    clear hva hvb hin eA eB eP
    generalize byd P = R at *
    have hkb : ((a.kind == 1) && (b.kind == 1)) = false := by
      cases h1 : (a.kind == 1) <;> cases h2 : (b.kind == 1) <;> simp_all
    clear hk
    unfold vlV at *
    cases h1 : (a.kind == 1)
    · rw [h1] at hia
      clear hkb hib
      go_enter Tryz.func53, Tryz.ntmps53
      go_wp2_with (first | (go_at_call 78; refine (hia _).mono ?_; rintro e w2 ⟨rfl, hb2⟩; replace hB := hB.trans (hb2.mono hB.size); obtain ⟨a0, a1⟩ := (ha.grow hB).cells; obtain ⟨b0, b1⟩ := (hb.grow hB).cells; obtain ⟨r0, r1⟩ := (hr.grow hB).cells; obtain ⟨rf0, rf1⟩ := (hr.grow hB).frozen))
      replace hB := hB.drew
      obtain ⟨a0, a1⟩ := (ha.grow hB).cells
      obtain ⟨b0, b1⟩ := (hb.grow hB).cells
      obtain ⟨r0, r1⟩ := (hr.grow hB).cells
      obtain ⟨rf0, rf1⟩ := (hr.grow hB).frozen
      go_region_held3 (fun W => W.cell? ⟨w.heap.size, 0, none⟩ = some (.int .i64 a.kind) ∧ W.cell? ⟨w.heap.size, 1, none⟩ = some (.int .i64 a.n) ∧ W.cell? ⟨w.heap.size + 1, 0, none⟩ = some (.int .i64 b.kind) ∧ W.cell? ⟨w.heap.size + 1, 1, none⟩ = some (.int .i64 b.n)) (first | exact ⟨a0, a1, b0, b1⟩ | exact ⟨cset a0 (by omega), cset a1 (by omega), cset b0 (by omega), cset b1 (by omega)⟩) (first | (go_at_call 77; with_reducible refine (hsa _).mono ?_; rintro e w2 ⟨rfl, hb2⟩; replace hB := hB.trans (hb2.mono hB.size); obtain ⟨a0, a1⟩ := (ha.grow hB).cells; obtain ⟨b0, b1⟩ := (hb.grow hB).cells; obtain ⟨r0, r1⟩ := (hr.grow hB).cells; obtain ⟨rf0, rf1⟩ := (hr.grow hB).frozen) | (go_at_call 77; with_reducible refine (hsb _).mono ?_; rintro e w2 ⟨rfl, hb2⟩; replace hB := hB.trans (hb2.mono hB.size); obtain ⟨a0, a1⟩ := (ha.grow hB).cells; obtain ⟨b0, b1⟩ := (hb.grow hB).cells; obtain ⟨r0, r1⟩ := (hr.grow hB).cells; obtain ⟨rf0, rf1⟩ := (hr.grow hB).frozen) | (go_at_call 76; with_reducible refine (hen _).mono ?_; rintro e w2 ⟨rfl, hb2⟩; replace hB := hB.trans (hb2.mono hB.size); obtain ⟨a0, a1⟩ := (ha.grow hB).cells; obtain ⟨b0, b1⟩ := (hb.grow hB).cells; obtain ⟨r0, r1⟩ := (hr.grow hB).cells; obtain ⟨rf0, rf1⟩ := (hr.grow hB).frozen))
      all_goals
        go_wp2
        exact end_set (v := R) Tryz.results53 rfl (by omega) (bW2 w _ _) hB hr
    · rw [h1] at hia hkb
      replace hkb : (b.kind == 1) = false := by simpa using hkb
      rw [hkb] at hib
      go_enter Tryz.func53, Tryz.ntmps53
      go_wp2_with (first | (go_at_call 78; with_reducible refine (hia _).mono ?_; rintro e w2 ⟨rfl, hb2⟩; replace hB := hB.trans (hb2.mono hB.size); obtain ⟨a0, a1⟩ := (ha.grow hB).cells; obtain ⟨b0, b1⟩ := (hb.grow hB).cells; obtain ⟨r0, r1⟩ := (hr.grow hB).cells; obtain ⟨rf0, rf1⟩ := (hr.grow hB).frozen) | (go_at_call 78; with_reducible refine (hib _).mono ?_; rintro e w2 ⟨rfl, hb2⟩; replace hB := hB.trans (hb2.mono hB.size); obtain ⟨a0, a1⟩ := (ha.grow hB).cells; obtain ⟨b0, b1⟩ := (hb.grow hB).cells; obtain ⟨r0, r1⟩ := (hr.grow hB).cells; obtain ⟨rf0, rf1⟩ := (hr.grow hB).frozen))
      replace hB := hB.drew
      obtain ⟨a0, a1⟩ := (ha.grow hB).cells
      obtain ⟨b0, b1⟩ := (hb.grow hB).cells
      obtain ⟨r0, r1⟩ := (hr.grow hB).cells
      obtain ⟨rf0, rf1⟩ := (hr.grow hB).frozen
      go_region_held3 (fun W => W.cell? ⟨w.heap.size, 0, none⟩ = some (.int .i64 a.kind) ∧ W.cell? ⟨w.heap.size, 1, none⟩ = some (.int .i64 a.n) ∧ W.cell? ⟨w.heap.size + 1, 0, none⟩ = some (.int .i64 b.kind) ∧ W.cell? ⟨w.heap.size + 1, 1, none⟩ = some (.int .i64 b.n)) (first | exact ⟨a0, a1, b0, b1⟩ | exact ⟨cset a0 (by omega), cset a1 (by omega), cset b0 (by omega), cset b1 (by omega)⟩) (first | (go_at_call 77; with_reducible refine (hsa _).mono ?_; rintro e w2 ⟨rfl, hb2⟩; replace hB := hB.trans (hb2.mono hB.size); obtain ⟨a0, a1⟩ := (ha.grow hB).cells; obtain ⟨b0, b1⟩ := (hb.grow hB).cells; obtain ⟨r0, r1⟩ := (hr.grow hB).cells; obtain ⟨rf0, rf1⟩ := (hr.grow hB).frozen) | (go_at_call 77; with_reducible refine (hsb _).mono ?_; rintro e w2 ⟨rfl, hb2⟩; replace hB := hB.trans (hb2.mono hB.size); obtain ⟨a0, a1⟩ := (ha.grow hB).cells; obtain ⟨b0, b1⟩ := (hb.grow hB).cells; obtain ⟨r0, r1⟩ := (hr.grow hB).cells; obtain ⟨rf0, rf1⟩ := (hr.grow hB).frozen) | (go_at_call 76; with_reducible refine (hen _).mono ?_; rintro e w2 ⟨rfl, hb2⟩; replace hB := hB.trans (hb2.mono hB.size); obtain ⟨a0, a1⟩ := (ha.grow hB).cells; obtain ⟨b0, b1⟩ := (hb.grow hB).cells; obtain ⟨r0, r1⟩ := (hr.grow hB).cells; obtain ⟨rf0, rf1⟩ := (hr.grow hB).frozen))
      all_goals
        go_wp2
        exact end_set (v := R) Tryz.results53 rfl (by omega) (bW2 w _ _) hB hr
set_option maxRecDepth 100000 in
set_option maxHeartbeats 2000000 in
theorem quotient_any (a b : Vl) (hva : IsV a) (hvb : IsV b) (oa : Ordy a) (ob : Ordy b) (w : World) : Calls Tryz.prog 54 #[vlV a, vlV b] w fun e w' => e = .returned (vlV (dvd a b)) ∧ Below w.heap.size w w' := by
  obtain ⟨ha, hb, hr⟩ := pW2 w a b
  have hB : Below (W2 w a b).heap.size (W2 w a b) (W2 w a b).drew := (Below.refl _ _).drew
  have hia := fun W => isNum_b a W
  have hib := fun W => isNum_b b W
  have hn0 := fun W => num_any 0 W
  have e0 : num 0 = ⟨1, 0⟩ := rfl
  rw [e0] at hn0
  clear e0
  obtain ⟨a0, a1⟩ := (ha.grow hB).cells
  obtain ⟨b0, b1⟩ := (hb.grow hB).cells
  obtain ⟨r0, r1⟩ := (hr.grow hB).cells
  obtain ⟨rf0, rf1⟩ := (hr.grow hB).frozen
  by_cases h1 : a.kind = 1
  · obtain ⟨ka, n⟩ := a
    simp only at h1
    subst h1
    have hn : -1000000000000000 ≤ n ∧ n ≤ 1000000000000000 := by rcases hva with h | h <;> simp at h <;> omega
    by_cases h2 : b.kind = 1
    · obtain ⟨kb, m⟩ := b
      simp only at h2
      subst h2
      have hm : -1000000000000000 ≤ m ∧ m ≤ 1000000000000000 := by rcases hvb with h | h <;> simp at h <;> omega
      by_cases h3 : m = 0
      · subst h3
        have e : dvd ⟨1, n⟩ ⟨1, 0⟩ = byd (sgB ⟨1, n⟩) := by rw [sgB_sgn (.inl rfl)]; simp [dvd]
        rw [e]; clear e
        have hsa := fun W => sign_b ⟨1, n⟩ W
        have hen := fun W => endless_any (sgB ⟨1, n⟩) W (sgB_in _)
        generalize sgB ⟨1, n⟩ = S at *
        generalize byd S = R at *
        clear hva hvb oa ob hm hib
        unfold vlV at *
        go_enter Tryz.func54, Tryz.ntmps54
        go_wp2
        go_region_held3 (fun W => W.cell? ⟨w.heap.size, 0, none⟩ = some (.int .i64 1) ∧ W.cell? ⟨w.heap.size, 1, none⟩ = some (.int .i64 n) ∧ W.cell? ⟨w.heap.size + 1, 0, none⟩ = some (.int .i64 1) ∧ W.cell? ⟨w.heap.size + 1, 1, none⟩ = some (.int .i64 0)) (first | exact ⟨a0, a1, b0, b1⟩) (first | (go_at_call 78; with_reducible refine (hia _).mono ?_; rintro e w2 ⟨rfl, hb2⟩; replace hB := hB.trans (hb2.mono hB.size); obtain ⟨a0, a1⟩ := (ha.grow hB).cells; obtain ⟨b0, b1⟩ := (hb.grow hB).cells; obtain ⟨r0, r1⟩ := (hr.grow hB).cells; obtain ⟨rf0, rf1⟩ := (hr.grow hB).frozen) | (go_at_call 18; with_reducible refine (hn0 _).mono ?_; rintro e w2 ⟨rfl, hb2⟩; replace hB := hB.trans (hb2.mono hB.size); obtain ⟨a0, a1⟩ := (ha.grow hB).cells; obtain ⟨b0, b1⟩ := (hb.grow hB).cells; obtain ⟨r0, r1⟩ := (hr.grow hB).cells; obtain ⟨rf0, rf1⟩ := (hr.grow hB).frozen))
        all_goals
          go_wp2_with (first | (go_at_call 77; with_reducible refine (hsa _).mono ?_; rintro e w2 ⟨rfl, hb2⟩; replace hB := hB.trans (hb2.mono hB.size); obtain ⟨a0, a1⟩ := (ha.grow hB).cells; obtain ⟨b0, b1⟩ := (hb.grow hB).cells; obtain ⟨r0, r1⟩ := (hr.grow hB).cells; obtain ⟨rf0, rf1⟩ := (hr.grow hB).frozen) | (go_at_call 76; with_reducible refine (hen _).mono ?_; rintro e w2 ⟨rfl, hb2⟩; replace hB := hB.trans (hb2.mono hB.size); obtain ⟨a0, a1⟩ := (ha.grow hB).cells; obtain ⟨b0, b1⟩ := (hb.grow hB).cells; obtain ⟨r0, r1⟩ := (hr.grow hB).cells; obtain ⟨rf0, rf1⟩ := (hr.grow hB).frozen))
          exact end_set (v := R) Tryz.results54 rfl (by omega) (bW2 w _ _) hB hr
      · have e : dvd ⟨1, n⟩ ⟨1, m⟩ = num (Int.tdiv (n * 1000) m) := by simp [dvd, h3]
        rw [e]; clear e
        have hs := fun W => scaled_any n 1000 m hn (by decide) hm h3 (.inl rfl) W
        generalize num (Int.tdiv (n * 1000) m) = R at *
        have h3b : (m == 0) = false := by simpa using h3
        clear hva hvb oa ob
        unfold vlV at *
        go_enter Tryz.func54, Tryz.ntmps54
        go_wp2
        go_region_held3 (fun W => W.cell? ⟨w.heap.size, 0, none⟩ = some (.int .i64 1) ∧ W.cell? ⟨w.heap.size, 1, none⟩ = some (.int .i64 n) ∧ W.cell? ⟨w.heap.size + 1, 0, none⟩ = some (.int .i64 1) ∧ W.cell? ⟨w.heap.size + 1, 1, none⟩ = some (.int .i64 m)) (first | exact ⟨a0, a1, b0, b1⟩) (first | (go_at_call 78; with_reducible refine (hia _).mono ?_; rintro e w2 ⟨rfl, hb2⟩; replace hB := hB.trans (hb2.mono hB.size); obtain ⟨a0, a1⟩ := (ha.grow hB).cells; obtain ⟨b0, b1⟩ := (hb.grow hB).cells; obtain ⟨r0, r1⟩ := (hr.grow hB).cells; obtain ⟨rf0, rf1⟩ := (hr.grow hB).frozen) | (go_at_call 18; with_reducible refine (hn0 _).mono ?_; rintro e w2 ⟨rfl, hb2⟩; replace hB := hB.trans (hb2.mono hB.size); obtain ⟨a0, a1⟩ := (ha.grow hB).cells; obtain ⟨b0, b1⟩ := (hb.grow hB).cells; obtain ⟨r0, r1⟩ := (hr.grow hB).cells; obtain ⟨rf0, rf1⟩ := (hr.grow hB).frozen))
        all_goals
          go_wp2_with (first | (go_at_call 78; with_reducible refine (hia _).mono ?_; rintro e w2 ⟨rfl, hb2⟩; replace hB := hB.trans (hb2.mono hB.size); obtain ⟨a0, a1⟩ := (ha.grow hB).cells; obtain ⟨b0, b1⟩ := (hb.grow hB).cells; obtain ⟨r0, r1⟩ := (hr.grow hB).cells; obtain ⟨rf0, rf1⟩ := (hr.grow hB).frozen) | (go_at_call 78; with_reducible refine (hib _).mono ?_; rintro e w2 ⟨rfl, hb2⟩; replace hB := hB.trans (hb2.mono hB.size); obtain ⟨a0, a1⟩ := (ha.grow hB).cells; obtain ⟨b0, b1⟩ := (hb.grow hB).cells; obtain ⟨r0, r1⟩ := (hr.grow hB).cells; obtain ⟨rf0, rf1⟩ := (hr.grow hB).frozen) | (go_at_call 83; with_reducible refine (hs _).mono ?_; rintro e w2 ⟨rfl, hb2⟩; replace hB := hB.trans (hb2.mono hB.size); obtain ⟨a0, a1⟩ := (ha.grow hB).cells; obtain ⟨b0, b1⟩ := (hb.grow hB).cells; obtain ⟨r0, r1⟩ := (hr.grow hB).cells; obtain ⟨rf0, rf1⟩ := (hr.grow hB).frozen))
          exact end_set (v := R) Tryz.results54 rfl (by omega) (bW2 w _ _) hB hr
    · have e : dvd ⟨1, n⟩ b = ⟨1, 0⟩ := by simp [dvd, h2]
      rw [e]; clear e
      have h2b : (b.kind == 1) = false := by simpa using h2
      rw [h2b] at hib
      clear hva hvb oa ob h2
      unfold vlV at *
      go_enter Tryz.func54, Tryz.ntmps54
      go_wp2
      go_region_held3 (fun W => W.cell? ⟨w.heap.size, 0, none⟩ = some (.int .i64 1) ∧ W.cell? ⟨w.heap.size, 1, none⟩ = some (.int .i64 n) ∧ W.cell? ⟨w.heap.size + 1, 0, none⟩ = some (.int .i64 b.kind) ∧ W.cell? ⟨w.heap.size + 1, 1, none⟩ = some (.int .i64 b.n)) (first | exact ⟨a0, a1, b0, b1⟩) (first | (go_at_call 78; with_reducible refine (hia _).mono ?_; rintro e w2 ⟨rfl, hb2⟩; replace hB := hB.trans (hb2.mono hB.size); obtain ⟨a0, a1⟩ := (ha.grow hB).cells; obtain ⟨b0, b1⟩ := (hb.grow hB).cells; obtain ⟨r0, r1⟩ := (hr.grow hB).cells; obtain ⟨rf0, rf1⟩ := (hr.grow hB).frozen) | (go_at_call 18; with_reducible refine (hn0 _).mono ?_; rintro e w2 ⟨rfl, hb2⟩; replace hB := hB.trans (hb2.mono hB.size); obtain ⟨a0, a1⟩ := (ha.grow hB).cells; obtain ⟨b0, b1⟩ := (hb.grow hB).cells; obtain ⟨r0, r1⟩ := (hr.grow hB).cells; obtain ⟨rf0, rf1⟩ := (hr.grow hB).frozen))
      all_goals
        go_wp2_with (first | (go_at_call 78; with_reducible refine (hia _).mono ?_; rintro e w2 ⟨rfl, hb2⟩; replace hB := hB.trans (hb2.mono hB.size); obtain ⟨a0, a1⟩ := (ha.grow hB).cells; obtain ⟨b0, b1⟩ := (hb.grow hB).cells; obtain ⟨r0, r1⟩ := (hr.grow hB).cells; obtain ⟨rf0, rf1⟩ := (hr.grow hB).frozen) | (go_at_call 78; with_reducible refine (hib _).mono ?_; rintro e w2 ⟨rfl, hb2⟩; replace hB := hB.trans (hb2.mono hB.size); obtain ⟨a0, a1⟩ := (ha.grow hB).cells; obtain ⟨b0, b1⟩ := (hb.grow hB).cells; obtain ⟨r0, r1⟩ := (hr.grow hB).cells; obtain ⟨rf0, rf1⟩ := (hr.grow hB).frozen) | (go_at_call 18; with_reducible refine (hn0 _).mono ?_; rintro e w2 ⟨rfl, hb2⟩; replace hB := hB.trans (hb2.mono hB.size); obtain ⟨a0, a1⟩ := (ha.grow hB).cells; obtain ⟨b0, b1⟩ := (hb.grow hB).cells; obtain ⟨r0, r1⟩ := (hr.grow hB).cells; obtain ⟨rf0, rf1⟩ := (hr.grow hB).frozen))
        exact end_set (v := ⟨1, 0⟩) Tryz.results54 rfl (by omega) (bW2 w _ _) hB hr
  · have h1b : (a.kind == 1) = false := by simpa using h1
    rw [h1b] at hia
    by_cases h2 : b.kind = 1
    · have h2b : (b.kind == 1) = true := by simpa using h2
      rw [h2b] at hib
      by_cases h3 : b.n < 0
      · have e : dvd a b = neg a := by simp [dvd, h1, h2, h3]
        rw [e]; clear e
        have ht := fun W => turned_any a hva W
        generalize neg a = R at *
        clear hva hvb oa ob h2 h1
        unfold vlV at *
        go_enter Tryz.func54, Tryz.ntmps54
        go_wp2
        go_region_with (first | (go_at_call 78; with_reducible refine (hia _).mono ?_; rintro e w2 ⟨rfl, hb2⟩; replace hB := hB.trans (hb2.mono hB.size); obtain ⟨a0, a1⟩ := (ha.grow hB).cells; obtain ⟨b0, b1⟩ := (hb.grow hB).cells; obtain ⟨r0, r1⟩ := (hr.grow hB).cells; obtain ⟨rf0, rf1⟩ := (hr.grow hB).frozen) | (go_at_call 18; with_reducible refine (hn0 _).mono ?_; rintro e w2 ⟨rfl, hb2⟩; replace hB := hB.trans (hb2.mono hB.size); obtain ⟨a0, a1⟩ := (ha.grow hB).cells; obtain ⟨b0, b1⟩ := (hb.grow hB).cells; obtain ⟨r0, r1⟩ := (hr.grow hB).cells; obtain ⟨rf0, rf1⟩ := (hr.grow hB).frozen))
        all_goals
          go_wp2_with (first | (go_at_call 78; with_reducible refine (hia _).mono ?_; rintro e w2 ⟨rfl, hb2⟩; replace hB := hB.trans (hb2.mono hB.size); obtain ⟨a0, a1⟩ := (ha.grow hB).cells; obtain ⟨b0, b1⟩ := (hb.grow hB).cells; obtain ⟨r0, r1⟩ := (hr.grow hB).cells; obtain ⟨rf0, rf1⟩ := (hr.grow hB).frozen) | (go_at_call 78; with_reducible refine (hib _).mono ?_; rintro e w2 ⟨rfl, hb2⟩; replace hB := hB.trans (hb2.mono hB.size); obtain ⟨a0, a1⟩ := (ha.grow hB).cells; obtain ⟨b0, b1⟩ := (hb.grow hB).cells; obtain ⟨r0, r1⟩ := (hr.grow hB).cells; obtain ⟨rf0, rf1⟩ := (hr.grow hB).frozen) | (go_at_call 45; with_reducible refine (ht _).mono ?_; rintro e w2 ⟨rfl, hb2⟩; replace hB := hB.trans (hb2.mono hB.size); obtain ⟨a0, a1⟩ := (ha.grow hB).cells; obtain ⟨b0, b1⟩ := (hb.grow hB).cells; obtain ⟨r0, r1⟩ := (hr.grow hB).cells; obtain ⟨rf0, rf1⟩ := (hr.grow hB).frozen))
          exact end_set (v := R) Tryz.results54 rfl (by omega) (bW2 w _ _) hB hr
      · have e : dvd a b = a := by simp [dvd, h1, h2, h3]
        rw [e]; clear e
        clear hva hvb oa ob h2 h1
        unfold vlV at *
        go_enter Tryz.func54, Tryz.ntmps54
        go_wp2
        go_region_with (first | (go_at_call 78; with_reducible refine (hia _).mono ?_; rintro e w2 ⟨rfl, hb2⟩; replace hB := hB.trans (hb2.mono hB.size); obtain ⟨a0, a1⟩ := (ha.grow hB).cells; obtain ⟨b0, b1⟩ := (hb.grow hB).cells; obtain ⟨r0, r1⟩ := (hr.grow hB).cells; obtain ⟨rf0, rf1⟩ := (hr.grow hB).frozen) | (go_at_call 18; with_reducible refine (hn0 _).mono ?_; rintro e w2 ⟨rfl, hb2⟩; replace hB := hB.trans (hb2.mono hB.size); obtain ⟨a0, a1⟩ := (ha.grow hB).cells; obtain ⟨b0, b1⟩ := (hb.grow hB).cells; obtain ⟨r0, r1⟩ := (hr.grow hB).cells; obtain ⟨rf0, rf1⟩ := (hr.grow hB).frozen))
        all_goals
          go_wp2_with (first | (go_at_call 78; with_reducible refine (hia _).mono ?_; rintro e w2 ⟨rfl, hb2⟩; replace hB := hB.trans (hb2.mono hB.size); obtain ⟨a0, a1⟩ := (ha.grow hB).cells; obtain ⟨b0, b1⟩ := (hb.grow hB).cells; obtain ⟨r0, r1⟩ := (hr.grow hB).cells; obtain ⟨rf0, rf1⟩ := (hr.grow hB).frozen) | (go_at_call 78; with_reducible refine (hib _).mono ?_; rintro e w2 ⟨rfl, hb2⟩; replace hB := hB.trans (hb2.mono hB.size); obtain ⟨a0, a1⟩ := (ha.grow hB).cells; obtain ⟨b0, b1⟩ := (hb.grow hB).cells; obtain ⟨r0, r1⟩ := (hr.grow hB).cells; obtain ⟨rf0, rf1⟩ := (hr.grow hB).frozen))
          exact end_set (v := a) Tryz.results54 rfl (by omega) (bW2 w _ _) hB hr
    · have h2b : (b.kind == 1) = false := by simpa using h2
      rw [h2b] at hib
      have e : dvd a b = nan := by simp [dvd, h1, h2]
      rw [e]; clear e
      have hnn := fun W => nan_b W
      clear hva hvb oa ob h2 h1
      unfold vlV at *
      go_enter Tryz.func54, Tryz.ntmps54
      go_wp2
      go_region_with (first | (go_at_call 78; with_reducible refine (hia _).mono ?_; rintro e w2 ⟨rfl, hb2⟩; replace hB := hB.trans (hb2.mono hB.size); obtain ⟨a0, a1⟩ := (ha.grow hB).cells; obtain ⟨b0, b1⟩ := (hb.grow hB).cells; obtain ⟨r0, r1⟩ := (hr.grow hB).cells; obtain ⟨rf0, rf1⟩ := (hr.grow hB).frozen) | (go_at_call 18; with_reducible refine (hn0 _).mono ?_; rintro e w2 ⟨rfl, hb2⟩; replace hB := hB.trans (hb2.mono hB.size); obtain ⟨a0, a1⟩ := (ha.grow hB).cells; obtain ⟨b0, b1⟩ := (hb.grow hB).cells; obtain ⟨r0, r1⟩ := (hr.grow hB).cells; obtain ⟨rf0, rf1⟩ := (hr.grow hB).frozen))
      all_goals
        go_wp2_with (first | (go_at_call 78; with_reducible refine (hia _).mono ?_; rintro e w2 ⟨rfl, hb2⟩; replace hB := hB.trans (hb2.mono hB.size); obtain ⟨a0, a1⟩ := (ha.grow hB).cells; obtain ⟨b0, b1⟩ := (hb.grow hB).cells; obtain ⟨r0, r1⟩ := (hr.grow hB).cells; obtain ⟨rf0, rf1⟩ := (hr.grow hB).frozen) | (go_at_call 78; with_reducible refine (hib _).mono ?_; rintro e w2 ⟨rfl, hb2⟩; replace hB := hB.trans (hb2.mono hB.size); obtain ⟨a0, a1⟩ := (ha.grow hB).cells; obtain ⟨b0, b1⟩ := (hb.grow hB).cells; obtain ⟨r0, r1⟩ := (hr.grow hB).cells; obtain ⟨rf0, rf1⟩ := (hr.grow hB).frozen) | (go_at_call 24; with_reducible refine (hnn _).mono ?_; rintro e w2 ⟨rfl, hb2⟩; replace hB := hB.trans (hb2.mono hB.size); obtain ⟨a0, a1⟩ := (ha.grow hB).cells; obtain ⟨b0, b1⟩ := (hb.grow hB).cells; obtain ⟨r0, r1⟩ := (hr.grow hB).cells; obtain ⟨rf0, rf1⟩ := (hr.grow hB).frozen))
        exact end_set (v := nan) Tryz.results54 rfl (by omega) (bW2 w _ _) hB hr
end Go.Proofs.YtfbiaffdfolbgaaGreatDoor
