/- Vd; Ve. -/
import Derived.Test.YtaffplmfnincfaaGreatDoorVaVc
/- Values: the contracts of sum, True, not, order. -/
namespace Go.Proofs.YtaffplmfnincfaaGreatDoor
set_option linter.unusedVariables false
open Go.RowKit
attribute [local go_sem ↓] Go.wp_at_zero Go.wp_at_succ
theorem ordy_cases {v : Vl} (h : IsV v) (o : Ordy v) : (∃ n, v = ⟨1, n⟩ ∧ -1000000000000000 ≤ n ∧ n ≤ 1000000000000000) ∨ v = pls ∨ v = mns := by
  rcases h.cases with h | rfl | rfl | rfl | rfl
  · exact .inl h
  · exact absurd rfl o.1
  · exact absurd rfl o.2
  · exact .inr (.inl rfl)
  · exact .inr (.inr rfl)
set_option maxRecDepth 100000 in
set_option maxHeartbeats 1000000 in
theorem sum_any (a b : Vl) (hva : IsV a) (hvb : IsV b) (oa : Ordy a) (ob : Ordy b) (w : World) : Calls Tryz.prog 222 #[vlV a, vlV b] w fun e w' => e = .returned (vlV (add a b)) ∧ Below w.heap.size w w' := by
  obtain ⟨ha, hb, hr⟩ := pW2 w a b
  have hB : Below (W2 w a b).heap.size (W2 w a b) (W2 w a b) := Below.refl _ _
  have hia := fun W => isNum_b a W
  have hib := fun W => isNum_b b W
  rcases ordy_cases hva oa with ⟨n, rfl, h1, h2⟩ | rfl | rfl <;> rcases ordy_cases hvb ob with ⟨m, rfl, h3, h4⟩ | rfl | rfl <;> clear hva hvb oa ob
  · have e : add ⟨1, n⟩ ⟨1, m⟩ = num (n + m) := by simp [add]
    rw [e]; clear e
    unfold vlV at hia hib ⊢
    go_enter Tryz.func222, Tryz.ntmps222
    go_wp2_with (first | (go_at_call 251; refine (hia _).mono ?_; rintro e w2 ⟨rfl, hb2⟩; replace hB := hB.trans (hb2.mono hB.size); obtain ⟨a0, a1⟩ := (ha.grow hB).cells; obtain ⟨b0, b1⟩ := (hb.grow hB).cells; obtain ⟨r0, r1⟩ := (hr.grow hB).cells; obtain ⟨rf0, rf1⟩ := (hr.grow hB).frozen) | (go_at_call 251; refine (hib _).mono ?_; rintro e w2 ⟨rfl, hb2⟩; replace hB := hB.trans (hb2.mono hB.size); obtain ⟨a0, a1⟩ := (ha.grow hB).cells; obtain ⟨b0, b1⟩ := (hb.grow hB).cells; obtain ⟨r0, r1⟩ := (hr.grow hB).cells; obtain ⟨rf0, rf1⟩ := (hr.grow hB).frozen) | (go_at_call 155; refine (num_any _ _).mono ?_; rintro e w2 ⟨rfl, hb2⟩; replace hB := hB.trans (hb2.mono hB.size); obtain ⟨a0, a1⟩ := (ha.grow hB).cells; obtain ⟨b0, b1⟩ := (hb.grow hB).cells; obtain ⟨r0, r1⟩ := (hr.grow hB).cells; obtain ⟨rf0, rf1⟩ := (hr.grow hB).frozen; unfold vlV))
    exact end_set (v := num (n + m)) Tryz.results222 rfl (by omega) (bW2 w _ _) hB hr
  · have e : add ⟨1, n⟩ pls = pls := by simp [add, pls]
    rw [e]; clear e
    unfold vlV at hia hib ⊢
    go_enter Tryz.func222, Tryz.ntmps222
    go_wp2_with (first | (go_at_call 251; refine (hia _).mono ?_; rintro e w2 ⟨rfl, hb2⟩; replace hB := hB.trans (hb2.mono hB.size); obtain ⟨a0, a1⟩ := (ha.grow hB).cells; obtain ⟨b0, b1⟩ := (hb.grow hB).cells; obtain ⟨r0, r1⟩ := (hr.grow hB).cells; obtain ⟨rf0, rf1⟩ := (hr.grow hB).frozen) | (go_at_call 251; refine (hib _).mono ?_; rintro e w2 ⟨rfl, hb2⟩; replace hB := hB.trans (hb2.mono hB.size); obtain ⟨a0, a1⟩ := (ha.grow hB).cells; obtain ⟨b0, b1⟩ := (hb.grow hB).cells; obtain ⟨r0, r1⟩ := (hr.grow hB).cells; obtain ⟨rf0, rf1⟩ := (hr.grow hB).frozen) | (go_at_call 155; refine (num_any _ _).mono ?_; rintro e w2 ⟨rfl, hb2⟩; replace hB := hB.trans (hb2.mono hB.size); obtain ⟨a0, a1⟩ := (ha.grow hB).cells; obtain ⟨b0, b1⟩ := (hb.grow hB).cells; obtain ⟨r0, r1⟩ := (hr.grow hB).cells; obtain ⟨rf0, rf1⟩ := (hr.grow hB).frozen; unfold vlV))
    exact end_set (v := pls) Tryz.results222 rfl (by omega) (bW2 w _ _) hB hr
  · have e : add ⟨1, n⟩ mns = mns := by simp [add, mns]
    rw [e]; clear e
    unfold vlV at hia hib ⊢
    go_enter Tryz.func222, Tryz.ntmps222
    go_wp2_with (first | (go_at_call 251; refine (hia _).mono ?_; rintro e w2 ⟨rfl, hb2⟩; replace hB := hB.trans (hb2.mono hB.size); obtain ⟨a0, a1⟩ := (ha.grow hB).cells; obtain ⟨b0, b1⟩ := (hb.grow hB).cells; obtain ⟨r0, r1⟩ := (hr.grow hB).cells; obtain ⟨rf0, rf1⟩ := (hr.grow hB).frozen) | (go_at_call 251; refine (hib _).mono ?_; rintro e w2 ⟨rfl, hb2⟩; replace hB := hB.trans (hb2.mono hB.size); obtain ⟨a0, a1⟩ := (ha.grow hB).cells; obtain ⟨b0, b1⟩ := (hb.grow hB).cells; obtain ⟨r0, r1⟩ := (hr.grow hB).cells; obtain ⟨rf0, rf1⟩ := (hr.grow hB).frozen) | (go_at_call 155; refine (num_any _ _).mono ?_; rintro e w2 ⟨rfl, hb2⟩; replace hB := hB.trans (hb2.mono hB.size); obtain ⟨a0, a1⟩ := (ha.grow hB).cells; obtain ⟨b0, b1⟩ := (hb.grow hB).cells; obtain ⟨r0, r1⟩ := (hr.grow hB).cells; obtain ⟨rf0, rf1⟩ := (hr.grow hB).frozen; unfold vlV))
    exact end_set (v := mns) Tryz.results222 rfl (by omega) (bW2 w _ _) hB hr
  · have e : add pls ⟨1, m⟩ = pls := by simp [add, pls]
    rw [e]; clear e
    unfold vlV at hia hib ⊢
    go_enter Tryz.func222, Tryz.ntmps222
    go_wp2_with (first | (go_at_call 251; refine (hia _).mono ?_; rintro e w2 ⟨rfl, hb2⟩; replace hB := hB.trans (hb2.mono hB.size); obtain ⟨a0, a1⟩ := (ha.grow hB).cells; obtain ⟨b0, b1⟩ := (hb.grow hB).cells; obtain ⟨r0, r1⟩ := (hr.grow hB).cells; obtain ⟨rf0, rf1⟩ := (hr.grow hB).frozen) | (go_at_call 251; refine (hib _).mono ?_; rintro e w2 ⟨rfl, hb2⟩; replace hB := hB.trans (hb2.mono hB.size); obtain ⟨a0, a1⟩ := (ha.grow hB).cells; obtain ⟨b0, b1⟩ := (hb.grow hB).cells; obtain ⟨r0, r1⟩ := (hr.grow hB).cells; obtain ⟨rf0, rf1⟩ := (hr.grow hB).frozen) | (go_at_call 155; refine (num_any _ _).mono ?_; rintro e w2 ⟨rfl, hb2⟩; replace hB := hB.trans (hb2.mono hB.size); obtain ⟨a0, a1⟩ := (ha.grow hB).cells; obtain ⟨b0, b1⟩ := (hb.grow hB).cells; obtain ⟨r0, r1⟩ := (hr.grow hB).cells; obtain ⟨rf0, rf1⟩ := (hr.grow hB).frozen; unfold vlV))
    exact end_set (v := pls) Tryz.results222 rfl (by omega) (bW2 w _ _) hB hr
  · have e : add pls pls = pls := by simp [add, pls]
    rw [e]; clear e
    unfold vlV at hia hib ⊢
    go_enter Tryz.func222, Tryz.ntmps222
    go_wp2_with (first | (go_at_call 251; refine (hia _).mono ?_; rintro e w2 ⟨rfl, hb2⟩; replace hB := hB.trans (hb2.mono hB.size); obtain ⟨a0, a1⟩ := (ha.grow hB).cells; obtain ⟨b0, b1⟩ := (hb.grow hB).cells; obtain ⟨r0, r1⟩ := (hr.grow hB).cells; obtain ⟨rf0, rf1⟩ := (hr.grow hB).frozen) | (go_at_call 251; refine (hib _).mono ?_; rintro e w2 ⟨rfl, hb2⟩; replace hB := hB.trans (hb2.mono hB.size); obtain ⟨a0, a1⟩ := (ha.grow hB).cells; obtain ⟨b0, b1⟩ := (hb.grow hB).cells; obtain ⟨r0, r1⟩ := (hr.grow hB).cells; obtain ⟨rf0, rf1⟩ := (hr.grow hB).frozen) | (go_at_call 136; refine (nan_b _).mono ?_; rintro e w2 ⟨rfl, hb2⟩; replace hB := hB.trans (hb2.mono hB.size); obtain ⟨a0, a1⟩ := (ha.grow hB).cells; obtain ⟨b0, b1⟩ := (hb.grow hB).cells; obtain ⟨r0, r1⟩ := (hr.grow hB).cells; obtain ⟨rf0, rf1⟩ := (hr.grow hB).frozen; unfold vlV))
    exact end_set (v := pls) Tryz.results222 rfl (by omega) (bW2 w _ _) hB hr
  · have e : add pls mns = nan := by simp [add, pls, mns]
    rw [e]; clear e
    unfold vlV at hia hib ⊢
    go_enter Tryz.func222, Tryz.ntmps222
    go_wp2_with (first | (go_at_call 251; refine (hia _).mono ?_; rintro e w2 ⟨rfl, hb2⟩; replace hB := hB.trans (hb2.mono hB.size); obtain ⟨a0, a1⟩ := (ha.grow hB).cells; obtain ⟨b0, b1⟩ := (hb.grow hB).cells; obtain ⟨r0, r1⟩ := (hr.grow hB).cells; obtain ⟨rf0, rf1⟩ := (hr.grow hB).frozen) | (go_at_call 251; refine (hib _).mono ?_; rintro e w2 ⟨rfl, hb2⟩; replace hB := hB.trans (hb2.mono hB.size); obtain ⟨a0, a1⟩ := (ha.grow hB).cells; obtain ⟨b0, b1⟩ := (hb.grow hB).cells; obtain ⟨r0, r1⟩ := (hr.grow hB).cells; obtain ⟨rf0, rf1⟩ := (hr.grow hB).frozen) | (go_at_call 136; refine (nan_b _).mono ?_; rintro e w2 ⟨rfl, hb2⟩; replace hB := hB.trans (hb2.mono hB.size); obtain ⟨a0, a1⟩ := (ha.grow hB).cells; obtain ⟨b0, b1⟩ := (hb.grow hB).cells; obtain ⟨r0, r1⟩ := (hr.grow hB).cells; obtain ⟨rf0, rf1⟩ := (hr.grow hB).frozen; unfold vlV))
    exact end_set (v := nan) Tryz.results222 rfl (by omega) (bW2 w _ _) hB hr
  · have e : add mns ⟨1, m⟩ = mns := by simp [add, mns]
    rw [e]; clear e
    unfold vlV at hia hib ⊢
    go_enter Tryz.func222, Tryz.ntmps222
    go_wp2_with (first | (go_at_call 251; refine (hia _).mono ?_; rintro e w2 ⟨rfl, hb2⟩; replace hB := hB.trans (hb2.mono hB.size); obtain ⟨a0, a1⟩ := (ha.grow hB).cells; obtain ⟨b0, b1⟩ := (hb.grow hB).cells; obtain ⟨r0, r1⟩ := (hr.grow hB).cells; obtain ⟨rf0, rf1⟩ := (hr.grow hB).frozen) | (go_at_call 251; refine (hib _).mono ?_; rintro e w2 ⟨rfl, hb2⟩; replace hB := hB.trans (hb2.mono hB.size); obtain ⟨a0, a1⟩ := (ha.grow hB).cells; obtain ⟨b0, b1⟩ := (hb.grow hB).cells; obtain ⟨r0, r1⟩ := (hr.grow hB).cells; obtain ⟨rf0, rf1⟩ := (hr.grow hB).frozen) | (go_at_call 155; refine (num_any _ _).mono ?_; rintro e w2 ⟨rfl, hb2⟩; replace hB := hB.trans (hb2.mono hB.size); obtain ⟨a0, a1⟩ := (ha.grow hB).cells; obtain ⟨b0, b1⟩ := (hb.grow hB).cells; obtain ⟨r0, r1⟩ := (hr.grow hB).cells; obtain ⟨rf0, rf1⟩ := (hr.grow hB).frozen; unfold vlV))
    exact end_set (v := mns) Tryz.results222 rfl (by omega) (bW2 w _ _) hB hr
  · have e : add mns pls = nan := by simp [add, pls, mns]
    rw [e]; clear e
    unfold vlV at hia hib ⊢
    go_enter Tryz.func222, Tryz.ntmps222
    go_wp2_with (first | (go_at_call 251; refine (hia _).mono ?_; rintro e w2 ⟨rfl, hb2⟩; replace hB := hB.trans (hb2.mono hB.size); obtain ⟨a0, a1⟩ := (ha.grow hB).cells; obtain ⟨b0, b1⟩ := (hb.grow hB).cells; obtain ⟨r0, r1⟩ := (hr.grow hB).cells; obtain ⟨rf0, rf1⟩ := (hr.grow hB).frozen) | (go_at_call 251; refine (hib _).mono ?_; rintro e w2 ⟨rfl, hb2⟩; replace hB := hB.trans (hb2.mono hB.size); obtain ⟨a0, a1⟩ := (ha.grow hB).cells; obtain ⟨b0, b1⟩ := (hb.grow hB).cells; obtain ⟨r0, r1⟩ := (hr.grow hB).cells; obtain ⟨rf0, rf1⟩ := (hr.grow hB).frozen) | (go_at_call 136; refine (nan_b _).mono ?_; rintro e w2 ⟨rfl, hb2⟩; replace hB := hB.trans (hb2.mono hB.size); obtain ⟨a0, a1⟩ := (ha.grow hB).cells; obtain ⟨b0, b1⟩ := (hb.grow hB).cells; obtain ⟨r0, r1⟩ := (hr.grow hB).cells; obtain ⟨rf0, rf1⟩ := (hr.grow hB).frozen; unfold vlV))
    exact end_set (v := nan) Tryz.results222 rfl (by omega) (bW2 w _ _) hB hr
  · have e : add mns mns = mns := by simp [add, mns]
    rw [e]; clear e
    unfold vlV at hia hib ⊢
    go_enter Tryz.func222, Tryz.ntmps222
    go_wp2_with (first | (go_at_call 251; refine (hia _).mono ?_; rintro e w2 ⟨rfl, hb2⟩; replace hB := hB.trans (hb2.mono hB.size); obtain ⟨a0, a1⟩ := (ha.grow hB).cells; obtain ⟨b0, b1⟩ := (hb.grow hB).cells; obtain ⟨r0, r1⟩ := (hr.grow hB).cells; obtain ⟨rf0, rf1⟩ := (hr.grow hB).frozen) | (go_at_call 251; refine (hib _).mono ?_; rintro e w2 ⟨rfl, hb2⟩; replace hB := hB.trans (hb2.mono hB.size); obtain ⟨a0, a1⟩ := (ha.grow hB).cells; obtain ⟨b0, b1⟩ := (hb.grow hB).cells; obtain ⟨r0, r1⟩ := (hr.grow hB).cells; obtain ⟨rf0, rf1⟩ := (hr.grow hB).frozen) | (go_at_call 136; refine (nan_b _).mono ?_; rintro e w2 ⟨rfl, hb2⟩; replace hB := hB.trans (hb2.mono hB.size); obtain ⟨a0, a1⟩ := (ha.grow hB).cells; obtain ⟨b0, b1⟩ := (hb.grow hB).cells; obtain ⟨r0, r1⟩ := (hr.grow hB).cells; obtain ⟨rf0, rf1⟩ := (hr.grow hB).frozen; unfold vlV))
    exact end_set (v := mns) Tryz.results222 rfl (by omega) (bW2 w _ _) hB hr
end Go.Proofs.YtaffplmfnincfaaGreatDoor
/- Values: the contracts of True, not, order. -/
namespace Go.Proofs.YtaffplmfnincfaaGreatDoor
set_option linter.unusedVariables false
open Go.RowKit
attribute [local go_sem ↓] Go.wp_at_zero Go.wp_at_succ
theorem isB_of {v : Vl} (h : IsV v) : isB v = true := decide_eq_true h
set_option maxRecDepth 100000 in
set_option maxHeartbeats 1000000 in
theorem true_any (v : Vl) (hv : IsV v) (w : World) : Calls Tryz.prog 187 #[vlV v] w fun e w' => e = .returned (.bool (truB v)) ∧ Below w.heap.size w w' := by
  have ha := vlNew w v
  have hB : Below (w.alloc (vlO v)).heap.size (w.alloc (vlO v)) (w.alloc (vlO v)).drew := (Below.refl _ _).drew
  have hi := fun W => isValue_b v W
  rw [isB_of hv] at hi
  have hn := fun W => num_any 0 W
  have e0 : num 0 = ⟨1, 0⟩ := rfl
  rw [e0] at hn
  obtain ⟨a0, a1⟩ := (ha.grow hB).cells
  by_cases h2 : v.kind = 2
  · have e : truB v = false := by simp [truB, h2]
    rw [e]; clear e
    have h2b : (v.kind != 2) = false := by simp [h2]
    clear hv h2
    unfold vlV at hi hn ⊢
    go_enter Tryz.func187, Tryz.ntmps187
    go_wp2
    go_region_with (first | (go_at_call 160; refine (hi _).mono ?_; rintro e w2 ⟨rfl, hb2⟩; replace hB := hB.trans (hb2.mono hB.size); obtain ⟨a0, a1⟩ := (ha.grow hB).cells) | (go_at_call 155; refine (hn _).mono ?_; rintro e w2 ⟨rfl, hb2⟩; replace hB := hB.trans (hb2.mono hB.size); obtain ⟨a0, a1⟩ := (ha.grow hB).cells))
    all_goals
      go_wp2
      go_ret
      exact ⟨rfl, (bW0 w _).trans (hB.mono (by simp))⟩
  · have e : truB v = !((v.kind == 1) && (v.n == 0)) := by
      rcases hv.cases with ⟨n, rfl, h1, h2⟩ | rfl | rfl | rfl | rfl
      · simp [truB, bne]
      · exact absurd rfl h2
      · rfl
      · rfl
      · rfl
    rw [e]; clear e
    have h2b : (v.kind != 2) = true := by simpa using h2
    clear hv h2
    unfold vlV at hi hn ⊢
    cases hb1 : (v.kind == 1) <;> cases hb2 : (v.n == 0)
    all_goals
      go_enter Tryz.func187, Tryz.ntmps187
      go_wp2
      go_region_held3 (fun W => W.cell? ⟨w.heap.size, 0, none⟩ = some (.int .i64 v.kind) ∧ W.cell? ⟨w.heap.size, 1, none⟩ = some (.int .i64 v.n)) (first | exact ⟨a0, a1⟩ | go_keep) (first | (go_at_call 160; refine (hi _).mono ?_; rintro e w2 ⟨rfl, hb2⟩; replace hB := hB.trans (hb2.mono hB.size); obtain ⟨a0, a1⟩ := (ha.grow hB).cells) | (go_at_call 155; refine (hn _).mono ?_; rintro e w2 ⟨rfl, hb2⟩; replace hB := hB.trans (hb2.mono hB.size); obtain ⟨a0, a1⟩ := (ha.grow hB).cells))
      all_goals
        go_wp2
        go_ret
        exact ⟨rfl, (bW0 w _).trans (hB.mono (by simp))⟩
set_option maxRecDepth 100000 in
set_option maxHeartbeats 1000000 in
theorem not_any (v : Vl) (hv : IsV v) (w : World) : Calls Tryz.prog 219 #[vlV v] w fun e w' => e = .returned (vlV (notV v)) ∧ Below w.heap.size w w' := by
  obtain ⟨ha, hr⟩ := pW1 w v
  have hB : Below (W1 w v).heap.size (W1 w v) (W1 w v) := Below.refl _ _
  have ht := fun W => true_any v hv W
  clear hv
  by_cases h2 : v.kind = 2
  · have e : notV v = v := by rw [notV, if_pos h2]
    rw [e]; clear e
    have h2b : (v.kind == 2) = true := by simpa using h2
    clear h2 ht
    unfold vlV
    go_enter Tryz.func219, Tryz.ntmps219
    go_wp2
    exact ret_cell Tryz.results219 rfl (vlNew1 w _ v) ⟨rfl, (bW0 w _).alloc (by simp) _⟩
  · have e : notV v = tru (!truB v) := by rw [notV, if_neg h2]
    rw [e]; clear e
    have h2b : (v.kind == 2) = false := by simpa using h2
    clear h2
    generalize truB v = T at *
    unfold vlV at ht ⊢
    go_enter Tryz.func219, Tryz.ntmps219
    go_wp2_with (first | (go_at_call 187; refine (ht _).mono ?_; rintro e w2 ⟨rfl, hb2⟩; replace hB := hB.trans (hb2.mono hB.size); obtain ⟨a0, a1⟩ := (ha.grow hB).cells; obtain ⟨r0, r1⟩ := (hr.grow hB).cells; obtain ⟨rf0, rf1⟩ := (hr.grow hB).frozen) | (go_at_call 235; refine (truth_any _ _).mono ?_; rintro e w2 ⟨rfl, hb2⟩; replace hB := hB.trans (hb2.mono hB.size); obtain ⟨a0, a1⟩ := (ha.grow hB).cells; obtain ⟨r0, r1⟩ := (hr.grow hB).cells; obtain ⟨rf0, rf1⟩ := (hr.grow hB).frozen; unfold vlV))
    exact end_set (v := tru (!T)) Tryz.results219 rfl (by omega) (bW1 w _) hB hr
/-- As order tells it. -/
def ordI (a b : Vl) : Int := if place a < place b then -1 else if place b < place a then 1 else 0
theorem ordI_is {a b : Vl} (ha : IsV a) (hb : IsV b) (oa : Ordy a) (ob : Ordy b) :
    ((if hgt a < hgt b then (-1 : Int) else if hgt b < hgt a then 1 else 0) ≠ 0 ∧ ordI a b = (if hgt a < hgt b then (-1 : Int) else if hgt b < hgt a then 1 else 0)) ∨
    ((if hgt a < hgt b then (-1 : Int) else if hgt b < hgt a then 1 else 0) = 0 ∧ ordI a b = if a.n < b.n then -1 else if b.n < a.n then 1 else 0) := by
  rcases ordy_cases ha oa with ⟨n, rfl, h1, h2⟩ | rfl | rfl <;> rcases ordy_cases hb ob with ⟨m, rfl, h3, h4⟩ | rfl | rfl
  · right; exact ⟨by simp [hgt], by simp [ordI, place]⟩
  · left; refine ⟨by simp [hgt, pls, sgB], ?_⟩; simp [hgt, pls, sgB, ordI, place]; omega
  · left; refine ⟨by simp [hgt, mns, sgB], ?_⟩; simp [hgt, mns, sgB, ordI, place]; omega
  · left; refine ⟨by simp [hgt, pls, sgB], ?_⟩; simp [hgt, pls, sgB, ordI, place]; omega
  · right; exact ⟨by simp, by simp [ordI]⟩
  · left; exact ⟨by decide, by decide⟩
  · left; refine ⟨by simp [hgt, mns, sgB], ?_⟩; simp [hgt, mns, sgB, ordI, place]; omega
  · left; exact ⟨by decide, by decide⟩
  · right; exact ⟨by simp, by simp [ordI]⟩
set_option maxRecDepth 100000 in
set_option maxHeartbeats 1000000 in
theorem order_any (a b : Vl) (hva : IsV a) (hvb : IsV b) (oa : Ordy a) (ob : Ordy b) (w : World) : Calls Tryz.prog 258 #[vlV a, vlV b] w fun e w' => e = .returned (.int .i64 (ordI a b)) ∧ Below w.heap.size w w' := by
  have ha : VlAt ((w.alloc (vlO a)).alloc (vlO b)) w.heap.size a := (vlNew w a).alloc _
  have hb : VlAt ((w.alloc (vlO a)).alloc (vlO b)) (w.heap.size + 1) b := vlNew1 w _ b
  have h0 : Below w.heap.size w ((w.alloc (vlO a)).alloc (vlO b)) := (bW0 w _).alloc (by simp) _
  have hB : Below ((w.alloc (vlO a)).alloc (vlO b)).heap.size ((w.alloc (vlO a)).alloc (vlO b)) ((w.alloc (vlO a)).alloc (vlO b)).drew := (Below.refl _ _).drew
  have hha := fun W => height_any a W
  have hhb := fun W => height_any b W
  have hc := fun W => cmpI_b (hgt a) (hgt b) W
  have hd := fun W => cmp64_b a.n b.n W
  have hor := ordI_is hva hvb oa ob
  generalize (if hgt a < hgt b then (-1 : Int) else if hgt b < hgt a then 1 else 0) = C at *
  generalize (if a.n < b.n then (-1 : Int) else if b.n < a.n then 1 else 0) = D at *
  generalize hgt a = A at *
  generalize hgt b = B at *
  obtain ⟨a0, a1⟩ := (ha.grow hB).cells
  obtain ⟨b0, b1⟩ := (hb.grow hB).cells
  clear hva hvb oa ob
  unfold vlV at hha hhb ⊢
  rcases hor with ⟨hC, hR⟩ | ⟨hC, hR⟩
  · rw [hR]
    have hC' : (C != 0) = true := by simpa using hC
    clear hR hC
    go_enter Tryz.func258, Tryz.ntmps258
    go_wp2
    go_region_held3 (fun W => W.cell? ⟨w.heap.size, 0, none⟩ = some (.int .i64 a.kind) ∧ W.cell? ⟨w.heap.size, 1, none⟩ = some (.int .i64 a.n) ∧ W.cell? ⟨w.heap.size + 1, 0, none⟩ = some (.int .i64 b.kind) ∧ W.cell? ⟨w.heap.size + 1, 1, none⟩ = some (.int .i64 b.n)) (first | exact ⟨a0, a1, b0, b1⟩ | go_keep) (first | (go_at_call 273; refine (hha _).mono ?_; rintro e w2 ⟨rfl, hb2⟩; replace hB := hB.trans (hb2.mono hB.size); obtain ⟨a0, a1⟩ := (ha.grow hB).cells; obtain ⟨b0, b1⟩ := (hb.grow hB).cells) | (go_at_call 273; refine (hhb _).mono ?_; rintro e w2 ⟨rfl, hb2⟩; replace hB := hB.trans (hb2.mono hB.size); obtain ⟨a0, a1⟩ := (ha.grow hB).cells; obtain ⟨b0, b1⟩ := (hb.grow hB).cells) | (go_at_call 272; refine (hc _).mono ?_; rintro e w2 ⟨rfl, hb2⟩; replace hB := hB.trans (hb2.mono hB.size); obtain ⟨a0, a1⟩ := (ha.grow hB).cells; obtain ⟨b0, b1⟩ := (hb.grow hB).cells))
    all_goals
      go_wp2_with (first | (go_at_call 268; refine (hd _).mono ?_; rintro e w2 ⟨rfl, hb2⟩; replace hB := hB.trans (hb2.mono hB.size); obtain ⟨a0, a1⟩ := (ha.grow hB).cells; obtain ⟨b0, b1⟩ := (hb.grow hB).cells))
      go_ret
      exact ⟨rfl, h0.trans (hB.mono h0.size)⟩
  · rw [hR]
    have hC' : (C != 0) = false := by simpa using hC
    clear hR hC
    go_enter Tryz.func258, Tryz.ntmps258
    go_wp2
    go_region_held3 (fun W => W.cell? ⟨w.heap.size, 0, none⟩ = some (.int .i64 a.kind) ∧ W.cell? ⟨w.heap.size, 1, none⟩ = some (.int .i64 a.n) ∧ W.cell? ⟨w.heap.size + 1, 0, none⟩ = some (.int .i64 b.kind) ∧ W.cell? ⟨w.heap.size + 1, 1, none⟩ = some (.int .i64 b.n)) (first | exact ⟨a0, a1, b0, b1⟩ | go_keep) (first | (go_at_call 273; refine (hha _).mono ?_; rintro e w2 ⟨rfl, hb2⟩; replace hB := hB.trans (hb2.mono hB.size); obtain ⟨a0, a1⟩ := (ha.grow hB).cells; obtain ⟨b0, b1⟩ := (hb.grow hB).cells) | (go_at_call 273; refine (hhb _).mono ?_; rintro e w2 ⟨rfl, hb2⟩; replace hB := hB.trans (hb2.mono hB.size); obtain ⟨a0, a1⟩ := (ha.grow hB).cells; obtain ⟨b0, b1⟩ := (hb.grow hB).cells) | (go_at_call 272; refine (hc _).mono ?_; rintro e w2 ⟨rfl, hb2⟩; replace hB := hB.trans (hb2.mono hB.size); obtain ⟨a0, a1⟩ := (ha.grow hB).cells; obtain ⟨b0, b1⟩ := (hb.grow hB).cells))
    all_goals
      go_wp2_with (first | (go_at_call 268; refine (hd _).mono ?_; rintro e w2 ⟨rfl, hb2⟩; replace hB := hB.trans (hb2.mono hB.size); obtain ⟨a0, a1⟩ := (ha.grow hB).cells; obtain ⟨b0, b1⟩ := (hb.grow hB).cells))
      go_ret
      exact ⟨rfl, h0.trans (hB.mono h0.size)⟩
end Go.Proofs.YtaffplmfnincfaaGreatDoor
