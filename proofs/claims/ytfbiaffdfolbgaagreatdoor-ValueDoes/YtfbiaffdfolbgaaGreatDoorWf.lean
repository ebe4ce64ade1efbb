/- The document's turned, add, Less, over. -/
import Derived.Test.YtfbiaffdfolbgaaGreatDoorWe
namespace Go.Proofs.YtfbiaffdfolbgaaGreatDoor
set_option linter.unusedVariables false
open Go.RowKit
attribute [local go_sem ↓] Go.wp_at_zero Go.wp_at_succ
set_option maxRecDepth 100000 in
set_option maxHeartbeats 1000000 in
theorem radd_any (a b : Vl) (hva : IsV a) (hvb : IsV b) (oa : Ordy a) (ob : Ordy b) (w : World) : Calls Tryz.prog 68 #[vlV a, vlV b] w fun e w' => e = .returned (vlV (add a b)) ∧ Below w.heap.size w w' := by
  obtain ⟨ha, hb, hr⟩ := pW2 w a b
  have hB : Below (W2 w a b).heap.size (W2 w a b) (W2 w a b) := Below.refl _ _
  have hia := fun W => knum_any a W
  have hib := fun W => knum_any b W
  rcases ordy_cases hva oa with ⟨n, rfl, h1, h2⟩ | rfl | rfl <;> rcases ordy_cases hvb ob with ⟨m, rfl, h3, h4⟩ | rfl | rfl <;> clear hva hvb oa ob
  · have e : add ⟨1, n⟩ ⟨1, m⟩ = num (n + m) := by simp [add]
    rw [e]; clear e
    unfold vlV at hia hib ⊢
    go_enter Tryz.func68, Tryz.ntmps68
    go_wp2_with (first | (go_at_call 42; with_reducible refine (hia _).mono ?_; rintro e w2 ⟨rfl, hb2⟩; replace hB := hB.trans (hb2.mono hB.size); obtain ⟨a0, a1⟩ := (ha.grow hB).cells; obtain ⟨b0, b1⟩ := (hb.grow hB).cells; obtain ⟨r0, r1⟩ := (hr.grow hB).cells; obtain ⟨rf0, rf1⟩ := (hr.grow hB).frozen) | (go_at_call 42; with_reducible refine (hib _).mono ?_; rintro e w2 ⟨rfl, hb2⟩; replace hB := hB.trans (hb2.mono hB.size); obtain ⟨a0, a1⟩ := (ha.grow hB).cells; obtain ⟨b0, b1⟩ := (hb.grow hB).cells; obtain ⟨r0, r1⟩ := (hr.grow hB).cells; obtain ⟨rf0, rf1⟩ := (hr.grow hB).frozen) | (go_at_call 19; refine (rnum_any _ _).mono ?_; rintro e w2 ⟨rfl, hb2⟩; replace hB := hB.trans (hb2.mono hB.size); obtain ⟨a0, a1⟩ := (ha.grow hB).cells; obtain ⟨b0, b1⟩ := (hb.grow hB).cells; obtain ⟨r0, r1⟩ := (hr.grow hB).cells; obtain ⟨rf0, rf1⟩ := (hr.grow hB).frozen; unfold vlV) | (go_at_call 25; refine (rnan_b _).mono ?_; rintro e w2 ⟨rfl, hb2⟩; replace hB := hB.trans (hb2.mono hB.size); obtain ⟨a0, a1⟩ := (ha.grow hB).cells; obtain ⟨b0, b1⟩ := (hb.grow hB).cells; obtain ⟨r0, r1⟩ := (hr.grow hB).cells; obtain ⟨rf0, rf1⟩ := (hr.grow hB).frozen; unfold vlV))
    exact end_set (v := num (n + m)) Tryz.results68 rfl (by omega) (bW2 w _ _) hB hr
  · have e : add ⟨1, n⟩ pls = pls := by simp [add, pls]
    rw [e]; clear e
    unfold vlV at hia hib ⊢
    go_enter Tryz.func68, Tryz.ntmps68
    go_wp2_with (first | (go_at_call 42; with_reducible refine (hia _).mono ?_; rintro e w2 ⟨rfl, hb2⟩; replace hB := hB.trans (hb2.mono hB.size); obtain ⟨a0, a1⟩ := (ha.grow hB).cells; obtain ⟨b0, b1⟩ := (hb.grow hB).cells; obtain ⟨r0, r1⟩ := (hr.grow hB).cells; obtain ⟨rf0, rf1⟩ := (hr.grow hB).frozen) | (go_at_call 42; with_reducible refine (hib _).mono ?_; rintro e w2 ⟨rfl, hb2⟩; replace hB := hB.trans (hb2.mono hB.size); obtain ⟨a0, a1⟩ := (ha.grow hB).cells; obtain ⟨b0, b1⟩ := (hb.grow hB).cells; obtain ⟨r0, r1⟩ := (hr.grow hB).cells; obtain ⟨rf0, rf1⟩ := (hr.grow hB).frozen) | (go_at_call 19; refine (rnum_any _ _).mono ?_; rintro e w2 ⟨rfl, hb2⟩; replace hB := hB.trans (hb2.mono hB.size); obtain ⟨a0, a1⟩ := (ha.grow hB).cells; obtain ⟨b0, b1⟩ := (hb.grow hB).cells; obtain ⟨r0, r1⟩ := (hr.grow hB).cells; obtain ⟨rf0, rf1⟩ := (hr.grow hB).frozen; unfold vlV) | (go_at_call 25; refine (rnan_b _).mono ?_; rintro e w2 ⟨rfl, hb2⟩; replace hB := hB.trans (hb2.mono hB.size); obtain ⟨a0, a1⟩ := (ha.grow hB).cells; obtain ⟨b0, b1⟩ := (hb.grow hB).cells; obtain ⟨r0, r1⟩ := (hr.grow hB).cells; obtain ⟨rf0, rf1⟩ := (hr.grow hB).frozen; unfold vlV))
    exact end_set (v := pls) Tryz.results68 rfl (by omega) (bW2 w _ _) hB hr
  · have e : add ⟨1, n⟩ mns = mns := by simp [add, mns]
    rw [e]; clear e
    unfold vlV at hia hib ⊢
    go_enter Tryz.func68, Tryz.ntmps68
    go_wp2_with (first | (go_at_call 42; with_reducible refine (hia _).mono ?_; rintro e w2 ⟨rfl, hb2⟩; replace hB := hB.trans (hb2.mono hB.size); obtain ⟨a0, a1⟩ := (ha.grow hB).cells; obtain ⟨b0, b1⟩ := (hb.grow hB).cells; obtain ⟨r0, r1⟩ := (hr.grow hB).cells; obtain ⟨rf0, rf1⟩ := (hr.grow hB).frozen) | (go_at_call 42; with_reducible refine (hib _).mono ?_; rintro e w2 ⟨rfl, hb2⟩; replace hB := hB.trans (hb2.mono hB.size); obtain ⟨a0, a1⟩ := (ha.grow hB).cells; obtain ⟨b0, b1⟩ := (hb.grow hB).cells; obtain ⟨r0, r1⟩ := (hr.grow hB).cells; obtain ⟨rf0, rf1⟩ := (hr.grow hB).frozen) | (go_at_call 19; refine (rnum_any _ _).mono ?_; rintro e w2 ⟨rfl, hb2⟩; replace hB := hB.trans (hb2.mono hB.size); obtain ⟨a0, a1⟩ := (ha.grow hB).cells; obtain ⟨b0, b1⟩ := (hb.grow hB).cells; obtain ⟨r0, r1⟩ := (hr.grow hB).cells; obtain ⟨rf0, rf1⟩ := (hr.grow hB).frozen; unfold vlV) | (go_at_call 25; refine (rnan_b _).mono ?_; rintro e w2 ⟨rfl, hb2⟩; replace hB := hB.trans (hb2.mono hB.size); obtain ⟨a0, a1⟩ := (ha.grow hB).cells; obtain ⟨b0, b1⟩ := (hb.grow hB).cells; obtain ⟨r0, r1⟩ := (hr.grow hB).cells; obtain ⟨rf0, rf1⟩ := (hr.grow hB).frozen; unfold vlV))
    exact end_set (v := mns) Tryz.results68 rfl (by omega) (bW2 w _ _) hB hr
  · have e : add pls ⟨1, m⟩ = pls := by simp [add, pls]
    rw [e]; clear e
    unfold vlV at hia hib ⊢
    go_enter Tryz.func68, Tryz.ntmps68
    go_wp2_with (first | (go_at_call 42; with_reducible refine (hia _).mono ?_; rintro e w2 ⟨rfl, hb2⟩; replace hB := hB.trans (hb2.mono hB.size); obtain ⟨a0, a1⟩ := (ha.grow hB).cells; obtain ⟨b0, b1⟩ := (hb.grow hB).cells; obtain ⟨r0, r1⟩ := (hr.grow hB).cells; obtain ⟨rf0, rf1⟩ := (hr.grow hB).frozen) | (go_at_call 42; with_reducible refine (hib _).mono ?_; rintro e w2 ⟨rfl, hb2⟩; replace hB := hB.trans (hb2.mono hB.size); obtain ⟨a0, a1⟩ := (ha.grow hB).cells; obtain ⟨b0, b1⟩ := (hb.grow hB).cells; obtain ⟨r0, r1⟩ := (hr.grow hB).cells; obtain ⟨rf0, rf1⟩ := (hr.grow hB).frozen) | (go_at_call 19; refine (rnum_any _ _).mono ?_; rintro e w2 ⟨rfl, hb2⟩; replace hB := hB.trans (hb2.mono hB.size); obtain ⟨a0, a1⟩ := (ha.grow hB).cells; obtain ⟨b0, b1⟩ := (hb.grow hB).cells; obtain ⟨r0, r1⟩ := (hr.grow hB).cells; obtain ⟨rf0, rf1⟩ := (hr.grow hB).frozen; unfold vlV) | (go_at_call 25; refine (rnan_b _).mono ?_; rintro e w2 ⟨rfl, hb2⟩; replace hB := hB.trans (hb2.mono hB.size); obtain ⟨a0, a1⟩ := (ha.grow hB).cells; obtain ⟨b0, b1⟩ := (hb.grow hB).cells; obtain ⟨r0, r1⟩ := (hr.grow hB).cells; obtain ⟨rf0, rf1⟩ := (hr.grow hB).frozen; unfold vlV))
    exact end_set (v := pls) Tryz.results68 rfl (by omega) (bW2 w _ _) hB hr
  · have e : add pls pls = pls := by simp [add, pls]
    rw [e]; clear e
    unfold vlV at hia hib ⊢
    go_enter Tryz.func68, Tryz.ntmps68
    go_wp2_with (first | (go_at_call 42; with_reducible refine (hia _).mono ?_; rintro e w2 ⟨rfl, hb2⟩; replace hB := hB.trans (hb2.mono hB.size); obtain ⟨a0, a1⟩ := (ha.grow hB).cells; obtain ⟨b0, b1⟩ := (hb.grow hB).cells; obtain ⟨r0, r1⟩ := (hr.grow hB).cells; obtain ⟨rf0, rf1⟩ := (hr.grow hB).frozen) | (go_at_call 42; with_reducible refine (hib _).mono ?_; rintro e w2 ⟨rfl, hb2⟩; replace hB := hB.trans (hb2.mono hB.size); obtain ⟨a0, a1⟩ := (ha.grow hB).cells; obtain ⟨b0, b1⟩ := (hb.grow hB).cells; obtain ⟨r0, r1⟩ := (hr.grow hB).cells; obtain ⟨rf0, rf1⟩ := (hr.grow hB).frozen) | (go_at_call 19; refine (rnum_any _ _).mono ?_; rintro e w2 ⟨rfl, hb2⟩; replace hB := hB.trans (hb2.mono hB.size); obtain ⟨a0, a1⟩ := (ha.grow hB).cells; obtain ⟨b0, b1⟩ := (hb.grow hB).cells; obtain ⟨r0, r1⟩ := (hr.grow hB).cells; obtain ⟨rf0, rf1⟩ := (hr.grow hB).frozen; unfold vlV) | (go_at_call 25; refine (rnan_b _).mono ?_; rintro e w2 ⟨rfl, hb2⟩; replace hB := hB.trans (hb2.mono hB.size); obtain ⟨a0, a1⟩ := (ha.grow hB).cells; obtain ⟨b0, b1⟩ := (hb.grow hB).cells; obtain ⟨r0, r1⟩ := (hr.grow hB).cells; obtain ⟨rf0, rf1⟩ := (hr.grow hB).frozen; unfold vlV))
    exact end_set (v := pls) Tryz.results68 rfl (by omega) (bW2 w _ _) hB hr
  · have e : add pls mns = nan := by simp [add, pls, mns]
    rw [e]; clear e
    unfold vlV at hia hib ⊢
    go_enter Tryz.func68, Tryz.ntmps68
    go_wp2_with (first | (go_at_call 42; with_reducible refine (hia _).mono ?_; rintro e w2 ⟨rfl, hb2⟩; replace hB := hB.trans (hb2.mono hB.size); obtain ⟨a0, a1⟩ := (ha.grow hB).cells; obtain ⟨b0, b1⟩ := (hb.grow hB).cells; obtain ⟨r0, r1⟩ := (hr.grow hB).cells; obtain ⟨rf0, rf1⟩ := (hr.grow hB).frozen) | (go_at_call 42; with_reducible refine (hib _).mono ?_; rintro e w2 ⟨rfl, hb2⟩; replace hB := hB.trans (hb2.mono hB.size); obtain ⟨a0, a1⟩ := (ha.grow hB).cells; obtain ⟨b0, b1⟩ := (hb.grow hB).cells; obtain ⟨r0, r1⟩ := (hr.grow hB).cells; obtain ⟨rf0, rf1⟩ := (hr.grow hB).frozen) | (go_at_call 19; refine (rnum_any _ _).mono ?_; rintro e w2 ⟨rfl, hb2⟩; replace hB := hB.trans (hb2.mono hB.size); obtain ⟨a0, a1⟩ := (ha.grow hB).cells; obtain ⟨b0, b1⟩ := (hb.grow hB).cells; obtain ⟨r0, r1⟩ := (hr.grow hB).cells; obtain ⟨rf0, rf1⟩ := (hr.grow hB).frozen; unfold vlV) | (go_at_call 25; refine (rnan_b _).mono ?_; rintro e w2 ⟨rfl, hb2⟩; replace hB := hB.trans (hb2.mono hB.size); obtain ⟨a0, a1⟩ := (ha.grow hB).cells; obtain ⟨b0, b1⟩ := (hb.grow hB).cells; obtain ⟨r0, r1⟩ := (hr.grow hB).cells; obtain ⟨rf0, rf1⟩ := (hr.grow hB).frozen; unfold vlV))
    exact end_set (v := nan) Tryz.results68 rfl (by omega) (bW2 w _ _) hB hr
  · have e : add mns ⟨1, m⟩ = mns := by simp [add, mns]
    rw [e]; clear e
    unfold vlV at hia hib ⊢
    go_enter Tryz.func68, Tryz.ntmps68
    go_wp2_with (first | (go_at_call 42; with_reducible refine (hia _).mono ?_; rintro e w2 ⟨rfl, hb2⟩; replace hB := hB.trans (hb2.mono hB.size); obtain ⟨a0, a1⟩ := (ha.grow hB).cells; obtain ⟨b0, b1⟩ := (hb.grow hB).cells; obtain ⟨r0, r1⟩ := (hr.grow hB).cells; obtain ⟨rf0, rf1⟩ := (hr.grow hB).frozen) | (go_at_call 42; with_reducible refine (hib _).mono ?_; rintro e w2 ⟨rfl, hb2⟩; replace hB := hB.trans (hb2.mono hB.size); obtain ⟨a0, a1⟩ := (ha.grow hB).cells; obtain ⟨b0, b1⟩ := (hb.grow hB).cells; obtain ⟨r0, r1⟩ := (hr.grow hB).cells; obtain ⟨rf0, rf1⟩ := (hr.grow hB).frozen) | (go_at_call 19; refine (rnum_any _ _).mono ?_; rintro e w2 ⟨rfl, hb2⟩; replace hB := hB.trans (hb2.mono hB.size); obtain ⟨a0, a1⟩ := (ha.grow hB).cells; obtain ⟨b0, b1⟩ := (hb.grow hB).cells; obtain ⟨r0, r1⟩ := (hr.grow hB).cells; obtain ⟨rf0, rf1⟩ := (hr.grow hB).frozen; unfold vlV) | (go_at_call 25; refine (rnan_b _).mono ?_; rintro e w2 ⟨rfl, hb2⟩; replace hB := hB.trans (hb2.mono hB.size); obtain ⟨a0, a1⟩ := (ha.grow hB).cells; obtain ⟨b0, b1⟩ := (hb.grow hB).cells; obtain ⟨r0, r1⟩ := (hr.grow hB).cells; obtain ⟨rf0, rf1⟩ := (hr.grow hB).frozen; unfold vlV))
    exact end_set (v := mns) Tryz.results68 rfl (by omega) (bW2 w _ _) hB hr
  · have e : add mns pls = nan := by simp [add, pls, mns]
    rw [e]; clear e
    unfold vlV at hia hib ⊢
    go_enter Tryz.func68, Tryz.ntmps68
    go_wp2_with (first | (go_at_call 42; with_reducible refine (hia _).mono ?_; rintro e w2 ⟨rfl, hb2⟩; replace hB := hB.trans (hb2.mono hB.size); obtain ⟨a0, a1⟩ := (ha.grow hB).cells; obtain ⟨b0, b1⟩ := (hb.grow hB).cells; obtain ⟨r0, r1⟩ := (hr.grow hB).cells; obtain ⟨rf0, rf1⟩ := (hr.grow hB).frozen) | (go_at_call 42; with_reducible refine (hib _).mono ?_; rintro e w2 ⟨rfl, hb2⟩; replace hB := hB.trans (hb2.mono hB.size); obtain ⟨a0, a1⟩ := (ha.grow hB).cells; obtain ⟨b0, b1⟩ := (hb.grow hB).cells; obtain ⟨r0, r1⟩ := (hr.grow hB).cells; obtain ⟨rf0, rf1⟩ := (hr.grow hB).frozen) | (go_at_call 19; refine (rnum_any _ _).mono ?_; rintro e w2 ⟨rfl, hb2⟩; replace hB := hB.trans (hb2.mono hB.size); obtain ⟨a0, a1⟩ := (ha.grow hB).cells; obtain ⟨b0, b1⟩ := (hb.grow hB).cells; obtain ⟨r0, r1⟩ := (hr.grow hB).cells; obtain ⟨rf0, rf1⟩ := (hr.grow hB).frozen; unfold vlV) | (go_at_call 25; refine (rnan_b _).mono ?_; rintro e w2 ⟨rfl, hb2⟩; replace hB := hB.trans (hb2.mono hB.size); obtain ⟨a0, a1⟩ := (ha.grow hB).cells; obtain ⟨b0, b1⟩ := (hb.grow hB).cells; obtain ⟨r0, r1⟩ := (hr.grow hB).cells; obtain ⟨rf0, rf1⟩ := (hr.grow hB).frozen; unfold vlV))
    exact end_set (v := nan) Tryz.results68 rfl (by omega) (bW2 w _ _) hB hr
  · have e : add mns mns = mns := by simp [add, mns]
    rw [e]; clear e
    unfold vlV at hia hib ⊢
    go_enter Tryz.func68, Tryz.ntmps68
    go_wp2_with (first | (go_at_call 42; with_reducible refine (hia _).mono ?_; rintro e w2 ⟨rfl, hb2⟩; replace hB := hB.trans (hb2.mono hB.size); obtain ⟨a0, a1⟩ := (ha.grow hB).cells; obtain ⟨b0, b1⟩ := (hb.grow hB).cells; obtain ⟨r0, r1⟩ := (hr.grow hB).cells; obtain ⟨rf0, rf1⟩ := (hr.grow hB).frozen) | (go_at_call 42; with_reducible refine (hib _).mono ?_; rintro e w2 ⟨rfl, hb2⟩; replace hB := hB.trans (hb2.mono hB.size); obtain ⟨a0, a1⟩ := (ha.grow hB).cells; obtain ⟨b0, b1⟩ := (hb.grow hB).cells; obtain ⟨r0, r1⟩ := (hr.grow hB).cells; obtain ⟨rf0, rf1⟩ := (hr.grow hB).frozen) | (go_at_call 19; refine (rnum_any _ _).mono ?_; rintro e w2 ⟨rfl, hb2⟩; replace hB := hB.trans (hb2.mono hB.size); obtain ⟨a0, a1⟩ := (ha.grow hB).cells; obtain ⟨b0, b1⟩ := (hb.grow hB).cells; obtain ⟨r0, r1⟩ := (hr.grow hB).cells; obtain ⟨rf0, rf1⟩ := (hr.grow hB).frozen; unfold vlV) | (go_at_call 25; refine (rnan_b _).mono ?_; rintro e w2 ⟨rfl, hb2⟩; replace hB := hB.trans (hb2.mono hB.size); obtain ⟨a0, a1⟩ := (ha.grow hB).cells; obtain ⟨b0, b1⟩ := (hb.grow hB).cells; obtain ⟨r0, r1⟩ := (hr.grow hB).cells; obtain ⟨rf0, rf1⟩ := (hr.grow hB).frozen; unfold vlV))
    exact end_set (v := mns) Tryz.results68 rfl (by omega) (bW2 w _ _) hB hr
set_option maxRecDepth 100000 in
set_option maxHeartbeats 1000000 in
theorem rless_any (a b : Vl) (hva : IsV a) (hvb : IsV b) (oa : Ordy a) (ob : Ordy b) (w : World) : Calls Tryz.prog 67 #[vlV a, vlV b] w fun e w' => e = .returned (.bool (lessB a b)) ∧ Below w.heap.size w w' := by
  have ha : VlAt ((w.alloc (vlO a)).alloc (vlO b)) w.heap.size a := (vlNew w a).alloc _
  have hb : VlAt ((w.alloc (vlO a)).alloc (vlO b)) (w.heap.size + 1) b := vlNew1 w _ b
  have hO : Below w.heap.size w ((w.alloc (vlO a)).alloc (vlO b)) := below2 w _ _
  have hB : Below ((w.alloc (vlO a)).alloc (vlO b)).heap.size ((w.alloc (vlO a)).alloc (vlO b)) ((w.alloc (vlO a)).alloc (vlO b)) := Below.refl _ _
  have hia := fun W => knum_any a W
  have hib := fun W => knum_any b W
  rcases ordy_cases hva oa with ⟨n, rfl, h1, h2⟩ | rfl | rfl <;> rcases ordy_cases hvb ob with ⟨m, rfl, h3, h4⟩ | rfl | rfl <;> clear hva hvb oa ob
  · have e : lessB ⟨1, n⟩ ⟨1, m⟩ = decide (n < m) := by simp [lessB]
    rw [e]; clear e
    unfold vlV at hia hib ⊢
    go_enter Tryz.func67, Tryz.ntmps67
    go_wp2_with (first | (go_at_call 42; with_reducible refine (hia _).mono ?_; rintro e w2 ⟨rfl, hb2⟩; replace hB := hB.trans (hb2.mono hB.size); obtain ⟨a0, a1⟩ := (ha.grow hB).cells; obtain ⟨b0, b1⟩ := (hb.grow hB).cells) | (go_at_call 42; with_reducible refine (hib _).mono ?_; rintro e w2 ⟨rfl, hb2⟩; replace hB := hB.trans (hb2.mono hB.size); obtain ⟨a0, a1⟩ := (ha.grow hB).cells; obtain ⟨b0, b1⟩ := (hb.grow hB).cells))
    go_ret
    exact ⟨rfl, hO.trans (hB.mono hO.size)⟩
  · have e : lessB ⟨1, n⟩ pls = true := by simp [lessB, pls]
    rw [e]; clear e
    unfold vlV at hia hib ⊢
    go_enter Tryz.func67, Tryz.ntmps67
    go_wp2_with (first | (go_at_call 42; with_reducible refine (hia _).mono ?_; rintro e w2 ⟨rfl, hb2⟩; replace hB := hB.trans (hb2.mono hB.size); obtain ⟨a0, a1⟩ := (ha.grow hB).cells; obtain ⟨b0, b1⟩ := (hb.grow hB).cells) | (go_at_call 42; with_reducible refine (hib _).mono ?_; rintro e w2 ⟨rfl, hb2⟩; replace hB := hB.trans (hb2.mono hB.size); obtain ⟨a0, a1⟩ := (ha.grow hB).cells; obtain ⟨b0, b1⟩ := (hb.grow hB).cells))
    go_ret
    exact ⟨rfl, hO.trans (hB.mono hO.size)⟩
  · have e : lessB ⟨1, n⟩ mns = false := by simp [lessB, mns]
    rw [e]; clear e
    unfold vlV at hia hib ⊢
    go_enter Tryz.func67, Tryz.ntmps67
    go_wp2_with (first | (go_at_call 42; with_reducible refine (hia _).mono ?_; rintro e w2 ⟨rfl, hb2⟩; replace hB := hB.trans (hb2.mono hB.size); obtain ⟨a0, a1⟩ := (ha.grow hB).cells; obtain ⟨b0, b1⟩ := (hb.grow hB).cells) | (go_at_call 42; with_reducible refine (hib _).mono ?_; rintro e w2 ⟨rfl, hb2⟩; replace hB := hB.trans (hb2.mono hB.size); obtain ⟨a0, a1⟩ := (ha.grow hB).cells; obtain ⟨b0, b1⟩ := (hb.grow hB).cells))
    go_ret
    exact ⟨rfl, hO.trans (hB.mono hO.size)⟩
  · have e : lessB pls ⟨1, m⟩ = false := by simp [lessB, pls]
    rw [e]; clear e
    unfold vlV at hia hib ⊢
    go_enter Tryz.func67, Tryz.ntmps67
    go_wp2_with (first | (go_at_call 42; with_reducible refine (hia _).mono ?_; rintro e w2 ⟨rfl, hb2⟩; replace hB := hB.trans (hb2.mono hB.size); obtain ⟨a0, a1⟩ := (ha.grow hB).cells; obtain ⟨b0, b1⟩ := (hb.grow hB).cells) | (go_at_call 42; with_reducible refine (hib _).mono ?_; rintro e w2 ⟨rfl, hb2⟩; replace hB := hB.trans (hb2.mono hB.size); obtain ⟨a0, a1⟩ := (ha.grow hB).cells; obtain ⟨b0, b1⟩ := (hb.grow hB).cells))
    go_ret
    exact ⟨rfl, hO.trans (hB.mono hO.size)⟩
  · have e : lessB pls pls = false := by simp [lessB, pls]
    rw [e]; clear e
    unfold vlV at hia hib ⊢
    go_enter Tryz.func67, Tryz.ntmps67
    go_wp2_with (first | (go_at_call 42; with_reducible refine (hia _).mono ?_; rintro e w2 ⟨rfl, hb2⟩; replace hB := hB.trans (hb2.mono hB.size); obtain ⟨a0, a1⟩ := (ha.grow hB).cells; obtain ⟨b0, b1⟩ := (hb.grow hB).cells) | (go_at_call 42; with_reducible refine (hib _).mono ?_; rintro e w2 ⟨rfl, hb2⟩; replace hB := hB.trans (hb2.mono hB.size); obtain ⟨a0, a1⟩ := (ha.grow hB).cells; obtain ⟨b0, b1⟩ := (hb.grow hB).cells))
    go_ret
    exact ⟨rfl, hO.trans (hB.mono hO.size)⟩
  · have e : lessB pls mns = false := by simp [lessB, pls, mns]
    rw [e]; clear e
    unfold vlV at hia hib ⊢
    go_enter Tryz.func67, Tryz.ntmps67
    go_wp2_with (first | (go_at_call 42; with_reducible refine (hia _).mono ?_; rintro e w2 ⟨rfl, hb2⟩; replace hB := hB.trans (hb2.mono hB.size); obtain ⟨a0, a1⟩ := (ha.grow hB).cells; obtain ⟨b0, b1⟩ := (hb.grow hB).cells) | (go_at_call 42; with_reducible refine (hib _).mono ?_; rintro e w2 ⟨rfl, hb2⟩; replace hB := hB.trans (hb2.mono hB.size); obtain ⟨a0, a1⟩ := (ha.grow hB).cells; obtain ⟨b0, b1⟩ := (hb.grow hB).cells))
    go_ret
    exact ⟨rfl, hO.trans (hB.mono hO.size)⟩
  · have e : lessB mns ⟨1, m⟩ = true := by simp [lessB, mns]
    rw [e]; clear e
    unfold vlV at hia hib ⊢
    go_enter Tryz.func67, Tryz.ntmps67
    go_wp2_with (first | (go_at_call 42; with_reducible refine (hia _).mono ?_; rintro e w2 ⟨rfl, hb2⟩; replace hB := hB.trans (hb2.mono hB.size); obtain ⟨a0, a1⟩ := (ha.grow hB).cells; obtain ⟨b0, b1⟩ := (hb.grow hB).cells) | (go_at_call 42; with_reducible refine (hib _).mono ?_; rintro e w2 ⟨rfl, hb2⟩; replace hB := hB.trans (hb2.mono hB.size); obtain ⟨a0, a1⟩ := (ha.grow hB).cells; obtain ⟨b0, b1⟩ := (hb.grow hB).cells))
    go_ret
    exact ⟨rfl, hO.trans (hB.mono hO.size)⟩
  · have e : lessB mns pls = true := by simp [lessB, pls, mns]
    rw [e]; clear e
    unfold vlV at hia hib ⊢
    go_enter Tryz.func67, Tryz.ntmps67
    go_wp2_with (first | (go_at_call 42; with_reducible refine (hia _).mono ?_; rintro e w2 ⟨rfl, hb2⟩; replace hB := hB.trans (hb2.mono hB.size); obtain ⟨a0, a1⟩ := (ha.grow hB).cells; obtain ⟨b0, b1⟩ := (hb.grow hB).cells) | (go_at_call 42; with_reducible refine (hib _).mono ?_; rintro e w2 ⟨rfl, hb2⟩; replace hB := hB.trans (hb2.mono hB.size); obtain ⟨a0, a1⟩ := (ha.grow hB).cells; obtain ⟨b0, b1⟩ := (hb.grow hB).cells))
    go_ret
    exact ⟨rfl, hO.trans (hB.mono hO.size)⟩
  · have e : lessB mns mns = false := by simp [lessB, mns]
    rw [e]; clear e
    unfold vlV at hia hib ⊢
    go_enter Tryz.func67, Tryz.ntmps67
    go_wp2_with (first | (go_at_call 42; with_reducible refine (hia _).mono ?_; rintro e w2 ⟨rfl, hb2⟩; replace hB := hB.trans (hb2.mono hB.size); obtain ⟨a0, a1⟩ := (ha.grow hB).cells; obtain ⟨b0, b1⟩ := (hb.grow hB).cells) | (go_at_call 42; with_reducible refine (hib _).mono ?_; rintro e w2 ⟨rfl, hb2⟩; replace hB := hB.trans (hb2.mono hB.size); obtain ⟨a0, a1⟩ := (ha.grow hB).cells; obtain ⟨b0, b1⟩ := (hb.grow hB).cells))
    go_ret
    exact ⟨rfl, hO.trans (hB.mono hO.size)⟩
end Go.Proofs.YtfbiaffdfolbgaaGreatDoor
