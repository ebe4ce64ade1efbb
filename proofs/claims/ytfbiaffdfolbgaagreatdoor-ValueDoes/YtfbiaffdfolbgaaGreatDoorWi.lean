/- The document's times, of what is not both numbers. -/
import Derived.Test.YtfbiaffdfolbgaaGreatDoorWh
namespace Go.Proofs.YtfbiaffdfolbgaaGreatDoor
set_option linter.unusedVariables false
open Go.RowKit
attribute [local go_sem ↓] Go.wp_at_zero Go.wp_at_succ
theorem sgn_in (v : Vl) : sgn v = 1 ∨ sgn v = -1 ∨ sgn v = 0 := by
  unfold sgn; split
  · exact .inl rfl
  · split
    · exact .inr (.inl rfl)
    · exact .inr (.inr rfl)
set_option maxRecDepth 100000 in
set_option maxHeartbeats 2000000 in
theorem rtimes_odd (a b : Vl) (hva : IsV a) (hvb : IsV b) (hk : ((a.kind == 1) && (b.kind == 1)) = false) (w : World) : Calls Tryz.prog 69 #[vlV a, vlV b] w fun e w' => e = .returned (vlV (mul a b)) ∧ Below w.heap.size w w' := by
  obtain ⟨ha, hb, hr⟩ := pW2 w a b
  have hB : Below (W2 w a b).heap.size (W2 w a b) (W2 w a b) := Below.refl _ _
  have hia := fun W => knum_any a W
  have hib := fun W => knum_any b W
  have e : mul a b = byd (sgn a * sgn b) := by
    rw [mul, if_neg]
    intro h
    simp [h.1, h.2] at hk
  rw [e]; clear e
  have hsa := fun W => rsign_any a W
  have hsb := fun W => rsign_any b W
  have hen := fun W => rbeyond_any (sgn a * sgn b) W
  have hwr : IntKind.i64.wrap (sgn a * sgn b) = sgn a * sgn b := by
    rcases sgn_in a with h | h | h <;> rcases sgn_in b with g | g | g <;> rw [h, g] <;> rfl
  generalize sgn a = SA at *
  generalize sgn b = SB at *
  obtain ⟨P, eP⟩ : ∃ x, Hid (x = SA * SB) := ⟨_, rfl⟩
  rw [← eP.out] at hen ⊢
  replace hwr : IntKind.i64.wrap (SA * SB) = P := hwr.trans eP.out.symm
  clear eP
  generalize byd P = R at *
  clear hva hvb
  unfold vlV at *
  cases h1 : (a.kind == 1) <;> cases h2 : (b.kind == 1)
  case true.true => rw [h1, h2] at hk; cases hk
  all_goals
    rw [h1] at hia
    rw [h2] at hib
    clear hk
    go_enter Tryz.func69, Tryz.ntmps69
    go_wp2
    replace hB := hB.drew
    obtain ⟨a0, a1⟩ := (ha.grow hB).cells
    obtain ⟨b0, b1⟩ := (hb.grow hB).cells
    obtain ⟨r0, r1⟩ := (hr.grow hB).cells
    obtain ⟨rf0, rf1⟩ := (hr.grow hB).frozen
    go_region_held3 (fun W => W.cell? ⟨w.heap.size, 0, none⟩ = some (.int .i64 a.kind) ∧ W.cell? ⟨w.heap.size, 1, none⟩ = some (.int .i64 a.n) ∧ W.cell? ⟨w.heap.size + 1, 0, none⟩ = some (.int .i64 b.kind) ∧ W.cell? ⟨w.heap.size + 1, 1, none⟩ = some (.int .i64 b.n)) (first | exact ⟨a0, a1, b0, b1⟩) (first | (go_at_call 65; with_reducible refine (hsa _).mono ?_; rintro e w2 ⟨rfl, hb2⟩; replace hB := hB.trans (hb2.mono hB.size); obtain ⟨a0, a1⟩ := (ha.grow hB).cells; obtain ⟨b0, b1⟩ := (hb.grow hB).cells; obtain ⟨r0, r1⟩ := (hr.grow hB).cells; obtain ⟨rf0, rf1⟩ := (hr.grow hB).frozen) | (go_at_call 65; with_reducible refine (hsb _).mono ?_; rintro e w2 ⟨rfl, hb2⟩; replace hB := hB.trans (hb2.mono hB.size); obtain ⟨a0, a1⟩ := (ha.grow hB).cells; obtain ⟨b0, b1⟩ := (hb.grow hB).cells; obtain ⟨r0, r1⟩ := (hr.grow hB).cells; obtain ⟨rf0, rf1⟩ := (hr.grow hB).frozen))
    all_goals
      go_wp2_with (first | (go_at_call 42; with_reducible refine (hia _).mono ?_; rintro e w2 ⟨rfl, hb2⟩; replace hB := hB.trans (hb2.mono hB.size); obtain ⟨a0, a1⟩ := (ha.grow hB).cells; obtain ⟨b0, b1⟩ := (hb.grow hB).cells; obtain ⟨r0, r1⟩ := (hr.grow hB).cells; obtain ⟨rf0, rf1⟩ := (hr.grow hB).frozen) | (go_at_call 42; with_reducible refine (hib _).mono ?_; rintro e w2 ⟨rfl, hb2⟩; replace hB := hB.trans (hb2.mono hB.size); obtain ⟨a0, a1⟩ := (ha.grow hB).cells; obtain ⟨b0, b1⟩ := (hb.grow hB).cells; obtain ⟨r0, r1⟩ := (hr.grow hB).cells; obtain ⟨rf0, rf1⟩ := (hr.grow hB).frozen) | (go_at_call 87; with_reducible refine (hen _).mono ?_; rintro e w2 ⟨rfl, hb2⟩; replace hB := hB.trans (hb2.mono hB.size); obtain ⟨a0, a1⟩ := (ha.grow hB).cells; obtain ⟨b0, b1⟩ := (hb.grow hB).cells; obtain ⟨r0, r1⟩ := (hr.grow hB).cells; obtain ⟨rf0, rf1⟩ := (hr.grow hB).frozen))
      exact end_set (v := R) Tryz.results69 rfl (by omega) (bW2 w _ _) hB hr
end Go.Proofs.YtfbiaffdfolbgaaGreatDoor
