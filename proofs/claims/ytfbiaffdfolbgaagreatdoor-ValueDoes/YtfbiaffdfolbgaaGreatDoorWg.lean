/- The document's turned. -/
import Derived.Test.YtfbiaffdfolbgaaGreatDoorWf
namespace Go.Proofs.YtfbiaffdfolbgaaGreatDoor
set_option linter.unusedVariables false
open Go.RowKit
attribute [local go_sem ↓] Go.wp_at_zero Go.wp_at_succ
set_option maxRecDepth 100000 in
set_option maxHeartbeats 1000000 in
theorem rturned_any (v : Vl) (hv : IsV v) (w : World) : Calls Tryz.prog 66 #[vlV v] w fun e w' => e = .returned (vlV (neg v)) ∧ Below w.heap.size w w' := by
  obtain ⟨ha, hr⟩ := pW1 w v
  have hB : Below (W1 w v).heap.size (W1 w v) (W1 w v) := Below.refl _ _
  rcases hv.cases with ⟨n, rfl, h1, h2⟩ | rfl | rfl | rfl | rfl
  · have e : neg ⟨1, n⟩ = ⟨1, -n⟩ := by simp [neg]
    have hw : IntKind.i64.wrap (-n) = -n := by rw [IntKind.wrap_i64]; omega
    rw [e]; clear e
    unfold vlV
    go_enter Tryz.func66, Tryz.ntmps66
    go_wp2
    exact ret_cell Tryz.results66 rfl (vlNew1 w _ ⟨1, -n⟩) ⟨rfl, (bW0 w _).alloc (by simp) _⟩
  · unfold vlV
    go_enter Tryz.func66, Tryz.ntmps66
    go_wp2
    have e : (⟨nul.kind, wrap64 (-nul.n)⟩ : Vl) = neg nul := by decide +kernel
    exact ret_cell (v := ⟨nul.kind, wrap64 (-nul.n)⟩) Tryz.results66 rfl (vlNew1 w _ ⟨nul.kind, wrap64 (-nul.n)⟩) ⟨by rw [e]; rfl, (bW0 w _).alloc (by simp) _⟩
  · unfold vlV
    go_enter Tryz.func66, Tryz.ntmps66
    go_wp2
    have e : (⟨nan.kind, wrap64 (-nan.n)⟩ : Vl) = neg nan := by decide +kernel
    exact ret_cell (v := ⟨nan.kind, wrap64 (-nan.n)⟩) Tryz.results66 rfl (vlNew1 w _ ⟨nan.kind, wrap64 (-nan.n)⟩) ⟨by rw [e]; rfl, (bW0 w _).alloc (by simp) _⟩
  · unfold vlV
    go_enter Tryz.func66, Tryz.ntmps66
    go_wp2_with (first | (go_at_call 29; refine (rminus_b _).mono ?_; rintro e w2 ⟨rfl, hb2⟩; replace hB := hB.trans (hb2.mono hB.size); obtain ⟨a0, a1⟩ := (ha.grow hB).cells; obtain ⟨af0, af1⟩ := (ha.grow hB).frozen; obtain ⟨r0, r1⟩ := (hr.grow hB).cells; obtain ⟨rf0, rf1⟩ := (hr.grow hB).frozen; unfold vlV))
    exact end_set (v := mns) Tryz.results66 rfl (by omega) (bW1 w _) hB hr
  · unfold vlV
    go_enter Tryz.func66, Tryz.ntmps66
    go_wp2_with (first | (go_at_call 27; refine (rplus_b _).mono ?_; rintro e w2 ⟨rfl, hb2⟩; replace hB := hB.trans (hb2.mono hB.size); obtain ⟨a0, a1⟩ := (ha.grow hB).cells; obtain ⟨af0, af1⟩ := (ha.grow hB).frozen; obtain ⟨r0, r1⟩ := (hr.grow hB).cells; obtain ⟨rf0, rf1⟩ := (hr.grow hB).frozen; unfold vlV))
    exact end_set (v := pls) Tryz.results66 rfl (by omega) (bW1 w _) hB hr
end Go.Proofs.YtfbiaffdfolbgaaGreatDoor
