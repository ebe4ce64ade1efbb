/- ValueOrder: the order of values that are neither null nor NaN goes on; <= is not >, >= is not <, != is not ==. Conditions: none beyond the row's. -/
import Derived.Test.YtfbiaffdfolbgaaGreatDoorVa4
import Derived.Test.YtfbiaffdfolbgaaGreatDoorTie
import Derived.Test.YtfbiaffdfolbgaaGreatDoorCards
import Derived.SevenTiedAt
import Derived.OpenShut
namespace Go.Proofs.YtfbiaffdfolbgaaGreatDoor.valueOrder
open Go.ChangeShapes Go.WideShapes Go.ChangeAt Go.RowKit Go.Maps Go.ChangeMaps Go.MapKept
set_option linter.unusedVariables false
attribute [local go_sem ↓] Go.wp_at_zero Go.wp_at_succ
theorem odd_ordy {v : Vl} (h : oddB v = false) : Ordy v := by
  simp [oddB] at h
  exact ⟨h.1, h.2⟩
set_option maxRecDepth 100000 in
set_option maxHeartbeats 8000000 in
theorem walk (a b c : Vl) (w : World) (hG : G w) : Calls Tryz.prog 7 #[vlV a, vlV b, vlV c] w fun e w' => e = .returned (.bool true) ∧ Below w.heap.size w w' := by
  have hlv : ∀ W, Below w.heap.size w W → Calls Tryz.prog 9 #[] W fun e w' => e = .returned (.bool true) ∧ Below W.heap.size W w' := fun W h => live_any W (hG.grow h)
  have ha : VlAt (((w.alloc (.cells #[.int .i64 a.kind, .int .i64 a.n] 25)).alloc (.cells #[.int .i64 b.kind, .int .i64 b.n] 25)).alloc (.cells #[.int .i64 c.kind, .int .i64 c.n] 25)) w.heap.size a := ((vlNew w a).alloc _).alloc _
  have hb : VlAt (((w.alloc (.cells #[.int .i64 a.kind, .int .i64 a.n] 25)).alloc (.cells #[.int .i64 b.kind, .int .i64 b.n] 25)).alloc (.cells #[.int .i64 c.kind, .int .i64 c.n] 25)) (w.heap.size + 1) b := (vlNew1 w _ b).alloc _
  have hc : VlAt (((w.alloc (.cells #[.int .i64 a.kind, .int .i64 a.n] 25)).alloc (.cells #[.int .i64 b.kind, .int .i64 b.n] 25)).alloc (.cells #[.int .i64 c.kind, .int .i64 c.n] 25)) (w.heap.size + 1 + 1) c := vlNew2 w _ _ c
  have hO : Below w.heap.size w (((w.alloc (.cells #[.int .i64 a.kind, .int .i64 a.n] 25)).alloc (.cells #[.int .i64 b.kind, .int .i64 b.n] 25)).alloc (.cells #[.int .i64 c.kind, .int .i64 c.n] 25)) := below3 w _ _ _
  have hB : Below (((w.alloc (.cells #[.int .i64 a.kind, .int .i64 a.n] 25)).alloc (.cells #[.int .i64 b.kind, .int .i64 b.n] 25)).alloc (.cells #[.int .i64 c.kind, .int .i64 c.n] 25)).heap.size (((w.alloc (.cells #[.int .i64 a.kind, .int .i64 a.n] 25)).alloc (.cells #[.int .i64 b.kind, .int .i64 b.n] 25)).alloc (.cells #[.int .i64 c.kind, .int .i64 c.n] 25)) (((w.alloc (.cells #[.int .i64 a.kind, .int .i64 a.n] 25)).alloc (.cells #[.int .i64 b.kind, .int .i64 b.n] 25)).alloc (.cells #[.int .i64 c.kind, .int .i64 c.n] 25)) := Below.refl _ _
  have hrc := rc3' a b c w
  have oa := fun W => odd_any a W
  have ob := fun W => odd_any b W
  have oc := fun W => odd_any c W
  clear hG
  unfold vlV
  rcases chk_in [a, b, c] with hz | hz
  · rw [hz] at hrc
    obtain ⟨hva, hvb, hvc⟩ := chk3 hz
    cases o1 : oddB a
    · cases o2 : oddB b
      · cases o3 : oddB c
        · rw [o1] at oa
          rw [o2] at ob
          rw [o3] at oc
          have ra := odd_ordy o1
          have rb := odd_ordy o2
          have rc := odd_ordy o3
          obtain ⟨GE, eGE⟩ : ∃ x, Hid (x = decide (place b ≤ place a)) := ⟨_, rfl⟩
          obtain ⟨LE, eLE⟩ : ∃ x, Hid (x = decide (place a ≤ place b)) := ⟨_, rfl⟩
          obtain ⟨NE, eNE⟩ : ∃ x, Hid (x = decide (place a ≠ place b)) := ⟨_, rfl⟩
          obtain ⟨BC, eBC⟩ : ∃ x, Hid (x = decide (place b < place c)) := ⟨_, rfl⟩
          obtain ⟨AC, eAC⟩ : ∃ x, Hid (x = decide (place a < place c)) := ⟨_, rfl⟩
          have lab : ∀ W, Calls Tryz.prog 35 #[.string ⟨#[60]⟩, .agg #[.int .i64 a.kind, .int .i64 a.n], .agg #[.int .i64 b.kind, .int .i64 b.n]] W fun e w' => e = .returned (.bool (!GE)) ∧ Below W.heap.size W w' := fun W => yes_any _ a b _ _ (do_lt hva hvb).1 (do_lt hva hvb).2 (nulls_isV (tru_isV _)) (by rw [ltV_place hva hvb ra rb, truB_tru]; rw [eGE.out, Bool.eq_iff_iff]; simp) W
          have lbc : ∀ W, Calls Tryz.prog 35 #[.string ⟨#[60]⟩, .agg #[.int .i64 b.kind, .int .i64 b.n], .agg #[.int .i64 c.kind, .int .i64 c.n]] W fun e w' => e = .returned (.bool BC) ∧ Below W.heap.size W w' := fun W => yes_any _ b c _ _ (do_lt hvb hvc).1 (do_lt hvb hvc).2 (nulls_isV (tru_isV _)) (by rw [ltV_place hvb hvc rb rc, truB_tru]; exact eBC.out.symm) W
          have lac : ∀ W, Calls Tryz.prog 35 #[.string ⟨#[60]⟩, .agg #[.int .i64 a.kind, .int .i64 a.n], .agg #[.int .i64 c.kind, .int .i64 c.n]] W fun e w' => e = .returned (.bool AC) ∧ Below W.heap.size W w' := fun W => yes_any _ a c _ _ (do_lt hva hvc).1 (do_lt hva hvc).2 (nulls_isV (tru_isV _)) (by rw [ltV_place hva hvc ra rc, truB_tru]; exact eAC.out.symm) W
          have yle : ∀ W, Calls Tryz.prog 35 #[.string ⟨#[60, 61]⟩, .agg #[.int .i64 a.kind, .int .i64 a.n], .agg #[.int .i64 b.kind, .int .i64 b.n]] W fun e w' => e = .returned (.bool LE) ∧ Below W.heap.size W w' := fun W => yes_any _ a b _ _ (do_le hva hvb).1 (do_le hva hvb).2 (nulls_isV (tru_isV _)) (by rw [leV_place hva hvb ra rb, truB_tru]; exact eLE.out.symm) W
          have ygt : ∀ W, Calls Tryz.prog 35 #[.string ⟨#[62]⟩, .agg #[.int .i64 a.kind, .int .i64 a.n], .agg #[.int .i64 b.kind, .int .i64 b.n]] W fun e w' => e = .returned (.bool (!LE)) ∧ Below W.heap.size W w' := fun W => yes_any _ a b _ _ (do_gt hva hvb).1 (do_gt hva hvb).2 (nulls_isV (tru_isV _)) (by rw [gtV_place hva hvb ra rb, truB_tru]; rw [eLE.out, Bool.eq_iff_iff]; simp) W
          have yge : ∀ W, Calls Tryz.prog 35 #[.string ⟨#[62, 61]⟩, .agg #[.int .i64 a.kind, .int .i64 a.n], .agg #[.int .i64 b.kind, .int .i64 b.n]] W fun e w' => e = .returned (.bool GE) ∧ Below W.heap.size W w' := fun W => yes_any _ a b _ _ (do_ge hva hvb).1 (do_ge hva hvb).2 (nulls_isV (tru_isV _)) (by rw [geV_place hva hvb ra rb, truB_tru]; exact eGE.out.symm) W
          have yne : ∀ W, Calls Tryz.prog 35 #[.string ⟨#[33, 61]⟩, .agg #[.int .i64 a.kind, .int .i64 a.n], .agg #[.int .i64 b.kind, .int .i64 b.n]] W fun e w' => e = .returned (.bool NE) ∧ Below W.heap.size W w' := fun W => yes_any _ a b _ _ (do_ne hva hvb).1 (do_ne hva hvb).2 (nulls_isV (tru_isV _)) (by rw [neV_place hva hvb ra rb, truB_tru]; exact eNE.out.symm) W
          have yeq : ∀ W, Calls Tryz.prog 35 #[.string ⟨#[61, 61]⟩, .agg #[.int .i64 a.kind, .int .i64 a.n], .agg #[.int .i64 b.kind, .int .i64 b.n]] W fun e w' => e = .returned (.bool (!NE)) ∧ Below W.heap.size W w' := fun W => yes_any _ a b _ _ (do_eq hva hvb).1 (do_eq hva hvb).2 (nulls_isV (tru_isV _)) (by rw [eqV_place hva hvb ra rb, truB_tru]; rw [eNE.out, Bool.eq_iff_iff]; simp) W
          have htr : Hid (GE = false → BC = true → AC = true) := by
            intro h1 h2
            rw [eGE.out] at h1
            rw [eBC.out] at h2
            rw [eAC.out]
            simp at *
            omega
          clear eGE eLE eNE eBC eAC ra rb rc hva hvb hvc o1 o2 o3 hz
          cases hge : GE
          · cases hbc : BC
            · subst hge hbc
              go_enter Tryz.func7, Tryz.ntmps7
              go_wp2_with (first | (go_at_call 17; refine (hrc).mono ?_; rintro e wz ⟨rfl, hbz⟩; replace hB := hB.trans (hbz.mono hB.size); obtain ⟨a0, a1⟩ := (ha.grow hB).cells; obtain ⟨b0, b1⟩ := (hb.grow hB).cells; obtain ⟨c0, c1⟩ := (hc.grow hB).cells) | (go_at_call 34; with_reducible refine (oa _).mono ?_; rintro e wz ⟨rfl, hbz⟩; replace hB := hB.trans (hbz.mono hB.size); obtain ⟨a0, a1⟩ := (ha.grow hB).cells; obtain ⟨b0, b1⟩ := (hb.grow hB).cells; obtain ⟨c0, c1⟩ := (hc.grow hB).cells) | (go_at_call 34; with_reducible refine (ob _).mono ?_; rintro e wz ⟨rfl, hbz⟩; replace hB := hB.trans (hbz.mono hB.size); obtain ⟨a0, a1⟩ := (ha.grow hB).cells; obtain ⟨b0, b1⟩ := (hb.grow hB).cells; obtain ⟨c0, c1⟩ := (hc.grow hB).cells) | (go_at_call 34; with_reducible refine (oc _).mono ?_; rintro e wz ⟨rfl, hbz⟩; replace hB := hB.trans (hbz.mono hB.size); obtain ⟨a0, a1⟩ := (ha.grow hB).cells; obtain ⟨b0, b1⟩ := (hb.grow hB).cells; obtain ⟨c0, c1⟩ := (hc.grow hB).cells) | (go_at_call 35; with_reducible refine (lab _).mono ?_; rintro e wz ⟨rfl, hbz⟩; replace hB := hB.trans (hbz.mono hB.size); obtain ⟨a0, a1⟩ := (ha.grow hB).cells; obtain ⟨b0, b1⟩ := (hb.grow hB).cells; obtain ⟨c0, c1⟩ := (hc.grow hB).cells) | (go_at_call 35; with_reducible refine (lbc _).mono ?_; rintro e wz ⟨rfl, hbz⟩; replace hB := hB.trans (hbz.mono hB.size); obtain ⟨a0, a1⟩ := (ha.grow hB).cells; obtain ⟨b0, b1⟩ := (hb.grow hB).cells; obtain ⟨c0, c1⟩ := (hc.grow hB).cells) | (go_at_call 35; with_reducible refine (lac _).mono ?_; rintro e wz ⟨rfl, hbz⟩; replace hB := hB.trans (hbz.mono hB.size); obtain ⟨a0, a1⟩ := (ha.grow hB).cells; obtain ⟨b0, b1⟩ := (hb.grow hB).cells; obtain ⟨c0, c1⟩ := (hc.grow hB).cells) | (go_at_call 35; with_reducible refine (yle _).mono ?_; rintro e wz ⟨rfl, hbz⟩; replace hB := hB.trans (hbz.mono hB.size); obtain ⟨a0, a1⟩ := (ha.grow hB).cells; obtain ⟨b0, b1⟩ := (hb.grow hB).cells; obtain ⟨c0, c1⟩ := (hc.grow hB).cells) | (go_at_call 35; with_reducible refine (ygt _).mono ?_; rintro e wz ⟨rfl, hbz⟩; replace hB := hB.trans (hbz.mono hB.size); obtain ⟨a0, a1⟩ := (ha.grow hB).cells; obtain ⟨b0, b1⟩ := (hb.grow hB).cells; obtain ⟨c0, c1⟩ := (hc.grow hB).cells) | (go_at_call 35; with_reducible refine (yge _).mono ?_; rintro e wz ⟨rfl, hbz⟩; replace hB := hB.trans (hbz.mono hB.size); obtain ⟨a0, a1⟩ := (ha.grow hB).cells; obtain ⟨b0, b1⟩ := (hb.grow hB).cells; obtain ⟨c0, c1⟩ := (hc.grow hB).cells) | (go_at_call 35; with_reducible refine (yne _).mono ?_; rintro e wz ⟨rfl, hbz⟩; replace hB := hB.trans (hbz.mono hB.size); obtain ⟨a0, a1⟩ := (ha.grow hB).cells; obtain ⟨b0, b1⟩ := (hb.grow hB).cells; obtain ⟨c0, c1⟩ := (hc.grow hB).cells) | (go_at_call 35; with_reducible refine (yeq _).mono ?_; rintro e wz ⟨rfl, hbz⟩; replace hB := hB.trans (hbz.mono hB.size); obtain ⟨a0, a1⟩ := (ha.grow hB).cells; obtain ⟨b0, b1⟩ := (hb.grow hB).cells; obtain ⟨c0, c1⟩ := (hc.grow hB).cells))
              replace hB := hB.drew
              obtain ⟨a0, a1⟩ := (ha.grow hB).cells
              obtain ⟨b0, b1⟩ := (hb.grow hB).cells
              obtain ⟨c0, c1⟩ := (hc.grow hB).cells
              go_region_held3 (fun W => W.cell? ⟨w.heap.size, 0, none⟩ = some (.int .i64 a.kind) ∧ W.cell? ⟨w.heap.size, 1, none⟩ = some (.int .i64 a.n) ∧ W.cell? ⟨w.heap.size + 1, 0, none⟩ = some (.int .i64 b.kind) ∧ W.cell? ⟨w.heap.size + 1, 1, none⟩ = some (.int .i64 b.n)) (first | exact ⟨a0, a1, b0, b1⟩) (first | (go_at_call 35; with_reducible refine (lab _).mono ?_; rintro e wz ⟨rfl, hbz⟩; replace hB := hB.trans (hbz.mono hB.size); obtain ⟨a0, a1⟩ := (ha.grow hB).cells; obtain ⟨b0, b1⟩ := (hb.grow hB).cells; obtain ⟨c0, c1⟩ := (hc.grow hB).cells) | (go_at_call 35; with_reducible refine (lbc _).mono ?_; rintro e wz ⟨rfl, hbz⟩; replace hB := hB.trans (hbz.mono hB.size); obtain ⟨a0, a1⟩ := (ha.grow hB).cells; obtain ⟨b0, b1⟩ := (hb.grow hB).cells; obtain ⟨c0, c1⟩ := (hc.grow hB).cells) | (go_at_call 35; with_reducible refine (lac _).mono ?_; rintro e wz ⟨rfl, hbz⟩; replace hB := hB.trans (hbz.mono hB.size); obtain ⟨a0, a1⟩ := (ha.grow hB).cells; obtain ⟨b0, b1⟩ := (hb.grow hB).cells; obtain ⟨c0, c1⟩ := (hc.grow hB).cells) | (go_at_call 35; with_reducible refine (yle _).mono ?_; rintro e wz ⟨rfl, hbz⟩; replace hB := hB.trans (hbz.mono hB.size); obtain ⟨a0, a1⟩ := (ha.grow hB).cells; obtain ⟨b0, b1⟩ := (hb.grow hB).cells; obtain ⟨c0, c1⟩ := (hc.grow hB).cells) | (go_at_call 35; with_reducible refine (ygt _).mono ?_; rintro e wz ⟨rfl, hbz⟩; replace hB := hB.trans (hbz.mono hB.size); obtain ⟨a0, a1⟩ := (ha.grow hB).cells; obtain ⟨b0, b1⟩ := (hb.grow hB).cells; obtain ⟨c0, c1⟩ := (hc.grow hB).cells) | (go_at_call 35; with_reducible refine (yge _).mono ?_; rintro e wz ⟨rfl, hbz⟩; replace hB := hB.trans (hbz.mono hB.size); obtain ⟨a0, a1⟩ := (ha.grow hB).cells; obtain ⟨b0, b1⟩ := (hb.grow hB).cells; obtain ⟨c0, c1⟩ := (hc.grow hB).cells) | (go_at_call 35; with_reducible refine (yne _).mono ?_; rintro e wz ⟨rfl, hbz⟩; replace hB := hB.trans (hbz.mono hB.size); obtain ⟨a0, a1⟩ := (ha.grow hB).cells; obtain ⟨b0, b1⟩ := (hb.grow hB).cells; obtain ⟨c0, c1⟩ := (hc.grow hB).cells) | (go_at_call 35; with_reducible refine (yeq _).mono ?_; rintro e wz ⟨rfl, hbz⟩; replace hB := hB.trans (hbz.mono hB.size); obtain ⟨a0, a1⟩ := (ha.grow hB).cells; obtain ⟨b0, b1⟩ := (hb.grow hB).cells; obtain ⟨c0, c1⟩ := (hc.grow hB).cells) | (go_at_call 9; with_reducible refine (hlv _ (hO.trans (hB.mono hO.size))).mono ?_; rintro e wz ⟨rfl, hbz⟩; replace hB := hB.trans (hbz.mono hB.size); obtain ⟨a0, a1⟩ := (ha.grow hB).cells; obtain ⟨b0, b1⟩ := (hb.grow hB).cells; obtain ⟨c0, c1⟩ := (hc.grow hB).cells))
              all_goals
                go_wp2
                go_ret
                exact ⟨rfl, hO.trans (hB.mono hO.size)⟩
            · obtain rfl : AC = true := htr.out hge hbc
              subst hge hbc
              go_enter Tryz.func7, Tryz.ntmps7
              go_wp2_with (first | (go_at_call 17; refine (hrc).mono ?_; rintro e wz ⟨rfl, hbz⟩; replace hB := hB.trans (hbz.mono hB.size); obtain ⟨a0, a1⟩ := (ha.grow hB).cells; obtain ⟨b0, b1⟩ := (hb.grow hB).cells; obtain ⟨c0, c1⟩ := (hc.grow hB).cells) | (go_at_call 34; with_reducible refine (oa _).mono ?_; rintro e wz ⟨rfl, hbz⟩; replace hB := hB.trans (hbz.mono hB.size); obtain ⟨a0, a1⟩ := (ha.grow hB).cells; obtain ⟨b0, b1⟩ := (hb.grow hB).cells; obtain ⟨c0, c1⟩ := (hc.grow hB).cells) | (go_at_call 34; with_reducible refine (ob _).mono ?_; rintro e wz ⟨rfl, hbz⟩; replace hB := hB.trans (hbz.mono hB.size); obtain ⟨a0, a1⟩ := (ha.grow hB).cells; obtain ⟨b0, b1⟩ := (hb.grow hB).cells; obtain ⟨c0, c1⟩ := (hc.grow hB).cells) | (go_at_call 34; with_reducible refine (oc _).mono ?_; rintro e wz ⟨rfl, hbz⟩; replace hB := hB.trans (hbz.mono hB.size); obtain ⟨a0, a1⟩ := (ha.grow hB).cells; obtain ⟨b0, b1⟩ := (hb.grow hB).cells; obtain ⟨c0, c1⟩ := (hc.grow hB).cells) | (go_at_call 35; with_reducible refine (lab _).mono ?_; rintro e wz ⟨rfl, hbz⟩; replace hB := hB.trans (hbz.mono hB.size); obtain ⟨a0, a1⟩ := (ha.grow hB).cells; obtain ⟨b0, b1⟩ := (hb.grow hB).cells; obtain ⟨c0, c1⟩ := (hc.grow hB).cells) | (go_at_call 35; with_reducible refine (lbc _).mono ?_; rintro e wz ⟨rfl, hbz⟩; replace hB := hB.trans (hbz.mono hB.size); obtain ⟨a0, a1⟩ := (ha.grow hB).cells; obtain ⟨b0, b1⟩ := (hb.grow hB).cells; obtain ⟨c0, c1⟩ := (hc.grow hB).cells) | (go_at_call 35; with_reducible refine (lac _).mono ?_; rintro e wz ⟨rfl, hbz⟩; replace hB := hB.trans (hbz.mono hB.size); obtain ⟨a0, a1⟩ := (ha.grow hB).cells; obtain ⟨b0, b1⟩ := (hb.grow hB).cells; obtain ⟨c0, c1⟩ := (hc.grow hB).cells) | (go_at_call 35; with_reducible refine (yle _).mono ?_; rintro e wz ⟨rfl, hbz⟩; replace hB := hB.trans (hbz.mono hB.size); obtain ⟨a0, a1⟩ := (ha.grow hB).cells; obtain ⟨b0, b1⟩ := (hb.grow hB).cells; obtain ⟨c0, c1⟩ := (hc.grow hB).cells) | (go_at_call 35; with_reducible refine (ygt _).mono ?_; rintro e wz ⟨rfl, hbz⟩; replace hB := hB.trans (hbz.mono hB.size); obtain ⟨a0, a1⟩ := (ha.grow hB).cells; obtain ⟨b0, b1⟩ := (hb.grow hB).cells; obtain ⟨c0, c1⟩ := (hc.grow hB).cells) | (go_at_call 35; with_reducible refine (yge _).mono ?_; rintro e wz ⟨rfl, hbz⟩; replace hB := hB.trans (hbz.mono hB.size); obtain ⟨a0, a1⟩ := (ha.grow hB).cells; obtain ⟨b0, b1⟩ := (hb.grow hB).cells; obtain ⟨c0, c1⟩ := (hc.grow hB).cells) | (go_at_call 35; with_reducible refine (yne _).mono ?_; rintro e wz ⟨rfl, hbz⟩; replace hB := hB.trans (hbz.mono hB.size); obtain ⟨a0, a1⟩ := (ha.grow hB).cells; obtain ⟨b0, b1⟩ := (hb.grow hB).cells; obtain ⟨c0, c1⟩ := (hc.grow hB).cells) | (go_at_call 35; with_reducible refine (yeq _).mono ?_; rintro e wz ⟨rfl, hbz⟩; replace hB := hB.trans (hbz.mono hB.size); obtain ⟨a0, a1⟩ := (ha.grow hB).cells; obtain ⟨b0, b1⟩ := (hb.grow hB).cells; obtain ⟨c0, c1⟩ := (hc.grow hB).cells))
              replace hB := hB.drew
              obtain ⟨a0, a1⟩ := (ha.grow hB).cells
              obtain ⟨b0, b1⟩ := (hb.grow hB).cells
              obtain ⟨c0, c1⟩ := (hc.grow hB).cells
              go_region_held3 (fun W => W.cell? ⟨w.heap.size, 0, none⟩ = some (.int .i64 a.kind) ∧ W.cell? ⟨w.heap.size, 1, none⟩ = some (.int .i64 a.n) ∧ W.cell? ⟨w.heap.size + 1, 0, none⟩ = some (.int .i64 b.kind) ∧ W.cell? ⟨w.heap.size + 1, 1, none⟩ = some (.int .i64 b.n)) (first | exact ⟨a0, a1, b0, b1⟩) (first | (go_at_call 35; with_reducible refine (lab _).mono ?_; rintro e wz ⟨rfl, hbz⟩; replace hB := hB.trans (hbz.mono hB.size); obtain ⟨a0, a1⟩ := (ha.grow hB).cells; obtain ⟨b0, b1⟩ := (hb.grow hB).cells; obtain ⟨c0, c1⟩ := (hc.grow hB).cells) | (go_at_call 35; with_reducible refine (lbc _).mono ?_; rintro e wz ⟨rfl, hbz⟩; replace hB := hB.trans (hbz.mono hB.size); obtain ⟨a0, a1⟩ := (ha.grow hB).cells; obtain ⟨b0, b1⟩ := (hb.grow hB).cells; obtain ⟨c0, c1⟩ := (hc.grow hB).cells) | (go_at_call 35; with_reducible refine (lac _).mono ?_; rintro e wz ⟨rfl, hbz⟩; replace hB := hB.trans (hbz.mono hB.size); obtain ⟨a0, a1⟩ := (ha.grow hB).cells; obtain ⟨b0, b1⟩ := (hb.grow hB).cells; obtain ⟨c0, c1⟩ := (hc.grow hB).cells) | (go_at_call 35; with_reducible refine (yle _).mono ?_; rintro e wz ⟨rfl, hbz⟩; replace hB := hB.trans (hbz.mono hB.size); obtain ⟨a0, a1⟩ := (ha.grow hB).cells; obtain ⟨b0, b1⟩ := (hb.grow hB).cells; obtain ⟨c0, c1⟩ := (hc.grow hB).cells) | (go_at_call 35; with_reducible refine (ygt _).mono ?_; rintro e wz ⟨rfl, hbz⟩; replace hB := hB.trans (hbz.mono hB.size); obtain ⟨a0, a1⟩ := (ha.grow hB).cells; obtain ⟨b0, b1⟩ := (hb.grow hB).cells; obtain ⟨c0, c1⟩ := (hc.grow hB).cells) | (go_at_call 35; with_reducible refine (yge _).mono ?_; rintro e wz ⟨rfl, hbz⟩; replace hB := hB.trans (hbz.mono hB.size); obtain ⟨a0, a1⟩ := (ha.grow hB).cells; obtain ⟨b0, b1⟩ := (hb.grow hB).cells; obtain ⟨c0, c1⟩ := (hc.grow hB).cells) | (go_at_call 35; with_reducible refine (yne _).mono ?_; rintro e wz ⟨rfl, hbz⟩; replace hB := hB.trans (hbz.mono hB.size); obtain ⟨a0, a1⟩ := (ha.grow hB).cells; obtain ⟨b0, b1⟩ := (hb.grow hB).cells; obtain ⟨c0, c1⟩ := (hc.grow hB).cells) | (go_at_call 35; with_reducible refine (yeq _).mono ?_; rintro e wz ⟨rfl, hbz⟩; replace hB := hB.trans (hbz.mono hB.size); obtain ⟨a0, a1⟩ := (ha.grow hB).cells; obtain ⟨b0, b1⟩ := (hb.grow hB).cells; obtain ⟨c0, c1⟩ := (hc.grow hB).cells) | (go_at_call 9; with_reducible refine (hlv _ (hO.trans (hB.mono hO.size))).mono ?_; rintro e wz ⟨rfl, hbz⟩; replace hB := hB.trans (hbz.mono hB.size); obtain ⟨a0, a1⟩ := (ha.grow hB).cells; obtain ⟨b0, b1⟩ := (hb.grow hB).cells; obtain ⟨c0, c1⟩ := (hc.grow hB).cells))
              all_goals
                go_wp2
                go_ret
                exact ⟨rfl, hO.trans (hB.mono hO.size)⟩
          · subst hge
            go_enter Tryz.func7, Tryz.ntmps7
            go_wp2_with (first | (go_at_call 17; refine (hrc).mono ?_; rintro e wz ⟨rfl, hbz⟩; replace hB := hB.trans (hbz.mono hB.size); obtain ⟨a0, a1⟩ := (ha.grow hB).cells; obtain ⟨b0, b1⟩ := (hb.grow hB).cells; obtain ⟨c0, c1⟩ := (hc.grow hB).cells) | (go_at_call 34; with_reducible refine (oa _).mono ?_; rintro e wz ⟨rfl, hbz⟩; replace hB := hB.trans (hbz.mono hB.size); obtain ⟨a0, a1⟩ := (ha.grow hB).cells; obtain ⟨b0, b1⟩ := (hb.grow hB).cells; obtain ⟨c0, c1⟩ := (hc.grow hB).cells) | (go_at_call 34; with_reducible refine (ob _).mono ?_; rintro e wz ⟨rfl, hbz⟩; replace hB := hB.trans (hbz.mono hB.size); obtain ⟨a0, a1⟩ := (ha.grow hB).cells; obtain ⟨b0, b1⟩ := (hb.grow hB).cells; obtain ⟨c0, c1⟩ := (hc.grow hB).cells) | (go_at_call 34; with_reducible refine (oc _).mono ?_; rintro e wz ⟨rfl, hbz⟩; replace hB := hB.trans (hbz.mono hB.size); obtain ⟨a0, a1⟩ := (ha.grow hB).cells; obtain ⟨b0, b1⟩ := (hb.grow hB).cells; obtain ⟨c0, c1⟩ := (hc.grow hB).cells) | (go_at_call 35; with_reducible refine (lab _).mono ?_; rintro e wz ⟨rfl, hbz⟩; replace hB := hB.trans (hbz.mono hB.size); obtain ⟨a0, a1⟩ := (ha.grow hB).cells; obtain ⟨b0, b1⟩ := (hb.grow hB).cells; obtain ⟨c0, c1⟩ := (hc.grow hB).cells) | (go_at_call 35; with_reducible refine (lbc _).mono ?_; rintro e wz ⟨rfl, hbz⟩; replace hB := hB.trans (hbz.mono hB.size); obtain ⟨a0, a1⟩ := (ha.grow hB).cells; obtain ⟨b0, b1⟩ := (hb.grow hB).cells; obtain ⟨c0, c1⟩ := (hc.grow hB).cells) | (go_at_call 35; with_reducible refine (lac _).mono ?_; rintro e wz ⟨rfl, hbz⟩; replace hB := hB.trans (hbz.mono hB.size); obtain ⟨a0, a1⟩ := (ha.grow hB).cells; obtain ⟨b0, b1⟩ := (hb.grow hB).cells; obtain ⟨c0, c1⟩ := (hc.grow hB).cells) | (go_at_call 35; with_reducible refine (yle _).mono ?_; rintro e wz ⟨rfl, hbz⟩; replace hB := hB.trans (hbz.mono hB.size); obtain ⟨a0, a1⟩ := (ha.grow hB).cells; obtain ⟨b0, b1⟩ := (hb.grow hB).cells; obtain ⟨c0, c1⟩ := (hc.grow hB).cells) | (go_at_call 35; with_reducible refine (ygt _).mono ?_; rintro e wz ⟨rfl, hbz⟩; replace hB := hB.trans (hbz.mono hB.size); obtain ⟨a0, a1⟩ := (ha.grow hB).cells; obtain ⟨b0, b1⟩ := (hb.grow hB).cells; obtain ⟨c0, c1⟩ := (hc.grow hB).cells) | (go_at_call 35; with_reducible refine (yge _).mono ?_; rintro e wz ⟨rfl, hbz⟩; replace hB := hB.trans (hbz.mono hB.size); obtain ⟨a0, a1⟩ := (ha.grow hB).cells; obtain ⟨b0, b1⟩ := (hb.grow hB).cells; obtain ⟨c0, c1⟩ := (hc.grow hB).cells) | (go_at_call 35; with_reducible refine (yne _).mono ?_; rintro e wz ⟨rfl, hbz⟩; replace hB := hB.trans (hbz.mono hB.size); obtain ⟨a0, a1⟩ := (ha.grow hB).cells; obtain ⟨b0, b1⟩ := (hb.grow hB).cells; obtain ⟨c0, c1⟩ := (hc.grow hB).cells) | (go_at_call 35; with_reducible refine (yeq _).mono ?_; rintro e wz ⟨rfl, hbz⟩; replace hB := hB.trans (hbz.mono hB.size); obtain ⟨a0, a1⟩ := (ha.grow hB).cells; obtain ⟨b0, b1⟩ := (hb.grow hB).cells; obtain ⟨c0, c1⟩ := (hc.grow hB).cells))
            replace hB := hB.drew
            obtain ⟨a0, a1⟩ := (ha.grow hB).cells
            obtain ⟨b0, b1⟩ := (hb.grow hB).cells
            obtain ⟨c0, c1⟩ := (hc.grow hB).cells
            go_region_held3 (fun W => W.cell? ⟨w.heap.size, 0, none⟩ = some (.int .i64 a.kind) ∧ W.cell? ⟨w.heap.size, 1, none⟩ = some (.int .i64 a.n) ∧ W.cell? ⟨w.heap.size + 1, 0, none⟩ = some (.int .i64 b.kind) ∧ W.cell? ⟨w.heap.size + 1, 1, none⟩ = some (.int .i64 b.n)) (first | exact ⟨a0, a1, b0, b1⟩) (first | (go_at_call 35; with_reducible refine (lab _).mono ?_; rintro e wz ⟨rfl, hbz⟩; replace hB := hB.trans (hbz.mono hB.size); obtain ⟨a0, a1⟩ := (ha.grow hB).cells; obtain ⟨b0, b1⟩ := (hb.grow hB).cells; obtain ⟨c0, c1⟩ := (hc.grow hB).cells) | (go_at_call 35; with_reducible refine (lbc _).mono ?_; rintro e wz ⟨rfl, hbz⟩; replace hB := hB.trans (hbz.mono hB.size); obtain ⟨a0, a1⟩ := (ha.grow hB).cells; obtain ⟨b0, b1⟩ := (hb.grow hB).cells; obtain ⟨c0, c1⟩ := (hc.grow hB).cells) | (go_at_call 35; with_reducible refine (lac _).mono ?_; rintro e wz ⟨rfl, hbz⟩; replace hB := hB.trans (hbz.mono hB.size); obtain ⟨a0, a1⟩ := (ha.grow hB).cells; obtain ⟨b0, b1⟩ := (hb.grow hB).cells; obtain ⟨c0, c1⟩ := (hc.grow hB).cells) | (go_at_call 35; with_reducible refine (yle _).mono ?_; rintro e wz ⟨rfl, hbz⟩; replace hB := hB.trans (hbz.mono hB.size); obtain ⟨a0, a1⟩ := (ha.grow hB).cells; obtain ⟨b0, b1⟩ := (hb.grow hB).cells; obtain ⟨c0, c1⟩ := (hc.grow hB).cells) | (go_at_call 35; with_reducible refine (ygt _).mono ?_; rintro e wz ⟨rfl, hbz⟩; replace hB := hB.trans (hbz.mono hB.size); obtain ⟨a0, a1⟩ := (ha.grow hB).cells; obtain ⟨b0, b1⟩ := (hb.grow hB).cells; obtain ⟨c0, c1⟩ := (hc.grow hB).cells) | (go_at_call 35; with_reducible refine (yge _).mono ?_; rintro e wz ⟨rfl, hbz⟩; replace hB := hB.trans (hbz.mono hB.size); obtain ⟨a0, a1⟩ := (ha.grow hB).cells; obtain ⟨b0, b1⟩ := (hb.grow hB).cells; obtain ⟨c0, c1⟩ := (hc.grow hB).cells) | (go_at_call 35; with_reducible refine (yne _).mono ?_; rintro e wz ⟨rfl, hbz⟩; replace hB := hB.trans (hbz.mono hB.size); obtain ⟨a0, a1⟩ := (ha.grow hB).cells; obtain ⟨b0, b1⟩ := (hb.grow hB).cells; obtain ⟨c0, c1⟩ := (hc.grow hB).cells) | (go_at_call 35; with_reducible refine (yeq _).mono ?_; rintro e wz ⟨rfl, hbz⟩; replace hB := hB.trans (hbz.mono hB.size); obtain ⟨a0, a1⟩ := (ha.grow hB).cells; obtain ⟨b0, b1⟩ := (hb.grow hB).cells; obtain ⟨c0, c1⟩ := (hc.grow hB).cells) | (go_at_call 9; with_reducible refine (hlv _ (hO.trans (hB.mono hO.size))).mono ?_; rintro e wz ⟨rfl, hbz⟩; replace hB := hB.trans (hbz.mono hB.size); obtain ⟨a0, a1⟩ := (ha.grow hB).cells; obtain ⟨b0, b1⟩ := (hb.grow hB).cells; obtain ⟨c0, c1⟩ := (hc.grow hB).cells))
            all_goals
              go_wp2
              go_ret
              exact ⟨rfl, hO.trans (hB.mono hO.size)⟩
        · rw [o1] at oa
          rw [o2] at ob
          rw [o3] at oc
          clear o1 o2 o3 hva hvb hvc hz
          go_enter Tryz.func7, Tryz.ntmps7
          go_wp2_with (first | (go_at_call 17; refine (hrc).mono ?_; rintro e wz ⟨rfl, hbz⟩; replace hB := hB.trans (hbz.mono hB.size); obtain ⟨a0, a1⟩ := (ha.grow hB).cells; obtain ⟨b0, b1⟩ := (hb.grow hB).cells; obtain ⟨c0, c1⟩ := (hc.grow hB).cells) | (go_at_call 34; with_reducible refine (oa _).mono ?_; rintro e wz ⟨rfl, hbz⟩; replace hB := hB.trans (hbz.mono hB.size); obtain ⟨a0, a1⟩ := (ha.grow hB).cells; obtain ⟨b0, b1⟩ := (hb.grow hB).cells; obtain ⟨c0, c1⟩ := (hc.grow hB).cells) | (go_at_call 34; with_reducible refine (ob _).mono ?_; rintro e wz ⟨rfl, hbz⟩; replace hB := hB.trans (hbz.mono hB.size); obtain ⟨a0, a1⟩ := (ha.grow hB).cells; obtain ⟨b0, b1⟩ := (hb.grow hB).cells; obtain ⟨c0, c1⟩ := (hc.grow hB).cells) | (go_at_call 34; with_reducible refine (oc _).mono ?_; rintro e wz ⟨rfl, hbz⟩; replace hB := hB.trans (hbz.mono hB.size); obtain ⟨a0, a1⟩ := (ha.grow hB).cells; obtain ⟨b0, b1⟩ := (hb.grow hB).cells; obtain ⟨c0, c1⟩ := (hc.grow hB).cells) | (go_at_call 9; with_reducible refine (hlv _ (hO.trans (hB.mono hO.size))).mono ?_; rintro e wz ⟨rfl, hbz⟩; replace hB := hB.trans (hbz.mono hB.size); obtain ⟨a0, a1⟩ := (ha.grow hB).cells; obtain ⟨b0, b1⟩ := (hb.grow hB).cells; obtain ⟨c0, c1⟩ := (hc.grow hB).cells))
          go_ret
          exact ⟨rfl, hO.trans (hB.mono hO.size)⟩
      · rw [o1] at oa
        rw [o2] at ob
        clear o1 o2 hva hvb hvc hz oc
        go_enter Tryz.func7, Tryz.ntmps7
        go_wp2_with (first | (go_at_call 17; refine (hrc).mono ?_; rintro e wz ⟨rfl, hbz⟩; replace hB := hB.trans (hbz.mono hB.size); obtain ⟨a0, a1⟩ := (ha.grow hB).cells; obtain ⟨b0, b1⟩ := (hb.grow hB).cells; obtain ⟨c0, c1⟩ := (hc.grow hB).cells) | (go_at_call 34; with_reducible refine (oa _).mono ?_; rintro e wz ⟨rfl, hbz⟩; replace hB := hB.trans (hbz.mono hB.size); obtain ⟨a0, a1⟩ := (ha.grow hB).cells; obtain ⟨b0, b1⟩ := (hb.grow hB).cells; obtain ⟨c0, c1⟩ := (hc.grow hB).cells) | (go_at_call 34; with_reducible refine (ob _).mono ?_; rintro e wz ⟨rfl, hbz⟩; replace hB := hB.trans (hbz.mono hB.size); obtain ⟨a0, a1⟩ := (ha.grow hB).cells; obtain ⟨b0, b1⟩ := (hb.grow hB).cells; obtain ⟨c0, c1⟩ := (hc.grow hB).cells) | (go_at_call 9; with_reducible refine (hlv _ (hO.trans (hB.mono hO.size))).mono ?_; rintro e wz ⟨rfl, hbz⟩; replace hB := hB.trans (hbz.mono hB.size); obtain ⟨a0, a1⟩ := (ha.grow hB).cells; obtain ⟨b0, b1⟩ := (hb.grow hB).cells; obtain ⟨c0, c1⟩ := (hc.grow hB).cells))
        go_ret
        exact ⟨rfl, hO.trans (hB.mono hO.size)⟩
    · rw [o1] at oa
      clear o1 hva hvb hvc hz ob oc
      go_enter Tryz.func7, Tryz.ntmps7
      go_wp2_with (first | (go_at_call 17; refine (hrc).mono ?_; rintro e wz ⟨rfl, hbz⟩; replace hB := hB.trans (hbz.mono hB.size); obtain ⟨a0, a1⟩ := (ha.grow hB).cells; obtain ⟨b0, b1⟩ := (hb.grow hB).cells; obtain ⟨c0, c1⟩ := (hc.grow hB).cells) | (go_at_call 34; with_reducible refine (oa _).mono ?_; rintro e wz ⟨rfl, hbz⟩; replace hB := hB.trans (hbz.mono hB.size); obtain ⟨a0, a1⟩ := (ha.grow hB).cells; obtain ⟨b0, b1⟩ := (hb.grow hB).cells; obtain ⟨c0, c1⟩ := (hc.grow hB).cells) | (go_at_call 9; with_reducible refine (hlv _ (hO.trans (hB.mono hO.size))).mono ?_; rintro e wz ⟨rfl, hbz⟩; replace hB := hB.trans (hbz.mono hB.size); obtain ⟨a0, a1⟩ := (ha.grow hB).cells; obtain ⟨b0, b1⟩ := (hb.grow hB).cells; obtain ⟨c0, c1⟩ := (hc.grow hB).cells))
      go_ret
      exact ⟨rfl, hO.trans (hB.mono hO.size)⟩
  · rw [hz] at hrc
    clear oa ob oc
    go_enter Tryz.func7, Tryz.ntmps7
    go_wp2_with (first | (go_at_call 17; refine (hrc).mono ?_; rintro e wz ⟨rfl, hbz⟩; replace hB := hB.trans (hbz.mono hB.size); obtain ⟨a0, a1⟩ := (ha.grow hB).cells; obtain ⟨b0, b1⟩ := (hb.grow hB).cells; obtain ⟨c0, c1⟩ := (hc.grow hB).cells) | (go_at_call 9; with_reducible refine (hlv _ (hO.trans (hB.mono hO.size))).mono ?_; rintro e wz ⟨rfl, hbz⟩; replace hB := hB.trans (hbz.mono hB.size); obtain ⟨a0, a1⟩ := (ha.grow hB).cells; obtain ⟨b0, b1⟩ := (hb.grow hB).cells; obtain ⟨c0, c1⟩ := (hc.grow hB).cells))
    go_ret
    exact ⟨rfl, hO.trans (hB.mono hO.size)⟩
/-! ### THE ROW's STEP -/
set_option maxRecDepth 100000 in
theorem lifted (os : Os) (started : os.Started) (H : Type) (enc : TypeId × Value → H) :
    ReturnsInHanded {} Tryz.checked os 7 .any (fun w args => (Rows.valueOrderSpec.pre enc Tryz.prog Tryz.f7 [] false w args ∧ laidMetH Tryz.prog laidV w) ∧ sizedMet enc Tryz.prog Tryz.f7 (OpenSpec.ofChange Rows.valueOrderSpec) false w args)
      (Rows.valueOrderSpec.post enc Tryz.prog Tryz.f7 false true false false) := by
  refine wrap (C := Tryz.checked) (X := fun w _ => laidMetH Tryz.prog laidV w) (fun _ _ _ hh h => h.of_heap hh) own started (by kernel_rfl) Tryz.func7
    (ChangeSpec.witness_shaped (enc := enc) (C := Tryz.checked) (os := os) (X := fun w _ => laidMetH Tryz.prog laidV w) false (World.laidAll Tryz.prog os laidV) #[.agg #[.int .i64 0, .int .i64 0], .agg #[.int .i64 0, .int .i64 0], .agg #[.int .i64 0, .int .i64 0]] 8 (World.laidAll_os _ _ _)
      (World.shaped_of_ZipB (by kernel_rfl) (by kernel_rfl)) (by kernel_rfl) (by kernel_rfl) (by kernel_rfl) (laidV_ok os _)) ?_
  intro W base args ds gs before hval0 hW _ hsz0 hL hsh
  have hG := G_of hL hsh
  have hval : ∀ (j : Nat) t v, Tryz.f7.params[j]? = some t → args[j]? = some v → Value.okWide Tryz.prog W .any base t v := hval0
  have hW' := hW
  obtain ⟨p, q, hA0, hV, rfl, _, _⟩ := hW
  have hA : DataW.TrodAll enc Tryz.prog W 0 (fun _ => true) true Tryz.f7.params.toList args.toList ds p := hA0
  rw [Tryz.params7] at hA hval
  obtain ⟨v0, vs0, d0, ds0, p0, q0, hargs, rfl, rfl, h0, r0⟩ := trodAll_cons hA
  obtain ⟨v1, vs1, d1, ds1, p1, q1, rfl, rfl, rfl, h1, r1⟩ := trodAll_cons r0
  obtain ⟨v2, vs2, d2, ds2, p2, q2, rfl, rfl, rfl, h2, r2⟩ := trodAll_cons r1
  obtain ⟨rfl, rfl, rfl⟩ := trodAll_nil r2
  obtain rfl : args = #[v0, v1, v2] := by cases args; simp_all
  obtain ⟨rfl, rfl⟩ := trodVars_none hV
  have k0 := h0
  have lt0 : ∀ x ∈ p0, x.block < W.heap.size := by obtain ⟨m, hm⟩ := k0; exact DataW.trod_lt m _ _ _ hm
  obtain ⟨u0, rfl⟩ := vl_arg (hval 0 25 v0 rfl rfl) h0
  have k1 := h1
  have lt1 : ∀ x ∈ p1, x.block < W.heap.size := by obtain ⟨m, hm⟩ := k1; exact DataW.trod_lt m _ _ _ hm
  obtain ⟨u1, rfl⟩ := vl_arg (hval 1 25 v1 rfl rfl) h1
  have k2 := h2
  have lt2 : ∀ x ∈ p2, x.block < W.heap.size := by obtain ⟨m, hm⟩ := k2; exact DataW.trod_lt m _ _ _ hm
  obtain ⟨u2, rfl⟩ := vl_arg (hval 2 25 v2 rfl rfl) h2
  clear hA0 hval0 hL hsz0 hsh
  refine (walk u0 u1 u2 W hG ).mono fun e W' ⟨he, bel⟩ => ?_
  subst he
  exact ⟨_, rfl, _, _, _, [], _, [], hW', trodAll_mk1 (shut_bool Tryz.underlying4 _), (trodAll_cons_mk (Below.trod laidOut (by kernel_rfl) (of_decide_eq_true (by kernel_rfl)) k0 bel lt0) (trodAll_cons_mk (Below.trod laidOut (by kernel_rfl) (of_decide_eq_true (by kernel_rfl)) k1 bel lt1) (trodAll_cons_mk (Below.trod laidOut (by kernel_rfl) (of_decide_eq_true (by kernel_rfl)) k2 bel lt2) trodAll_mk0))), rfl, bel.frame _, fun h => by cases h⟩

theorem over : Rows.ValueOrderSaid :=
  OpenClaim.holds_of_wide 7 Tryz.f7 rfl rfl rfl rfl rfl rfl rfl ⟨rfl, rfl, rfl, rfl, rfl⟩ rfl rfl rfl rfl rfl (by kernel_rfl) Tryz.func7 (by kernel_rfl)
    (of_decide_eq_true (by kernel_rfl)) (by unfold Func.isWrapper; first | (rw [if_pos (by decide +kernel)]; kernel_rfl) | (rw [if_neg (by decide +kernel)]; exact ⟨rfl, rfl⟩))
    (fun os started H enc _ => lifted os started H enc)
end Go.Proofs.YtfbiaffdfolbgaaGreatDoor.valueOrder
namespace Go.Proofs.YtfbiaffdfolbgaaGreatDoor
open Go
/-- The card. -/
theorem valueOrder_card : Rows.ValueOrderCardSaid :=
  Claim7.holds_tied_plain_at .later [] [.data, .data, .data, .data, .sentinel, .sentinel, .pinned] true (true, "fa61cd251fadc37448c3489831ed32965a94f864c56d0be9077b6351e5f678b1") true valueOrder.over (fun _ h => by cases h) (by kernel_rfl) (fun _ h => by cases h) valueOrder_row_tie rfl ⟨rfl, rfl⟩ (by kernel_rfl) rfl
    (fun f fn hf hfn => by
      obtain rfl : f = 7 := Option.some.inj ((show Tryz.prog.funcNamed "klaxon/klaxonlaw08.ValueOrder" = some 7 by kernel_rfl).symm.trans hf) |>.symm
      obtain rfl : fn = Tryz.f7 := (Option.some.inj (Tryz.func7.symm.trans hfn)).symm
      exact ⟨by kernel_rfl, fun j t ht => by
        rw [Tryz.params7] at ht
        have hm : t ∈ [25, 25, 25] := by simpa using Array.mem_of_getElem? ht
        have hall : ([25, 25, 25].all fun u => !Tryz.prog.wantsStandIn u) = true := by kernel_rfl
        exact (show Tryz.prog.wantsStandIn t = false by simpa using List.all_eq_true.1 hall t hm)⟩)
    (by kernel_rfl)
#print axioms valueOrder_card
end Go.Proofs.YtfbiaffdfolbgaaGreatDoor
