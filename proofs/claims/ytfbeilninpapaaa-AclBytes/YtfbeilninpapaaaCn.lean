/- The document's Check. -/
import Derived.Test.YtfbeilninpapaaaCl
namespace Go.Proofs.Ytfbeilninpapaaa
set_option linter.unusedVariables false
open Go.RowKit
theorem mbB_is (k : Int) (m : ByteArray) (lv : Int) (x : Bool) (hx : x = if k == 3 then roB m else nmB m) : mbB ⟨k, m, lv⟩ = !(decide (k < 1) || (decide (3 < k) || (!x || (decide (lv < 1) || decide (3 < lv))))) := by
  unfold mbB namedB
  simp only
  subst hx
  by_cases h1 : k < 1
  · rw [if_neg (by simp; omega), if_neg (by simp; omega), if_neg (by simp; omega), decide_eq_true h1]; rfl
  · by_cases h2 : 3 < k
    · rw [if_neg (by simp; omega), if_neg (by simp; omega), if_neg (by simp; omega), decide_eq_true h2]; simp
    · rw [decide_eq_false h1, decide_eq_false h2, Bool.false_or, Bool.false_or]
      have hl : (decide (1 ≤ lv) && decide (lv ≤ 3)) = !(decide (lv < 1) || decide (3 < lv)) := by
        by_cases a : lv < 1 <;> by_cases b : 3 < lv <;> simp [a, b] <;> omega
      rw [hl]
      by_cases h3 : k = 3
      · subst h3
        simp only [show ((3 : Int) == 1) = false from rfl, show ((3 : Int) == 2) = false from rfl, show ((3 : Int) == 3) = true from rfl, if_true, Bool.false_eq_true, if_false]
        cases roB m <;> simp
      · rw [show (k == 3) = false by simpa using h3]
        by_cases h4 : k = 1
        · subst h4
          simp only [show ((1 : Int) == 1) = true from rfl, if_true, Bool.false_eq_true, if_false]
          cases nmB m <;> simp
        · have h5 : k = 2 := by omega
          subst h5
          simp only [show ((2 : Int) == 1) = false from rfl, show ((2 : Int) == 2) = true from rfl, if_true, Bool.false_eq_true, if_false]
          cases nmB m <;> simp
set_option maxRecDepth 100000 in
set_option maxHeartbeats 8000000 in
/-- The document's Check. -/
theorem rcheck_any (v : Value) (l : List Gr) (w : World) (hv : Grs w v l) (hl : l.length ≤ 1000000000000000) (hr : GrR l) :
    Calls Try.prog 11 #[v] w fun e w' => e = .returned (.int .i64 (ckE l)) ∧ Below w.heap.size w w' := by
  obtain ⟨a2, c2, rfl⟩ := hv.shape
  by_cases h16 : 16 < l.length
  · have hR : Hid (ckE l = 6) := by show _ = _; unfold ckE; rw [if_pos h16]
    have h16i : (16 : Int) < (l.length : Int) := by omega
    clear hv
    go_enter Try.func11, Try.ntmps11
    go_wp2
    go_ret
    exact ⟨by rw [hR.out]; rfl, Below.refl _ _⟩
  · have h16i : ¬ (16 : Int) < (l.length : Int) := by omega
    have hvk : Hid (∀ W, Below w.heap.size w W → Grs W (.slice a2 l.length c2) l) := fun W h => hv.grow h
    replace hr : Hid (GrR l) := hr
    clear hv
    go_enter Try.func11, Try.ntmps11
    go_wp2
    go_loopw [3] (fun i wr => ∃ k : Nat, k ≤ l.length ∧ i = .int .i64 k ∧ Hid ((l.take k).all mbB = true) ∧ Hid (Below w.heap.size w wr)) (fun i _ => l.length - (intOf i).toNat)
    case atStart => exact ⟨0, Nat.zero_le _, rfl, rfl, Below.refl _ _⟩
    case round =>
      obtain ⟨k, hk, rfl, hto, hB⟩ := hrel
      have hbz := hB.out.size
      by_cases hlt : k < l.length
      · have hki : (k : Int) < (l.length : Int) := by omega
        obtain ⟨b, o, rfl, x0, x1, x2⟩ := gr_at (hvk.out wr hB.out) k hlt
        have hN := fun W => rname_any (l.getD k gr0).name W (hr.out _ (getD_mem l gr0 k hlt))
        have hO := fun W => role_any (l.getD k gr0).name W
        have hyes : Hid (mbB (l.getD k gr0) = true → (l.take (k + 1)).all mbB = true) := fun h => mb_take hlt hto.out h
        have hnot : Hid (mbB (l.getD k gr0) = false → ckE l = 150) := fun h => ckE_no (by omega) hlt h
        have hBa : Hid (∀ o', Below w.heap.size w (wr.alloc o')) := fun o' => hB.out.alloc hbz _
        generalize l.getD k gr0 = g at *
        obtain ⟨gk, gm, gl⟩ := g
        simp only at x0 x1 x2 hN hO
        have hmb : Hid (∀ x, x = (if gk == 3 then roB gm else nmB gm) → mbB ⟨gk, gm, gl⟩ = !(decide (gk < 1) || (decide (3 < gk) || (!x || (decide (gl < 1) || decide (3 < gl)))))) := fun x h => mbB_is gk gm gl x h
        generalize nmB gm = B1 at *
        generalize roB gm = B2 at *
        rcases Bool.eq_false_or_eq_true (gk == 3) with h3 | h3
        · have hmb2 := hmb.out B2 (by rw [h3]; rfl)
          rw [decide_eq_false (p := gk < 1) (by have := beq_iff_eq.1 h3; omega), decide_eq_false (p := 3 < gk) (by have := beq_iff_eq.1 h3; omega)] at hmb2
          have k1 : ¬ gk < 1 := by have := beq_iff_eq.1 h3; omega
          have k2 : ¬ 3 < gk := by have := beq_iff_eq.1 h3; omega
          cases B2
          · have hst : Hid (ckE l = 150) := hnot.out (by rw [hmb2]; rfl)
            clear hmb hmb2 hyes hnot
            go_wp2_with (first | (go_at_call 24; refine (hN _).mono ?_; rintro e wx ⟨rfl, hwx⟩; subst wx) | (go_at_call 25; refine (hO _).mono ?_; rintro e wx ⟨rfl, hwx⟩; subst wx))
            go_ret
            exact ⟨by rw [hst.out]; rfl, hBa.out _⟩
          · by_cases l1 : gl < 1
            · have hst : Hid (ckE l = 150) := hnot.out (by rw [hmb2, decide_eq_true l1]; rfl)
              clear hmb hmb2 hyes hnot
              go_wp2_with (first | (go_at_call 24; refine (hN _).mono ?_; rintro e wx ⟨rfl, hwx⟩; subst wx) | (go_at_call 25; refine (hO _).mono ?_; rintro e wx ⟨rfl, hwx⟩; subst wx))
              go_ret
              exact ⟨by rw [hst.out]; rfl, hBa.out _⟩
            · by_cases l2 : 3 < gl
              · have hst : Hid (ckE l = 150) := hnot.out (by rw [hmb2, decide_eq_false l1, decide_eq_true l2]; rfl)
                clear hmb hmb2 hyes hnot
                go_wp2_with (first | (go_at_call 24; refine (hN _).mono ?_; rintro e wx ⟨rfl, hwx⟩; subst wx) | (go_at_call 25; refine (hO _).mono ?_; rintro e wx ⟨rfl, hwx⟩; subst wx))
                go_ret
                exact ⟨by rw [hst.out]; rfl, hBa.out _⟩
              · have hst : Hid ((l.take (k + 1)).all mbB = true) := hyes.out (by rw [hmb2, decide_eq_false l1, decide_eq_false l2]; rfl)
                clear hmb hmb2 hyes hnot
                go_wp2_with (first | (go_at_call 24; refine (hN _).mono ?_; rintro e wx ⟨rfl, hwx⟩; subst wx) | (go_at_call 25; refine (hO _).mono ?_; rintro e wx ⟨rfl, hwx⟩; subst wx))
                refine ⟨⟨k + 1, by omega, by go_num, hst, hBa.out _⟩, ?_⟩
                simp [intOf]; omega
        · have hmb2 := hmb.out B1 (by rw [h3]; rfl)
          by_cases k1 : gk < 1
          · have hst : Hid (ckE l = 150) := hnot.out (by rw [hmb2, decide_eq_true k1]; rfl)
            clear hmb hmb2 hyes hnot
            go_wp2_with (first | (go_at_call 24; refine (hN _).mono ?_; rintro e wx ⟨rfl, hwx⟩; subst wx) | (go_at_call 25; refine (hO _).mono ?_; rintro e wx ⟨rfl, hwx⟩; subst wx))
            go_ret
            exact ⟨by rw [hst.out]; rfl, hBa.out _⟩
          · by_cases k2 : 3 < gk
            · have hst : Hid (ckE l = 150) := hnot.out (by rw [hmb2, decide_eq_false k1, decide_eq_true k2]; rfl)
              clear hmb hmb2 hyes hnot
              go_wp2_with (first | (go_at_call 24; refine (hN _).mono ?_; rintro e wx ⟨rfl, hwx⟩; subst wx) | (go_at_call 25; refine (hO _).mono ?_; rintro e wx ⟨rfl, hwx⟩; subst wx))
              go_ret
              exact ⟨by rw [hst.out]; rfl, hBa.out _⟩
            · rw [decide_eq_false k1, decide_eq_false k2] at hmb2
              cases B1
              · have hst : Hid (ckE l = 150) := hnot.out (by rw [hmb2]; rfl)
                clear hmb hmb2 hyes hnot
                go_wp2_with (first | (go_at_call 24; refine (hN _).mono ?_; rintro e wx ⟨rfl, hwx⟩; subst wx) | (go_at_call 25; refine (hO _).mono ?_; rintro e wx ⟨rfl, hwx⟩; subst wx))
                go_ret
                exact ⟨by rw [hst.out]; rfl, hBa.out _⟩
              · by_cases l1 : gl < 1
                · have hst : Hid (ckE l = 150) := hnot.out (by rw [hmb2, decide_eq_true l1]; rfl)
                  clear hmb hmb2 hyes hnot
                  go_wp2_with (first | (go_at_call 24; refine (hN _).mono ?_; rintro e wx ⟨rfl, hwx⟩; subst wx) | (go_at_call 25; refine (hO _).mono ?_; rintro e wx ⟨rfl, hwx⟩; subst wx))
                  go_ret
                  exact ⟨by rw [hst.out]; rfl, hBa.out _⟩
                · by_cases l2 : 3 < gl
                  · have hst : Hid (ckE l = 150) := hnot.out (by rw [hmb2, decide_eq_false l1, decide_eq_true l2]; rfl)
                    clear hmb hmb2 hyes hnot
                    go_wp2_with (first | (go_at_call 24; refine (hN _).mono ?_; rintro e wx ⟨rfl, hwx⟩; subst wx) | (go_at_call 25; refine (hO _).mono ?_; rintro e wx ⟨rfl, hwx⟩; subst wx))
                    go_ret
                    exact ⟨by rw [hst.out]; rfl, hBa.out _⟩
                  · have hst : Hid ((l.take (k + 1)).all mbB = true) := hyes.out (by rw [hmb2, decide_eq_false l1, decide_eq_false l2]; rfl)
                    clear hmb hmb2 hyes hnot
                    go_wp2_with (first | (go_at_call 24; refine (hN _).mono ?_; rintro e wx ⟨rfl, hwx⟩; subst wx) | (go_at_call 25; refine (hO _).mono ?_; rintro e wx ⟨rfl, hwx⟩; subst wx))
                    refine ⟨⟨k + 1, by omega, by go_num, hst, hBa.out _⟩, ?_⟩
                    simp [intOf]; omega
      · obtain rfl : l.length = k := by omega
        have hki : ¬ (l.length : Int) < (l.length : Int) := by omega
        have hall : Hid (l.all mbB = true) := by
          have := hto.out
          rw [List.take_of_length_le (Nat.le_refl _)] at this
          exact this
        clear hto
        obtain ⟨wo, rfl⟩ : ∃ wo, wo = wr := ⟨_, rfl⟩
        go_wp2
        go_loopw [6] (fun i wr => ∃ k : Nat, k ≤ l.length ∧ i = .int .i64 k ∧ Hid (thTo l k) ∧ Hid (Below w.heap.size w wr)) (fun i _ => l.length - (intOf i).toNat)
        case atStart => exact ⟨0, Nat.zero_le _, rfl, (fun j hj => absurd hj (Nat.not_lt_zero _)), hB⟩
        case round =>
          clear hB hbz
          obtain ⟨k, hk, rfl, hto, hB⟩ := hrel
          by_cases hlt : k < l.length
          · have hki : (k : Int) < (l.length : Int) := by omega
            obtain ⟨wp, rfl⟩ : ∃ wp, wp = wr := ⟨_, rfl⟩
            go_wp2
            go_loopw [7] (fun i wr => ∃ j : Nat, j ≤ k ∧ i = .int .i64 j ∧ Hid (gvB (l.getD k gr0) (l.take j) = false) ∧ Hid (Below w.heap.size w wr)) (fun i _ => k - (intOf i).toNat)
            case atStart => exact ⟨0, Nat.zero_le _, rfl, rfl, hB⟩
            case round =>
              clear hB
              obtain ⟨j, hj, rfl, hno, hB⟩ := hrel
              by_cases hjk : j < k
              · have hji : (j : Int) < (k : Int) := by omega
                have hjl : j < l.length := by omega
                obtain ⟨b, o, ra, x0, x1, x2⟩ := gr_at (hvk.out wr hB.out) k hlt
                obtain ⟨b', o', ra', y0, y1, y2⟩ := gr_at (hvk.out wr hB.out) j hjl
                rw [ra] at ra'
                cases ra'
                subst ra
                have hyes : Hid (sameB (l.getD j gr0) (l.getD k gr0) = true → ckE l = 8) := fun h => by
                  unfold ckE
                  rw [if_neg h16, hall.out, if_pos rfl, thB_yes hlt (gvB_yes (k := j) (by rw [List.length_take]; omega) (by rw [show (l.take k).getD j gr0 = l.getD j gr0 by rw [List.getD_eq_getElem?_getD, List.getD_eq_getElem?_getD, List.getElem?_take_of_lt hjk]]; exact h)), if_pos rfl]
                have hnot : Hid (sameB (l.getD j gr0) (l.getD k gr0) = false → gvB (l.getD k gr0) (l.take (j + 1)) = false) := fun h => gvB_take hjl hno.out h
                have hsm : sameB (l.getD j gr0) (l.getD k gr0) = ((l.getD k gr0).kind == (l.getD j gr0).kind && (l.getD k gr0).name.toList == (l.getD j gr0).name.toList) := by
                  unfold sameB; rw [BEq.comm, beq_comm']
                have c0 : ∀ p : Bel wr, p.W.cell? ⟨b, o + k * 3, none⟩ = some (.int .i64 (l.getD k gr0).kind) := fun p => p.cell x0
                have c1 : ∀ p : Bel wr, p.W.cell? ⟨b, o + k * 3 + 1, none⟩ = some (.string (l.getD k gr0).name) := fun p => p.cell x1
                have d0 : ∀ p : Bel wr, p.W.cell? ⟨b, o + j * 3, none⟩ = some (.int .i64 (l.getD j gr0).kind) := fun p => p.cell y0
                have d1 : ∀ p : Bel wr, p.W.cell? ⟨b, o + j * 3 + 1, none⟩ = some (.string (l.getD j gr0).name) := fun p => p.cell y1
                clear x0 x1 x2 y0 y1 y2
                generalize l.getD k gr0 = g at *
                generalize l.getD j gr0 = g2 at *
                obtain ⟨gk, gm, gl⟩ := g
                obtain ⟨hk2, hm2, hl2⟩ := g2
                simp only at c0 c1 d0 d1 hsm
                replace hsm : Hid _ := hsm
                replace hto : Hid (thTo l k) := hto.out
                rcases Bool.eq_false_or_eq_true (gk == hk2) with e1 | e1
                · rcases Bool.eq_false_or_eq_true (gm.toList == hm2.toList) with e2 | e2
                  · have hst : Hid (ckE l = 8) := hyes.out (by rw [hsm.out, e1, e2]; rfl)
                    go_wp2
                    refine wp_region_bel (by kernel_rfl) (by kernel_rfl) ?_
                    repeat (go_big_quiet_step (fail))
                    refine wpQuiet_nil ?_
                    rintro _ ⟨⟨wq, hq⟩, rfl⟩
                    go_wp2
                    go_ret
                    exact ⟨by rw [hst.out]; rfl, hB.out.trans (hq.mono hB.out.size)⟩
                  · have hst : Hid (gvB ⟨gk, gm, gl⟩ (l.take (j + 1)) = false) := hnot.out (by rw [hsm.out, e1, e2]; rfl)
                    go_wp2
                    refine wp_region_bel (by kernel_rfl) (by kernel_rfl) ?_
                    repeat (go_big_quiet_step (fail))
                    refine wpQuiet_nil ?_
                    rintro _ ⟨⟨wq, hq⟩, rfl⟩
                    go_wp2
                    refine ⟨⟨j + 1, by omega, by go_num, hst, hB.out.trans (hq.mono hB.out.size)⟩, ?_⟩
                    simp [intOf]; omega
                · have hst : Hid (gvB ⟨gk, gm, gl⟩ (l.take (j + 1)) = false) := hnot.out (by rw [hsm.out, e1]; rfl)
                  go_wp2
                  refine wp_region_bel (by kernel_rfl) (by kernel_rfl) ?_
                  repeat (go_big_quiet_step (fail))
                  refine wpQuiet_nil ?_
                  rintro _ ⟨⟨wq, hq⟩, rfl⟩
                  go_wp2
                  refine ⟨⟨j + 1, by omega, by go_num, hst, hB.out.trans (hq.mono hB.out.size)⟩, ?_⟩
                  simp [intOf]; omega
              · obtain rfl : k = j := by omega
                have hji : ¬ (k : Int) < (k : Int) := by omega
                have hst : Hid (thTo l (k + 1)) := thTo_succ hto.out hno.out
                go_wp2
                refine ⟨⟨k + 1, by omega, by go_num, hst, hB⟩, ?_⟩
                simp [intOf]; omega
          · obtain rfl : l.length = k := by omega
            have hki : ¬ (l.length : Int) < (l.length : Int) := by omega
            have hR : Hid (ckE l = 0) := by
              show _ = _
              unfold ckE
              rw [if_neg h16, hall.out, if_pos rfl, thB_no hto.out]
              rfl
            go_wp2
            go_ret
            exact ⟨by rw [hR.out]; rfl, hB.out⟩
end Go.Proofs.Ytfbeilninpapaaa
