/- The document's Compare and Set of labels; its within. -/
import Derived.Test.YtejdmielhaldaaaGreatUe
import Derived.Test.YtejdmielhaldaaaGreatRp
import Derived.BigQuiet
namespace Go.Proofs.YtejdmielhaldaaaGreat
set_option linter.unusedVariables false
open Go.RowKit
set_option maxRecDepth 100000 in
set_option maxHeartbeats 4000000 in
/-- The document's Compare. -/
theorem rcompare_any (v u : Value) (a b : List Lb) (w : World) (hv : Lbs w v a) (hu : Lbs w u b) (hla : a.length ≤ 1000000) (hlb : b.length ≤ 1000000) :
    Calls Tryz.prog 42 #[v, u] w fun e w' => e = .returned (.int .i64 (cmpS a b)) ∧ Below w.heap.size w w' := by
  obtain ⟨a1, c1, rfl⟩ := hv.shape
  obtain ⟨a2, c2, rfl⟩ := hu.shape
  replace hv : Hid (Lbs w (.slice a1 a.length c1) a) := hv
  replace hu : Hid (Lbs w (.slice a2 b.length c2) b) := hu
  obtain ⟨M, hM⟩ : ∃ M : Nat, Hid (M = min a.length b.length) := ⟨_, rfl⟩
  have hMa : M ≤ a.length := by rw [hM.out]; omega
  have hMb : M ≤ b.length := by rw [hM.out]; omega
  go_enter Tryz.func42, Tryz.ntmps42
  go_wp2
  go_loopw [5] (fun i wr => ∃ k : Nat, k ≤ M ∧ i = .int .i64 k ∧ Hid (a.take k = b.take k) ∧ Below w.heap.size w wr) (fun i _ => M - (intOf i).toNat)
  case atStart => exact ⟨0, Nat.zero_le _, rfl, rfl, Below.refl _ _⟩
  case round =>
    obtain ⟨k, hk, rfl, htk, hB⟩ := hrel
    by_cases hlt : k < M
    · have hka : (k : Int) < (a.length : Int) := by omega
      have hkb : (k : Int) < (b.length : Int) := by omega
      obtain ⟨b1, o1, rfl, x0, x1⟩ := lb_at (Sls.grow hv.out hB) k (by omega)
      obtain ⟨b2, o2, rfl, y0, y1⟩ := lb_at (Sls.grow hu.out hB) k (by omega)
      have hst : Hid (a.getD k lb0 = b.getD k lb0 → a.take (k + 1) = b.take (k + 1)) := fun e => by
        rw [ltake_getD a lb0 k (by omega), ltake_getD b lb0 k (by omega), htk.out, e]
      have hR : Hid (a.getD k lb0 ≠ b.getD k lb0 → cmpS a b = cmpB (a.getD k lb0) (b.getD k lb0)) := fun h => cmpS_at htk.out (by omega) (by omega) h
      generalize a.getD k lb0 = x at *
      generalize b.getD k lb0 = y at *
      have hdef : Hid (cmpB x y = if cmpL (numsS x.name) (numsS y.name) = 0 then cmpL (numsS x.value) (numsS y.value) else cmpL (numsS x.name) (numsS y.name)) := rfl
      have hxy : Hid (cmpB x y = 0 ↔ x = y) := cmpB_eq
      have hc := fun W => calls_same (rorder_any x.name y.name W)
      have hd := fun W => calls_same (rorder_any x.value y.value W)
      have hci := cmpL_in (numsS x.name) (numsS y.name)
      have hdi := cmpL_in (numsS x.value) (numsS y.value)
      generalize cmpL (numsS x.name) (numsS y.name) = C at *
      generalize cmpL (numsS x.value) (numsS y.value) = D at *
      have x0' : ∀ p : Bel wr, p.W.cell? ⟨b1, o1 + k * 2, none⟩ = some (.string x.name) := fun p => p.cell x0
      have y0' : ∀ p : Bel wr, p.W.cell? ⟨b2, o2 + k * 2, none⟩ = some (.string y.name) := fun p => p.cell y0
      have x1' : ∀ wq : World, Below wr.heap.size wr wq → ∀ p : Bel wq, p.W.cell? ⟨b1, o1 + k * 2 + 1, none⟩ = some (.string x.value) := fun wq h p => p.cell ((h.cell (p := ⟨b1, o1 + k * 2 + 1, none⟩) (World.block_lt_of_cell? wr _ x1)).trans x1)
      have y1' : ∀ wq : World, Below wr.heap.size wr wq → ∀ p : Bel wq, p.W.cell? ⟨b2, o2 + k * 2 + 1, none⟩ = some (.string y.value) := fun wq h p => p.cell ((h.cell (p := ⟨b2, o2 + k * 2 + 1, none⟩) (World.block_lt_of_cell? wr _ y1)).trans y1)
      clear x0 x1 y0 y1
      obtain ⟨nx, vx⟩ := x
      obtain ⟨ny, vy⟩ := y
      simp only at x0' x1' y0' y1' hc hd
      by_cases hC : C = 0
      · subst hC
        go_wp2
        refine wp_region_bel (by kernel_rfl) (by kernel_rfl) ?_
        repeat (go_big_quiet_step ((first | (go_at_call 73; exact Calls.bel (hc _)))))
        refine wpQuiet_nil ?_
        rintro wq ⟨⟨_, hq⟩, rfl⟩
        have X1 := x1' _ hq
        have Y1 := y1' _ hq
        by_cases hD : D = 0
        · subst hD
          go_wp2
          refine wp_region_bel (by kernel_rfl) (by kernel_rfl) ?_
          repeat (go_big_quiet_step ((first | (go_at_call 73; exact Calls.bel (hd _)))))
          refine wpQuiet_nil ?_
          rintro wq2 ⟨⟨_, hq2⟩, rfl⟩
          go_wp2
          refine ⟨⟨k + 1, by omega, by go_num, hst.out (hxy.out.1 (by rw [hdef.out]; simp)), (hB.trans (hq.mono hB.size)).trans (hq2.mono (hB.trans (hq.mono hB.size)).size)⟩, ?_⟩
          simp [intOf]; omega
        · have hD1 : (D == 0) = false := by simpa using hD
          go_wp2
          refine wp_region_bel (by kernel_rfl) (by kernel_rfl) ?_
          repeat (go_big_quiet_step ((first | (go_at_call 73; exact Calls.bel (hd _)))))
          refine wpQuiet_nil ?_
          rintro wq2 ⟨⟨_, hq2⟩, rfl⟩
          go_wp2
          go_ret
          refine ⟨?_, (hB.trans (hq.mono hB.size)).trans (hq2.mono (hB.trans (hq.mono hB.size)).size)⟩
          have e1 : cmpB ⟨nx, vx⟩ ⟨ny, vy⟩ = D := by rw [hdef.out]; simp
          rw [hR.out (fun e => hD (by rw [← e1]; exact hxy.out.2 e)), e1]; rfl
      · have hC1 : (C == 0) = false := by simpa using hC
        go_wp2
        refine wp_region_bel (by kernel_rfl) (by kernel_rfl) ?_
        repeat (go_big_quiet_step ((first | (go_at_call 73; exact Calls.bel (hc _)))))
        refine wpQuiet_nil ?_
        rintro wq ⟨⟨_, hq⟩, rfl⟩
        go_wp2
        go_ret
        refine ⟨?_, hB.trans (hq.mono hB.size)⟩
        have e1 : cmpB ⟨nx, vx⟩ ⟨ny, vy⟩ = C := by rw [hdef.out, if_neg hC]
        rw [hR.out (fun e => hC (by rw [← e1]; exact hxy.out.2 e)), e1]; rfl
    · have hkM : k = M := by omega
      have hR : Hid (cmpS a b = cmpN a.length b.length) := cmpS_end htk.out (hkM.trans hM.out)
      have hend : ¬ ((k : Int) < (a.length : Int) ∧ (k : Int) < (b.length : Int)) := by rw [hkM, hM.out]; omega
      by_cases h1 : (k : Int) < (a.length : Int)
      · have h2 : ¬ (k : Int) < (b.length : Int) := fun h => hend ⟨h1, h⟩
        have h3 : ¬ (a.length : Int) < (b.length : Int) := by omega
        have h4 : (b.length : Int) < (a.length : Int) := by omega
        have hS : Hid (cmpS a b = 1) := by show _ = _; rw [hR.out]; unfold cmpN; rw [if_neg (by omega), if_pos (by omega)]
        go_wp2
        go_ret
        exact ⟨by rw [hS.out]; rfl, hB⟩
      · by_cases h3 : (a.length : Int) < (b.length : Int)
        · have hS : Hid (cmpS a b = -1) := by show _ = _; rw [hR.out]; unfold cmpN; rw [if_pos (by omega)]
          go_wp2
          go_ret
          exact ⟨by rw [hS.out]; rfl, hB⟩
        · have h4 : ¬ (b.length : Int) < (a.length : Int) := by
            have h5 := hM.out
            omega
          have hS : Hid (cmpS a b = 0) := by show _ = _; rw [hR.out]; unfold cmpN; rw [if_neg (by omega), if_neg (by omega)]
          go_wp2
          go_ret
          exact ⟨by rw [hS.out]; rfl, hB⟩
set_option maxRecDepth 100000 in
set_option maxHeartbeats 4000000 in
/-- The document's within. -/
theorem rwithin_any (v u : Value) (a b : List Lb) (w : World) (hv : Lbs w v a) (hu : Lbs w u b) (ha : a.length ≤ 1000000) (hb : b.length ≤ 1000000) : Calls Tryz.prog 47 #[v, u] w fun e w' => e = .returned (.bool (withinB a b)) ∧ Below w.heap.size w w' := by
  obtain ⟨a1, c1, rfl⟩ := hv.shape
  have hg : ∀ n W, Below w.heap.size w W → Calls Tryz.prog 78 #[u, .string n] W fun e w' => e = .returned (.string (getL b n)) ∧ Below W.heap.size W w' := fun n W h => calls_same (rget_any u b n W (hu.grow h) hb)
  clear hu
  replace hv : Hid (Lbs w (.slice a1 a.length c1) a) := hv
  obtain ⟨R, hR⟩ : ∃ R, Hid (R = withinB a b) := ⟨_, rfl⟩
  rw [← hR.out]
  go_enter Tryz.func47, Tryz.ntmps47
  go_wp2
  go_loopw [5] (fun i wr => ∃ k : Nat, k ≤ a.length ∧ i = .int .i64 k ∧ Hid (∀ j, j < k → ((getL b (a.getD j lb0).name).toList == (a.getD j lb0).value.toList) = true) ∧ Hid (Below w.heap.size w wr)) (fun i _ => a.length - (intOf i).toNat)
  case atStart => exact ⟨0, Nat.zero_le _, rfl, fun j hj => absurd hj (Nat.not_lt_zero _), Below.refl _ _⟩
  case round =>
    obtain ⟨k, hk, rfl, hall, hB⟩ := hrel
    by_cases hlt : k < a.length
    · have hki : (k : Int) < (a.length : Int) := by omega
      obtain ⟨b1, o1, rfl, x0, x1⟩ := lb_at (Sls.grow hv.out hB.out) k hlt
      have hB1 := hB.out
      have hcall : ∀ p : Bel wr, Calls Tryz.prog 78 #[u, .string (a.getD k lb0).name] p.W fun e w' => e = .returned (.string (getL b (a.getD k lb0).name)) ∧ Below p.W.heap.size p.W w' := fun p => hg _ _ (hB1.trans (p.h.mono hB1.size))
      have hmem : Hid (a.getD k lb0 ∈ a) := by
        show _ ∈ _
        rw [List.getD_eq_getElem?_getD, List.getElem?_eq_getElem hlt]; exact List.getElem_mem hlt
      obtain ⟨x, hx⟩ : ∃ x, Hid (x = a.getD k lb0) := ⟨_, rfl⟩
      rw [← hx.out] at x0 x1 hcall hmem
      obtain ⟨xn, xv⟩ := x
      simp only at x0 x1 hcall hmem
      have c0 : ∀ p : Bel wr, p.W.cell? ⟨b1, o1 + k * 2, none⟩ = some (.string xn) := fun p => p.cell x0
      have c1 : ∀ p : Bel wr, p.W.cell? ⟨b1, o1 + k * 2 + 1, none⟩ = some (.string xv) := fun p => p.cell x1
      generalize hgv : getL b xn = gv at *
      cases he : gv.toList == xv.toList with
      | true =>
        have hall2 : Hid (∀ j, j < k + 1 → ((getL b (a.getD j lb0).name).toList == (a.getD j lb0).value.toList) = true) := fun j hj => by
          by_cases e : j = k
          · subst e; rw [← hx.out]; show ((getL b xn).toList == xv.toList) = true; rw [hgv]; exact he
          · exact hall.out j (by omega)
        go_wp2
        refine wp_region_bel (by kernel_rfl) (by kernel_rfl) ?_
        repeat (go_big_quiet_step (exact Calls.bel (hcall _)))
        refine wpQuiet_nil ?_
        rintro W ⟨p, rfl⟩
        go_wp2
        refine ⟨⟨k + 1, by omega, by go_num, hall2, hB1.trans (p.h.mono hB1.size)⟩, ?_⟩
        simp [intOf]; omega
      | false =>
        have hRf : Hid (R = false) := by
          show _ = _
          rw [hR.out]
          unfold withinB
          rw [List.all_eq_false]
          exact ⟨_, hmem.out, by show ¬ ((getL b xn).toList == xv.toList) = true; rw [hgv, he]; decide⟩
        go_wp2
        refine wp_region_bel (by kernel_rfl) (by kernel_rfl) ?_
        repeat (go_big_quiet_step (exact Calls.bel (hcall _)))
        refine wpQuiet_nil ?_
        rintro W ⟨p, rfl⟩
        go_wp2
        go_ret
        exact ⟨by rw [hRf.out]; rfl, hB1.trans (p.h.mono hB1.size)⟩
    · obtain rfl : k = a.length := by omega
      have hki : ¬ (a.length : Int) < (a.length : Int) := by omega
      have hRt : Hid (R = true) := by
        show _ = _
        rw [hR.out]
        unfold withinB
        rw [List.all_eq_true]
        intro x hx
        obtain ⟨j, hj, rfl⟩ := List.getElem_of_mem hx
        have := hall.out j hj
        rw [List.getD_eq_getElem?_getD, List.getElem?_eq_getElem hj] at this
        exact this
      have hB' := hB.out
      go_wp2
      go_ret
      exact ⟨by rw [hRt.out]; rfl, hB'⟩
theorem setB_yes {l : List Lb} (h : IsSet l) : setB l = true := setB_iff.2 h
end Go.Proofs.YtejdmielhaldaaaGreat
