/- labels.Compare and board.compare, which lay blocks alone; slices.SortFunc at stands; slices.SortedFunc. -/
import Derived.Test.YtiajafljgfpdcaaGreatBVb
import Derived.Shelf.SlSortCmp.NoneTotal
namespace Go.Proofs.YtiajafljgfpdcaaGreat
set_option linter.unusedVariables false
open Go.RowKit Go.Sort Go.Shelf
/-- It has drawn, and blocks were laid. -/
def Gx (w w' : World) : Prop := ∃ q os, w' = grow (w.drewN q) os
theorem Gx.refl (w : World) : Gx w w := ⟨0, #[], by simp; rfl⟩
theorem drewN_add (w : World) (q r : Nat) : (w.drewN q).drewN r = w.drewN (q + r) := by
  simp [World.drewN, Nat.add_assoc]
theorem Gx.trans {a b c : World} (h : Gx a b) (k : Gx b c) : Gx a c := by
  obtain ⟨q, os, rfl⟩ := h
  obtain ⟨r, os', rfl⟩ := k
  refine ⟨q + r, os ++ os', ?_⟩
  rw [← grow_grow, ← drewN_add]
  rfl
theorem Gx.drewN {a b : World} (h : Gx a b) (n : Nat) : Gx a (b.drewN n) := h.trans ⟨n, #[], by simp⟩
theorem Gx.alloc {a b : World} (h : Gx a b) (o : Obj) : Gx a (b.alloc o) := h.trans ⟨0, #[o], by rw [alloc_eq_grow]; rfl⟩
theorem Gx.below {a b : World} (h : Gx a b) : RowKit.Below a.heap.size a b := by
  obtain ⟨q, os, rfl⟩ := h
  exact below_grow a q os
/-- A world that Gx reaches. -/
structure Grw (w : World) where
  W : World
  h : Gx w W
instance (w : World) : Nonempty (Grw w) := ⟨⟨w, Gx.refl _⟩⟩
theorem wp_region_grw {P : Program} {id : Nat} {Q : Exit → Act → World → Prop} {a : Act} {w : World} {l : List Oper} (hm : P.follows .mixedOrders = true) (hB : Region.lexB .any l.toArray = true)
    (h : wpQuiet P l.toArray (fun w' => ∃ p : Grw w, w' = p.W) (fun a' => ∀ w', (∃ p : Grw w, w' = p.W) → Q .normal a' w') l a) : (Code.region id l.toArray true).wp P Q a w :=
  wp_region_quiet (C := fun w' => ∃ p : Grw w, w' = p.W) hm hB ⟨⟨w.drew, (Gx.refl w).drewN 1⟩, rfl⟩ (by simpa using h)
theorem Calls.grw {P : Program} {f : FuncId} {args : Array Value} {w : World} {p : Grw w} {v : Value}
    (h : Calls P f args p.W fun e w' => e = .returned v ∧ ∃ q os, w' = grow (p.W.drewN q) os) : Calls P f args p.W fun e w'' => e = .returned v ∧ ∃ q : Grw w, w'' = q.W :=
  h.mono fun _ w' ⟨he, hb⟩ => ⟨he, ⟨w', p.h.trans hb⟩, rfl⟩
theorem Grw.cell {w : World} (p : Grw w) {b o : Nat} {v : Value} (h : w.cell? ⟨b, o, none⟩ = some v) : p.W.cell? ⟨b, o, none⟩ = some v :=
  (p.h.below.cell (p := ⟨b, o, none⟩) (World.block_lt_of_cell? w _ h)).trans h
set_option maxRecDepth 100000 in
set_option maxHeartbeats 2000000 in
/-- labels.Compare. -/
theorem compare_grw (v u : Value) (a b : List Lb) (w : World) (hv : Lbs w v a) (hu : Lbs w u b) (hla : a.length ≤ 1000000) (hlb : b.length ≤ 1000000) :
    Calls Tryz.prog 47 #[v, u] w fun e w' => e = .returned (.int .i64 (cmpS a b)) ∧ Gx w w' := by
  obtain ⟨a1, c1, rfl⟩ := hv.shape
  obtain ⟨a2, c2, rfl⟩ := hu.shape
  replace hv : Hid (Lbs w (.slice a1 a.length c1) a) := hv
  replace hu : Hid (Lbs w (.slice a2 b.length c2) b) := hu
  obtain ⟨M, hM⟩ : ∃ M : Nat, Hid (M = min a.length b.length) := ⟨_, rfl⟩
  have hmin : min (a.length : Int) (b.length : Int) = (M : Int) := by rw [hM.out]; omega
  have hMa : M ≤ a.length := by rw [hM.out]; omega
  have hMb : M ≤ b.length := by rw [hM.out]; omega
  go_enter Tryz.func47, Tryz.ntmps47
  go_wp2
  clear hmin
  go_loopw [11] (fun i wr => ∃ k d : Nat, k ≤ M ∧ i = .int .i64 k ∧ Hid (a.take k = b.take k) ∧ wr = w.drewN d) (fun i _ => M - (intOf i).toNat)
  case atStart => exact ⟨0, 0, Nat.zero_le _, rfl, rfl, rfl⟩
  case round =>
    obtain ⟨k, d, hk, rfl, htk, rfl⟩ := hrel
    by_cases hlt : k < M
    · have hki : (k : Int) < (M : Int) := by omega
      have hka : (k : Int) < (a.length : Int) := by omega
      have hkb : (k : Int) < (b.length : Int) := by omega
      obtain ⟨b1, o1, rfl, x0, x1⟩ := lb_at hv.out k (by omega)
      obtain ⟨b2, o2, rfl, y0, y1⟩ := lb_at hu.out k (by omega)
      by_cases hpq : a.getD k lb0 = b.getD k lb0
      · have hst : Hid (a.take (k + 1) = b.take (k + 1)) := by
          show _ = _
          rw [take_getD a lb0 k (by omega), take_getD b lb0 k (by omega), htk.out, hpq]
        rw [hpq] at x0 x1
        clear hpq
        generalize b.getD k lb0 = x at *
        obtain ⟨nx, vx⟩ := x
        simp only at x0 x1 y0 y1
        go_wp2
        go_quiet (fail)
        go_wp2
        refine ⟨⟨k + 1, _, by omega, by go_num, hst, rfl⟩, ?_⟩
        simp [intOf]; omega
      · have hR : Hid (cmpS a b = cmpB (a.getD k lb0) (b.getD k lb0)) := cmpS_at htk.out (by omega) (by omega) hpq
        have hc := fun W => compareLabel_any (a.getD k lb0) (b.getD k lb0) W
        have hb3 : (((a.getD k lb0).name.toList == (b.getD k lb0).name.toList) = false) ∨ (((a.getD k lb0).name.toList == (b.getD k lb0).name.toList) = true ∧ ((a.getD k lb0).value.toList == (b.getD k lb0).value.toList) = false) := by
          cases e2 : ((a.getD k lb0).name.toList == (b.getD k lb0).name.toList) with
          | false => exact .inl rfl
          | true =>
            cases e3 : ((a.getD k lb0).value.toList == (b.getD k lb0).value.toList) with
            | false => exact .inr ⟨rfl, rfl⟩
            | true =>
              exfalso
              exact hpq (lb_ext (toList_eq e2) (toList_eq e3))
        clear hpq
        generalize a.getD k lb0 = x at *
        generalize b.getD k lb0 = y at *
        generalize cmpB x y = C at *
        obtain ⟨nx, vx⟩ := x
        obtain ⟨ny, vy⟩ := y
        unfold lbV at hc
        simp only at x0 x1 y0 y1 hb3 hc
        rcases hb3 with e1 | ⟨e1, e2⟩
        all_goals
          go_wp2
          go_quiet (fail)
          go_wp2
          have hBd : RowKit.Below w.heap.size w ((w.drewN d).drewN nq) := below_drewN (below_drewN (RowKit.Below.refl _ _) _) _
          have hGd : Gx w ((w.drewN d).drewN nq) := Gx.drewN (Gx.drewN (Gx.refl _) _) _
          generalize (w.drewN d).drewN nq = wz at hBd hGd ⊢
          have c0 : ∀ p : Grw wz, p.W.cell? ⟨b1, o1 + k * 2, none⟩ = some (.string nx) := fun p => p.cell ((hBd.cell (p := ⟨b1, o1 + k * 2, none⟩) (World.block_lt_of_cell? w _ x0)).trans x0)
          have d0 : ∀ p : Grw wz, p.W.cell? ⟨b1, o1 + k * 2 + 1, none⟩ = some (.string vx) := fun p => p.cell ((hBd.cell (p := ⟨b1, o1 + k * 2 + 1, none⟩) (World.block_lt_of_cell? w _ x1)).trans x1)
          have c1' : ∀ p : Grw wz, p.W.cell? ⟨b2, o2 + k * 2, none⟩ = some (.string ny) := fun p => p.cell ((hBd.cell (p := ⟨b2, o2 + k * 2, none⟩) (World.block_lt_of_cell? w _ y0)).trans y0)
          have d1' : ∀ p : Grw wz, p.W.cell? ⟨b2, o2 + k * 2 + 1, none⟩ = some (.string vy) := fun p => p.cell ((hBd.cell (p := ⟨b2, o2 + k * 2 + 1, none⟩) (World.block_lt_of_cell? w _ y1)).trans y1)
          refine wp_region_grw (by kernel_rfl) (by kernel_rfl) ?_
          repeat (go_big_quiet_step ((first | (go_at_call 84; exact Calls.grw (hc _)))))
          refine wpQuiet_nil ?_
          rintro wq ⟨⟨_, hq⟩, rfl⟩
          go_wp2
          go_ret
          exact ⟨by rw [hR.out]; rfl, hGd.trans hq⟩
    · obtain rfl : k = M := by omega
      have hki : ¬ (k : Int) < (k : Int) := by omega
      have hR : Hid (cmpS a b = cmpN a.length b.length) := cmpS_end htk.out hM.out
      have hc := fun W => icmp_any a.length b.length W
      generalize cmpN a.length b.length = C at *
      go_wp2_with (first | (go_at_call 85; refine (hc _).mono ?_; rintro e wx ⟨rfl, hwx⟩; subst wx))
      go_ret
      exact ⟨by rw [hR.out]; rfl, Gx.drewN (Gx.refl _) _⟩
end Go.Proofs.YtiajafljgfpdcaaGreat
