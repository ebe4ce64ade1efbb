/-
  With of nothing, of more, and again.
-/
import Derived.Test.YtckchabcnmkbeabRows
import Derived.WalkKit
import Derived.ProofKit
import Derived.OpenShut
import Derived.ShutString
import Derived.ChangeOld
import Derived.Below
import Derived.SizedLaws
import Derived.Test.YtckchabcnmkbeabWt
namespace Go.Proofs.Ytckchabcnmkbeab.labelsOver
open Go.ChangeShapes Go.WideShapes Go.ChangeAt Go.RowKit
open Go.ChangeMaps (open_string shut_string)
set_option linter.unusedVariables false
theorem own : ownKnob Try.prog.godebug = none := by kernel_rfl
theorem laidOut : laidOutB Try.prog = true := by kernel_rfl
theorem bytes_ne {g : ByteArray} (h : g ≠ ⟨#[]⟩) : g.toList.isEmpty = false ∧ (g.toList == []) = false := by
  have h1 := toList_ne h
  have h2 : (⟨#[]⟩ : ByteArray).toList = [] := by decide +kernel
  rw [h2] at h1
  refine ⟨?_, h1⟩
  cases e : g.toList with
  | nil => rw [e] at h1; simp at h1
  | cons a l => rfl
set_option maxRecDepth 100000 in
set_option maxHeartbeats 4000000 in
theorem walk_out (v : Value) (a : List Lb) (u : Value) (b : List Lb) (w : World) (hv : Lbs w v a) (hr : LbsR a) (hL : a.length ≤ 140737488351232) (hu : Lbs w u b) (hm : LbsR b) (hM : b.length ≤ 140737488351232)
    (h : setB a = false ∨ (setB a = true ∧ setB b = false)) :
    Calls Try.prog 3 #[v, u] w fun e w' => e = .returned (.bool true) ∧ Below w.heap.size w w' := by
  have hlive := fun W => live_ok W
  have hs1 := set_any v a w hv hr (by omega)
  have hs2 : ∀ W, Below w.heap.size w W → Calls Try.prog 4 #[u] W fun e w' => e = .returned (.bool (setB b)) ∧ Below W.heap.size W w' := fun W h => set_any _ b W (hu.grow h) hm (by omega)
  rcases h with h1 | ⟨h1, h2⟩
  · rw [h1] at hs1
    clear hs2 hv hu
    go_enter Try.func3, Try.ntmps3
    go_wp2_with (first
      | (go_at_call 4; refine hs1.mono ?_; rintro e w1 ⟨rfl, hb1⟩)
      | (go_at_call 5; refine (hlive _).mono ?_; rintro e w3 ⟨rfl, hb3⟩))
    go_ret
    exact ⟨rfl, hb1.trans (hb3.mono hb1.size)⟩
  · rw [h1] at hs1
    rw [h2] at hs2
    clear hv hu
    go_enter Try.func3, Try.ntmps3
    go_wp2_with fail
    refine hs1.mono ?_
    rintro e w1 ⟨rfl, hb1⟩
    go_wp2_with fail
    refine (hs2 _ hb1).mono ?_
    rintro e w2 ⟨rfl, hb2⟩
    have hB2 := hb1.trans (hb2.mono hb1.size)
    go_wp2_with (first
      | (go_at_call 5; refine (hlive _).mono ?_; rintro e w3 ⟨rfl, hb3⟩))
    go_ret
    exact ⟨rfl, hB2.trans (hb3.mono hB2.size)⟩
set_option maxRecDepth 100000 in
set_option maxHeartbeats 8000000 in
theorem walk_in (v : Value) (a : List Lb) (u : Value) (b : List Lb) (w : World) (hv : Lbs w v a) (hu : Lbs w u b) (h1 : setB a = true) (h2 : setB b = true) :
    Calls Try.prog 3 #[v, u] w fun e w' => e = .returned (.bool true) ∧ Below w.heap.size w w' := by
  have ha : IsSet a := setB_iff.1 h1
  have hb : IsSet b := setB_iff.1 h2
  have ra := ha.short.reach
  have rb := hb.short.reach
  have la := ha.2.2
  have lb := hb.2.2
  have hlive := fun W => live_ok W
  have hs1 := set_any v a w hv ra (by omega)
  have hs2 : ∀ W, Below w.heap.size w W → Calls Try.prog 4 #[u] W fun e w' => e = .returned (.bool (setB b)) ∧ Below W.heap.size W w' := fun W h => set_any _ b W (hu.grow h) rb (by omega)
  rw [h1] at hs1
  rw [h2] at hs2
  obtain ⟨av, cv, rfl⟩ := hv.shape
  obtain ⟨bv, dv, rfl⟩ := hu.shape
  have hvk : Hid (∀ W, Below w.heap.size w W → Lbs W (.slice av a.length cv) a) := fun W h => hv.grow h
  have huk : Hid (∀ W, Below w.heap.size w W → Lbs W (.slice bv b.length dv) b) := fun W h => hu.grow h
  have hn0 := fun W => num_any 0 W (by omega) (by omega)
  clear hv hu h1 h2
  go_enter Try.func3, Try.ntmps3
  go_wp2_with fail
  refine hs1.mono ?_
  rintro e w1 ⟨rfl, hb1⟩
  go_wp2_with fail
  refine (hs2 _ hb1).mono ?_
  rintro e w2 ⟨rfl, hb2⟩
  have B2 := hb1.trans (hb2.mono hb1.size)
  clear hs1 hs2 hb1 hb2
  go_wp2_with fail
  refine (with_any _ (.slice none 0 0) a [] w2 (hvk.out _ B2) (sls_nil _) (by omega) (by simp) ra (fun x hx => by cases hx)).mono ?_
  rintro e w3 ⟨z3, yo, er, rfl, hq3, ho3, hb3⟩
  obtain ⟨rfl, hyo⟩ := with_none ha hq3
  subst yo
  have B3 := B2.trans (hb3.mono B2.size)
  clear hq3
  go_wp2_with fail
  refine (with_any _ _ a b w3 (hvk.out _ B3) (huk.out _ B3) (by omega) (by omega) ra rb).mono ?_
  rintro e w4 ⟨z4, x, es, rfl, hq4, ho4, hb4⟩
  have B4 := B3.trans (hb4.mono B3.size)
  have hx4 : Hid (∀ W, Below w4.heap.size w4 W → Lbs W z4 x) := fun W h => ho4.sls.grow h
  have hz3 := ho3.sls.grow hb4
  obtain ⟨xv, ev, rfl⟩ := ho4.shape
  clear ho3 ho4 hb3 hb4
  go_wp2_with (first | (go_at_call 7; refine (hn0 _).mono ?_; rintro e wx ⟨rfl, hwx⟩; subst wx))
  refine (same_any z3 _ a a w4 hz3 (hvk.out _ B4) (by omega) (by omega)).mono ?_
  rintro e w5 ⟨B, rfl, hBB, hb5⟩
  obtain rfl : B = true := hBB.2 rfl
  have B5 := B4.trans (hb5.mono B4.size)
  clear hBB hz3
  have hform := with_form ha hb hq4
  clear hq4
  rcases hform with ⟨rfl, rfl⟩ | ⟨rfl, hxs, hxl, hmem⟩
  · have hn6 := fun W => num_any 6 W (by omega) (by omega)
    clear hx4
    go_wp2_with (first
      | (go_at_call 7; refine (hn6 _).mono ?_; rintro e wx ⟨rfl, hwx⟩; subst wx)
      | (go_at_call 5; refine (hlive _).mono ?_; rintro e w6 ⟨rfl, hb6⟩))
    go_ret
    exact ⟨rfl, B5.trans (hb6.mono B5.size)⟩
  · have hx5 : Hid (∀ W, Below w5.heap.size w5 W → Lbs W (.slice xv x.length ev) x) := fun W h => hx4.out _ (hb5.trans (h.mono hb5.size))
    have hget : Hid ((∀ y ∈ b, getL x y.name = y.value) ∧ ∀ y ∈ a, (∀ z ∈ b, z.name ≠ y.name) → getL x y.name = y.value) := with_get hxs hmem
    have hagain : Hid (∀ out e, MkQ (withL x b) out e → e = 0 ∧ out = x) := fun out e h => with_again hb hxs hmem h
    have hx16 := hxs.2.2
    have hxB := setB_iff.2 hxs
    have hxr := hxs.short.reach
    have hemp : Hid (∀ n, getL b n = ⟨#[]⟩ → ∀ z ∈ b, z.name ≠ n) := fun n => (getL_empty hb.1).1
    clear hx4 hmem hxs
    go_wp2_with (first | (go_at_call 7; refine (hn0 _).mono ?_; rintro e wx ⟨rfl, hwx⟩; subst wx))
    go_loopw [9] (fun i wr => ∃ k : Nat, k ≤ b.length ∧ i = .int .i64 k ∧ Below w5.heap.size w5 wr) (fun i _ => b.length - (intOf i).toNat)
    case atStart => exact ⟨0, Nat.zero_le _, rfl, Below.refl _ _⟩
    case round =>
      obtain ⟨k, hk, rfl, hBr⟩ := hrel
      have Br := B5.trans (hBr.mono B5.size)
      by_cases hlt : k < b.length
      · have hki : (k : Int) < (b.length : Int) := by omega
        have hgt := hget.out.1 _ (getD_mem b lb0 k hlt)
        obtain ⟨b1, o1, rfl, x0, x1⟩ := lb_at (huk.out _ Br) k hlt
        have c0 : ∀ p : Bel wr, p.W.cell? ⟨b1, o1 + k * 2, none⟩ = some (.string (b.getD k lb0).name) := fun p => p.cell x0
        have c1 : ∀ p : Bel wr, p.W.cell? ⟨b1, o1 + k * 2 + 1, none⟩ = some (.string (b.getD k lb0).value) := fun p => p.cell x1
        have hG : ∀ p : Bel wr, Calls Try.prog 9 #[.slice xv x.length ev, .string (b.getD k lb0).name] p.W fun e w' => e = .returned (.string (getL x (b.getD k lb0).name)) ∧ Below p.W.heap.size p.W w' := fun p => get_any _ x _ p.W (hx5.out _ (hBr.trans (p.h.mono hBr.size))) (by omega)
        rw [hgt] at hG
        clear hgt x0 x1
        generalize b.getD k lb0 = y at *
        obtain ⟨n, s⟩ := y
        simp only at c0 c1 hG
        go_wp2
        refine wp_region_bel (by kernel_rfl) (by kernel_rfl) ?_
        repeat (go_big_quiet_step ((first | (go_at_call 9; exact Calls.bel (hG _)))))
        refine wpQuiet_nil ?_
        rintro wq ⟨⟨_, hq⟩, rfl⟩
        go_wp2
        refine ⟨⟨k + 1, by omega, by go_num, hBr.trans (hq.mono hBr.size)⟩, ?_⟩
        simp [intOf]; omega
      · obtain rfl : k = b.length := by omega
        have hki : ¬ (b.length : Int) < (b.length : Int) := by omega
        have hBr0 := hBr
        go_wp2
        go_loopw [10] (fun i wr => ∃ k : Nat, k ≤ a.length ∧ i = .int .i64 k ∧ Below w5.heap.size w5 wr) (fun i _ => a.length - (intOf i).toNat)
        case atStart => exact ⟨0, Nat.zero_le _, rfl, hBr0⟩
        case round =>
          clear hBr hBr0 Br
          obtain ⟨j, hj, rfl, hBr⟩ := hrel
          have Br := B5.trans (hBr.mono B5.size)
          by_cases hlt2 : j < a.length
          · have hji : (j : Int) < (a.length : Int) := by omega
            obtain ⟨b1, o1, rfl, x0, x1⟩ := lb_at (hvk.out _ Br) j hlt2
            have c0 : ∀ p : Bel wr, p.W.cell? ⟨b1, o1 + j * 2, none⟩ = some (.string (a.getD j lb0).name) := fun p => p.cell x0
            have c1 : ∀ p : Bel wr, p.W.cell? ⟨b1, o1 + j * 2 + 1, none⟩ = some (.string (a.getD j lb0).value) := fun p => p.cell x1
            have hG : ∀ p : Bel wr, Calls Try.prog 9 #[.slice xv x.length ev, .string (a.getD j lb0).name] p.W fun e w' => e = .returned (.string (getL x (a.getD j lb0).name)) ∧ Below p.W.heap.size p.W w' := fun p => get_any _ x _ p.W (hx5.out _ (hBr.trans (p.h.mono hBr.size))) (by omega)
            have hH : ∀ p : Bel wr, Calls Try.prog 9 #[.slice bv b.length dv, .string (a.getD j lb0).name] p.W fun e w' => e = .returned (.string (getL b (a.getD j lb0).name)) ∧ Below p.W.heap.size p.W w' := fun p => get_any _ b _ p.W (huk.out _ (Br.trans (p.h.mono Br.size))) (by omega)
            by_cases hg0 : getL b (a.getD j lb0).name = ⟨#[]⟩
            · have hgt := hget.out.2 _ (getD_mem a lb0 j hlt2) (hemp.out _ hg0)
              rw [hgt] at hG
              rw [hg0] at hH
              clear hgt hg0 x0 x1
              generalize a.getD j lb0 = y at *
              obtain ⟨n, s⟩ := y
              simp only at c0 c1 hG hH
              go_wp2
              refine wp_region_bel (by kernel_rfl) (by kernel_rfl) ?_
              repeat (go_big_quiet_step ((first | (go_at_call 9; first | with_reducible exact Calls.bel (hG _) | with_reducible exact Calls.bel (hH _)))))
              refine wpQuiet_nil ?_
              rintro wq ⟨⟨_, hq⟩, rfl⟩
              go_wp2
              refine ⟨⟨j + 1, by omega, by go_num, hBr.trans (hq.mono hBr.size)⟩, ?_⟩
              simp [intOf]; omega
            · obtain ⟨n1, n2⟩ := bytes_ne hg0
              clear hg0 x0 x1 hG
              generalize getL b (a.getD j lb0).name = G at *
              generalize a.getD j lb0 = y at *
              obtain ⟨n, s⟩ := y
              simp only at c0 c1 hH
              go_wp2
              refine wp_region_bel (by kernel_rfl) (by kernel_rfl) ?_
              repeat (go_big_quiet_step ((first | (go_at_call 9; exact Calls.bel (hH _)))))
              refine wpQuiet_nil ?_
              rintro wq ⟨⟨_, hq⟩, rfl⟩
              go_wp2
              refine ⟨⟨j + 1, by omega, by go_num, hBr.trans (hq.mono hBr.size)⟩, ?_⟩
              simp [intOf]; omega
          · obtain rfl : j = a.length := by omega
            have hji : ¬ (a.length : Int) < (a.length : Int) := by omega
            have hxi : (x.length : Int) ≤ (a.length : Int) + (b.length : Int) := by omega
            go_wp2_with fail
            refine (with_any _ _ x b wr (hx5.out _ hBr) (huk.out _ Br) (by omega) (by omega) hxr rb).mono ?_
            rintro e w6 ⟨z6, o6, e6, rfl, hq6, ho6, hb6⟩
            obtain ⟨rfl, ho⟩ := hagain.out _ _ hq6
            subst o6
            have g6 := hBr.trans (hb6.mono hBr.size)
            have l6 := ho6.sls
            clear hq6 ho6
            have hse := set_any _ x w6 (hx5.out _ g6) hxr (by omega)
            rw [hxB] at hse
            go_wp2_with fail
            refine hse.mono ?_
            rintro e w7 ⟨rfl, hb7⟩
            have g7 := g6.trans (hb7.mono g6.size)
            go_wp2_with (first | (go_at_call 7; refine (hn0 _).mono ?_; rintro e wx ⟨rfl, hwx⟩; subst wx))
            refine (same_any _ z6 x x w7 (hx5.out _ g7) (l6.grow hb7) (by omega) (by omega)).mono ?_
            rintro e w8 ⟨B, rfl, hBB, hb8⟩
            obtain rfl : B = true := hBB.2 rfl
            have g8 := g7.trans (hb8.mono g7.size)
            have B8 := B5.trans (g8.mono B5.size)
            clear hBB
            go_wp2_with (first | (go_at_call 5; refine (hlive _).mono ?_; rintro e w9 ⟨rfl, hb9⟩))
            go_ret
            exact ⟨rfl, B8.trans (hb9.mono B8.size)⟩
theorem walk (v : Value) (a : List Lb) (u : Value) (b : List Lb) (w : World) (hv : Lbs w v a) (hr : LbsR a) (hL : a.length ≤ reachBytes) (hu : Lbs w u b) (hm : LbsR b) (hM : b.length ≤ reachBytes) :
    Calls Try.prog 3 #[v, u] w fun e w' => e = .returned (.bool true) ∧ Below w.heap.size w w' := by
  unfold reachBytes at hL hM
  cases h1 : setB a with
  | false => exact walk_out v a u b w hv hr hL hu hm hM (.inl h1)
  | true =>
    cases h2 : setB b with
    | false => exact walk_out v a u b w hv hr hL hu hm hM (.inr ⟨h1, h2⟩)
    | true => exact walk_in v a u b w hv hu h1 h2
/-! ### THE ROW's STEP -/
set_option maxRecDepth 100000 in
theorem lifted (os : Os) (started : os.Started) (H : Type) (enc : TypeId × Value → H) :
    ReturnsInHanded {} Try.checked os 3 .any (Rows.labelsOverSpec.pre6 enc Try.prog Try.f3 Rows.labelsOverRow.domain false) (Rows.labelsOverSpec.post enc Try.prog Try.f3 false true false false) := by
  refine returnsInHanded_of_change_sized (C := Try.checked) own started (by kernel_rfl) Try.func3
    (ChangeSpec.witness6 (enc := enc) (C := Try.checked) false ⟨#[], #[.slice none 0 0, .slice none 0 0], []⟩ 8 (by kernel_rfl) (by kernel_rfl) (by kernel_rfl) (by kernel_rfl)) ?_
  intro W base args ds gs before hval0 hW hcnd hsz0 _
  have hsz : (DataW.weightsEach Try.prog (Try.f3.params.toList ++ Rows.labelsOverSpec.plain.varTypes Try.prog) (ds ++ gs)).all (· ≤ reachBytes) = true := hsz0
  have hval : ∀ (j : Nat) t v, Try.f3.params[j]? = some t → args[j]? = some v → Value.okWide Try.prog W .any base t v := hval0
  have hW' := hW
  obtain ⟨p, q, hA0, hV, rfl, hfz, hnd⟩ := hW
  have hA : DataW.TrodAll enc Try.prog W 0 (fun _ => true) true Try.f3.params.toList args.toList ds p := hA0
  rw [Try.params3] at hA hval hsz
  obtain ⟨v0, vs0, d0, ds0, p0, q0, hargs, rfl, rfl, h0, r0⟩ := trodAll_cons hA
  obtain ⟨v1, vs1, d1, ds1, p1, q1, rfl, rfl, rfl, h1, r1⟩ := trodAll_cons r0
  obtain ⟨rfl, rfl, rfl⟩ := trodAll_nil r1
  obtain rfl : args = #[v0, v1] := by cases args; simp_all
  obtain ⟨rfl, rfl⟩ := trodVars_none hV
  have k0 := h0
  have lt0 : ∀ x ∈ p0, x.block < W.heap.size := by obtain ⟨m, hm⟩ := k0; exact DataW.trod_lt m _ _ _ hm
  obtain ⟨a0, n0, c0, rfl⟩ := okWide_slice Try.underlying22 (hval 0 22 v0 rfl rfl)
  obtain ⟨l0, hP0, hR0, hL0⟩ : ∃ l, Lbs W (.slice a0 n0 c0) l ∧ LbsR l ∧ l.length ≤ reachBytes := by
    obtain ⟨fuel, hf⟩ := h0
    refine lbs_of_trod hf (fun q hq => ?_)
    have := List.all_eq_true.1 hsz _ (DataW.weights_mem_each (j := 0) (t := 22) rfl rfl q hq)
    simpa using this
  have k1 := h1
  have lt1 : ∀ x ∈ p1, x.block < W.heap.size := by obtain ⟨m, hm⟩ := k1; exact DataW.trod_lt m _ _ _ hm
  obtain ⟨a1, n1, c1, rfl⟩ := okWide_slice Try.underlying22 (hval 1 22 v1 rfl rfl)
  obtain ⟨l1, hP1, hR1, hL1⟩ : ∃ l, Lbs W (.slice a1 n1 c1) l ∧ LbsR l ∧ l.length ≤ reachBytes := by
    obtain ⟨fuel, hf⟩ := h1
    refine lbs_of_trod hf (fun q hq => ?_)
    have := List.all_eq_true.1 hsz _ (DataW.weights_mem_each (j := 1) (t := 22) rfl rfl q hq)
    simpa using this
  clear hA0 hval0
  refine (walk (.slice a0 n0 c0) l0 (.slice a1 n1 c1) l1 W hP0 hR0 hL0 hP1 hR1 hL1).mono fun e W' ⟨he, bel⟩ => ?_
  subst he
  exact ⟨_, rfl, _, _, _, [], _, [], hW', trodAll_mk1 (shut_bool Try.underlying4 _), (trodAll_cons_mk (Below.trod laidOut (by kernel_rfl) (of_decide_eq_true (by kernel_rfl)) k0 bel lt0) (trodAll_cons_mk (Below.trod laidOut (by kernel_rfl) (of_decide_eq_true (by kernel_rfl)) k1 bel lt1) trodAll_mk0)), rfl, bel.frame _, fun h => by cases h⟩
theorem over : Rows.labelsOverRow.holds Try.pinned (OpenSpec.ofChange Rows.labelsOverSpec) :=
  OpenClaim.holds_of_wide 3 Try.f3 rfl rfl rfl rfl rfl rfl rfl ⟨rfl, rfl, rfl, rfl, rfl⟩ rfl rfl rfl rfl rfl (by kernel_rfl) Try.func3 (by kernel_rfl)
    (of_decide_eq_true (by kernel_rfl)) (by unfold Func.isWrapper; first | (rw [if_pos (by decide +kernel)]; kernel_rfl) | (rw [if_neg (by decide +kernel)]; exact ⟨rfl, rfl⟩))
    (fun os started H enc _ => lifted os started H enc)
end Go.Proofs.Ytckchabcnmkbeab.labelsOver
namespace Go.Proofs.Ytckchabcnmkbeab
/-- The statement. -/
theorem labelsOver_holds : Rows.LabelsOverSaid := labelsOver.over
#print axioms labelsOver_holds
end Go.Proofs.Ytckchabcnmkbeab
