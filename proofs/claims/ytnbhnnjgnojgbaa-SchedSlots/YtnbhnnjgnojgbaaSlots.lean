/-
  a moment begins each slot; the next one is an interval behind.
-/
import Derived.Test.YtnbhnnjgnojgbaaRows
import Derived.WalkKit
import Derived.ProofKit
import Derived.OpenShut
import Derived.ShutString
import Derived.ChangeOld
import Derived.Below
import Derived.SizedLaws
import Derived.Test.YtnbhnnjgnojgbaaAr
namespace Go.Proofs.Ytnbhnnjgnojgbaa.schedSlots
open Go.ChangeShapes Go.WideShapes Go.ChangeAt Go.RowKit
open Go.ChangeMaps (open_string shut_string)
set_option linter.unusedVariables false
theorem own : ownKnob Try.prog.godebug = none := by kernel_rfl
theorem laidOut : laidOutB Try.prog = true := by kernel_rfl
theorem slots_math {j : Jb} (h : Ok j) {t : Int} (h0 : 0 ≤ t) (h1 : t ≤ 549755813888) : t < nextF j t ∧ slotF j (nextF j t) = slotF j t + 1 ∧ slotF j (nextF j t - 1) = slotF j t ∧ nextF j (nextF j t) = nextF j t + j.iv ∧ slotF j (nextF j t + j.iv) = slotF j t + 2 ∧ (0 ≤ slotF j t ∨ t < j.off) := by
  have hn := nextF_in h (show -1 ≤ t by omega) (by omega)
  have hs := slotF_next h (show -1 ≤ t by omega) (by omega)
  have ha := slotF_at h (show -1 ≤ t by omega)
  have hi := slotF_in h (show -1 ≤ t by omega) (by omega)
  have hiv : 1 ≤ j.iv ∧ j.iv ≤ 86400 ∧ 0 ≤ j.off ∧ j.off < j.iv := ⟨h.1, h.2.1, h.2.2.1, h.2.2.2.1⟩
  have e1 : (slotF j t + 1) * j.iv = slotF j t * j.iv + j.iv := by rw [Int.add_mul]; omega
  have e2 : (slotF j t + 2) * j.iv = slotF j t * j.iv + 2 * j.iv := by rw [Int.add_mul]
  have e3 : (slotF j t + 2 + 1) * j.iv = slotF j t * j.iv + 3 * j.iv := by rw [Int.add_mul, Int.add_mul]; omega
  have hnf : nextF j t = j.off + (slotF j t + 1) * j.iv := rfl
  refine ⟨hn.1, hs, ?_, ?_, ?_, ?_⟩
  · by_cases hc : t < j.off
    · have hm : slotF j t = -1 := by unfold slotF; rw [if_pos (Or.inl hc)]
      have : nextF j t = j.off := by rw [hnf, hm]; simp
      rw [hm, this]
      unfold slotF
      rw [if_pos (Or.inl (by omega))]
    · have := ha.1 (by omega)
      refine slotF_of h this.2 (by omega) (by omega)
  · show j.off + (slotF j (nextF j t) + 1) * j.iv = _
    rw [hs, hnf, show slotF j t + 1 + 1 = slotF j t + 2 by omega]
    omega
  · refine slotF_of h (by omega) (by omega) (by omega)
  · by_cases hc : t < j.off
    · exact .inr hc
    · exact .inl (ha.1 (by omega)).2
set_option maxRecDepth 100000 in
set_option maxHeartbeats 4000000 in
theorem walk (j : Jb) (now : Int) (w : World) (hj : JobIn j) (hnow : I64 now) :
    Calls Try.prog 6 #[encJ j, .int .i64 now] w fun e w' => e = .returned (.bool true) ∧ Below w.heap.size w w' := by
  obtain ⟨W1, hW1⟩ : ∃ W1, W1 = w.alloc (.cells #[.string j.fo, .string j.gr, .int .i64 j.id, .int .i64 j.iv, .int .i64 j.off, .bool j.pa, .int .i64 j.la] 27) := ⟨_, rfl⟩
  have hb0 : Hid (Below w.heap.size w W1) := by rw [hW1]; exact (Below.refl _ w).alloc (Nat.le_refl _) _
  have hJ : JAt W1 w.heap.size j := by rw [hW1]; exact jNew w j
  have hL := fun W => live8 W
  have hsm : ∀ W, Calls Try.prog 7 #[.slice (some ⟨W.heap.size, 0, none⟩) 1 1, .int .i64 now] (W.alloc (jO j)) fun e w' => e = .returned (.bool (smB [j] now)) ∧ Below W.heap.size W w' := fun W => by
    have hb : Below W.heap.size W (W.alloc (jO j)) := (Below.refl _ W).alloc (Nat.le_refl _) _
    refine (small7 _ [j] now _ (jbs_one W j) (JobIn.sz (by simpa using hj))).mono ?_
    rintro e w' ⟨rfl, hB⟩
    exact ⟨rfl, hb.trans (hB.mono hb.size)⟩
  unfold jO at hsm
  have c := fun W (hW : Below W1.heap.size W1 W) => (hJ.grow hW).cells
  have hB0 : Below W1.heap.size W1 W1 := Below.refl _ _
  obtain ⟨j0, j1, j2, j3, j4, j5, j6⟩ := c W1 hB0
  have hs1 := hsm W1
  by_cases h0 : smB [j] now = true
  · by_cases hg : (549755813888 : Int) < now
    · unfold encJ
      go_enter Try.func6, Try.ntmps6
      go_upto_region 1 with fail
      rw [← hW1]
      clear hW1
      rw [h0] at hs1
      go_wp2_with (first
        | (go_at_call 7; refine hs1.mono ?_; rintro e w2 ⟨rfl, hb2⟩; replace hB0 := hB0.trans (hb2.mono hB0.size))
        | (go_at_call 8; refine (hL _).mono ?_; rintro e w3 ⟨rfl, hb3⟩; replace hB0 := hB0.trans (hb3.mono hB0.size)))
      go_ret
      exact ⟨rfl, hb0.out.trans (hB0.mono hb0.out.size)⟩
    · obtain ⟨_, hok, _, n0, _⟩ := smB_yes h0
      have hoj : Ok j := hok j (by simp)
      have hm := slots_math hoj n0 (by omega)
      have hnx := nextF_in hoj (show -1 ≤ now by omega) (by omega)
      have hsi := slotF_in hoj (show -1 ≤ now by omega) (by omega)
      have ho := hoj
      unfold Ok at ho
      have hN1 := fun W => next11 j now W hoj (by omega) (by omega)
      have hS1 := fun W => slot9 j now W hoj (by omega) (by omega)
      have hS2 := fun W => slot9 j (nextF j now) W hoj (by omega) (by omega)
      have hS3 := fun W => slot9 j (nextF j now - 1) W hoj (by omega) (by omega)
      have hN2 := fun W => next11 j (nextF j now) W hoj (by omega) (by omega)
      have hS4 := fun W => slot9 j (nextF j now + j.iv) W hoj (by omega) (by omega)
      obtain ⟨m1, m2, m3, m4, m5, m6⟩ := hm
      rw [m2] at hS2
      rw [m3] at hS3
      rw [m4] at hN2
      rw [m5] at hS4
      generalize nextF j now = n at *
      generalize slotF j now = s at *
      unfold encJ at *
      have w1 : IntKind.i64.wrap (s + 1) = s + 1 := Go.IntWalk.i64_in _ (by omega)
      have w2 : IntKind.i64.wrap (s + 2) = s + 2 := Go.IntWalk.i64_in _ (by omega)
      have w3 : IntKind.i64.wrap (n - 1) = n - 1 := Go.IntWalk.i64_in _ (by omega)
      have w4 : IntKind.i64.wrap (n + j.iv) = n + j.iv := Go.IntWalk.i64_in _ (by omega)
      have e1 : (n == n) = true := by simp
      go_enter Try.func6, Try.ntmps6
      go_upto_region 1 with fail
      rw [← hW1]
      clear hW1
      rw [h0] at hs1
      clear ho hoj hok hsi hnx h0 m2 m3 m4 m5 hj hnow hsm
      go_upto_region 5 with (first
        | (go_at_call 7; refine hs1.mono ?_; rintro e w2 ⟨rfl, hb2⟩; replace hB0 := hB0.trans (hb2.mono hB0.size); obtain ⟨j0, j1, j2, j3, j4, j5, j6⟩ := c _ hB0)
        | (go_at_call 11; with_reducible refine (hN1 _).mono ?_; rintro e w3 ⟨rfl, hb3⟩; replace hB0 := hB0.trans (hb3.mono hB0.size); obtain ⟨j0, j1, j2, j3, j4, j5, j6⟩ := c _ hB0)
        | (go_at_call 9; with_reducible refine (hS1 _).mono ?_; rintro e w4 ⟨rfl, hb4⟩; replace hB0 := hB0.trans (hb4.mono hB0.size); obtain ⟨j0, j1, j2, j3, j4, j5, j6⟩ := c _ hB0))
      have c0 : ∀ p : Bel w4, p.W.cell? ⟨w.heap.size, 0, none⟩ = some (.string j.fo) := fun p => (c _ (hB0.trans (p.h.mono hB0.size))).1
      have c1 : ∀ p : Bel w4, p.W.cell? ⟨w.heap.size, 1, none⟩ = some (.string j.gr) := fun p => (c _ (hB0.trans (p.h.mono hB0.size))).2.1
      have c2 : ∀ p : Bel w4, p.W.cell? ⟨w.heap.size, 2, none⟩ = some (.int .i64 j.id) := fun p => (c _ (hB0.trans (p.h.mono hB0.size))).2.2.1
      have c3 : ∀ p : Bel w4, p.W.cell? ⟨w.heap.size, 3, none⟩ = some (.int .i64 j.iv) := fun p => (c _ (hB0.trans (p.h.mono hB0.size))).2.2.2.1
      have c4 : ∀ p : Bel w4, p.W.cell? ⟨w.heap.size, 4, none⟩ = some (.int .i64 j.off) := fun p => (c _ (hB0.trans (p.h.mono hB0.size))).2.2.2.2.1
      have c5 : ∀ p : Bel w4, p.W.cell? ⟨w.heap.size, 5, none⟩ = some (.bool j.pa) := fun p => (c _ (hB0.trans (p.h.mono hB0.size))).2.2.2.2.2.1
      have c6 : ∀ p : Bel w4, p.W.cell? ⟨w.heap.size, 6, none⟩ = some (.int .i64 j.la) := fun p => (c _ (hB0.trans (p.h.mono hB0.size))).2.2.2.2.2.2
      have k9a : ∀ p : Bel w4, _ := fun p => hS2 p.W
      have k9b : ∀ p : Bel w4, _ := fun p => hS3 p.W
      have k9c : ∀ p : Bel w4, _ := fun p => hS4 p.W
      have k11 : ∀ p : Bel w4, _ := fun p => hN2 p.W
      have k8 : ∀ p : Bel w4, _ := fun p => hL p.W
      clear j0 j1 j2 j3 j4 j5 j6
      have d1 : decide (now < n) = true := decide_eq_true m1
      by_cases hsp : 0 ≤ s
      · have d2 : decide (0 ≤ s) = true := decide_eq_true hsp
        refine wp_region_bel (by kernel_rfl) (by kernel_rfl) ?_
        repeat (go_big_quiet_step (first | (go_at_call 9; with_reducible exact Calls.bel (k9a _)) | (go_at_call 9; with_reducible exact Calls.bel (k9b _)) | (go_at_call 9; with_reducible exact Calls.bel (k9c _)) | (go_at_call 11; with_reducible exact Calls.bel (k11 _)) | (go_at_call 8; exact Calls.bel (k8 _))))
        refine wpQuiet_nil ?_
        rintro wq ⟨⟨wz, hq⟩, rfl⟩
        go_wp2
        go_ret
        exact ⟨rfl, hb0.out.trans ((hB0.trans (hq.mono hB0.size)).mono hb0.out.size)⟩
      · have d2 : decide (0 ≤ s) = false := decide_eq_false hsp
        have d3 : decide (now < j.off) = true := decide_eq_true (m6.resolve_left hsp)
        refine wp_region_bel (by kernel_rfl) (by kernel_rfl) ?_
        repeat (go_big_quiet_step (first | (go_at_call 9; with_reducible exact Calls.bel (k9a _)) | (go_at_call 9; with_reducible exact Calls.bel (k9b _)) | (go_at_call 9; with_reducible exact Calls.bel (k9c _)) | (go_at_call 11; with_reducible exact Calls.bel (k11 _)) | (go_at_call 8; exact Calls.bel (k8 _))))
        refine wpQuiet_nil ?_
        rintro wq ⟨⟨wz, hq⟩, rfl⟩
        go_wp2
        go_ret
        exact ⟨rfl, hb0.out.trans ((hB0.trans (hq.mono hB0.size)).mono hb0.out.size)⟩
  · have h0' : smB [j] now = false := by simpa using h0
    unfold encJ
    go_enter Try.func6, Try.ntmps6
    go_upto_region 1 with fail
    rw [← hW1]
    clear hW1
    rw [h0'] at hs1
    go_wp2_with (first
      | (go_at_call 7; refine hs1.mono ?_; rintro e w2 ⟨rfl, hb2⟩; replace hB0 := hB0.trans (hb2.mono hB0.size))
      | (go_at_call 8; refine (hL _).mono ?_; rintro e w3 ⟨rfl, hb3⟩; replace hB0 := hB0.trans (hb3.mono hB0.size)))
    go_ret
    exact ⟨rfl, hb0.out.trans (hB0.mono hb0.out.size)⟩
/-! ### THE ROW's STEP -/
set_option maxRecDepth 100000 in
theorem lifted (os : Os) (started : os.Started) (H : Type) (enc : TypeId × Value → H) :
    ReturnsInHanded {} Try.checked os 6 .any (Rows.schedSlotsSpec.pre6 enc Try.prog Try.f6 Rows.schedSlotsRow.domain false) (Rows.schedSlotsSpec.post enc Try.prog Try.f6 false true false false) := by
  refine returnsInHanded_of_change_sized (C := Try.checked) own started (by kernel_rfl) Try.func6
    (ChangeSpec.witness6 (enc := enc) (C := Try.checked) false ⟨#[], #[.agg #[.string ⟨#[]⟩, .string ⟨#[]⟩, .int .i64 0, .int .i64 0, .int .i64 0, .bool false, .int .i64 0], .int .i64 0], []⟩ 8 (by kernel_rfl) (by kernel_rfl) (by kernel_rfl) (by kernel_rfl)) ?_
  intro W base args ds gs before hval0 hW hcnd hsz0 _
  have hsz : (DataW.weightsEach Try.prog (Try.f6.params.toList ++ Rows.schedSlotsSpec.plain.varTypes Try.prog) (ds ++ gs)).all (· ≤ reachBytes) = true := hsz0
  have hval : ∀ (j : Nat) t v, Try.f6.params[j]? = some t → args[j]? = some v → Value.okWide Try.prog W .any base t v := hval0
  have hW' := hW
  obtain ⟨p, q, hA0, hV, rfl, hfz, hnd⟩ := hW
  have hA : DataW.TrodAll enc Try.prog W 0 (fun _ => true) true Try.f6.params.toList args.toList ds p := hA0
  rw [Try.params6] at hA hval hsz
  obtain ⟨v0, vs0, d0, ds0, p0, q0, hargs, rfl, rfl, h0, r0⟩ := trodAll_cons hA
  obtain ⟨v1, vs1, d1, ds1, p1, q1, rfl, rfl, rfl, h1, r1⟩ := trodAll_cons r0
  obtain ⟨rfl, rfl, rfl⟩ := trodAll_nil r1
  obtain rfl : args = #[v0, v1] := by cases args; simp_all
  obtain ⟨rfl, rfl⟩ := trodVars_none hV
  have k0 := h0
  have lt0 : ∀ x ∈ p0, x.block < W.heap.size := by obtain ⟨m, hm⟩ := k0; exact DataW.trod_lt m _ _ _ hm
  obtain ⟨m0, rfl, hR0⟩ : ∃ j : Jb, v0 = encJ j ∧ JobIn j := by
    obtain ⟨fuel, hf⟩ := h0
    refine job_arg (hval 0 27 v0 rfl rfl) hf (fun q hq => ?_)
    have := List.all_eq_true.1 hsz _ (DataW.weights_mem_each (j := 0) (t := 27) rfl rfl q hq)
    simpa using this
  obtain ⟨x1, rfl, rfl, rfl, w1⟩ := open_int Try.underlying2 (hval 1 2 v1 rfl rfl) h1
  clear hA0 hval0
  refine (walk m0 x1 W hR0 (in64_of w1)).mono fun e W' ⟨he, bel⟩ => ?_
  subst he
  exact ⟨_, rfl, _, _, _, [], _, [], hW', trodAll_mk1 (shut_bool Try.underlying4 _), (trodAll_cons_mk (Below.trod laidOut (by kernel_rfl) (of_decide_eq_true (by kernel_rfl)) k0 bel lt0) (trodAll_cons_mk (shut_int Try.underlying2 w1) trodAll_mk0)), rfl, bel.frame _, fun h => by cases h⟩
theorem over : Rows.schedSlotsRow.holds Try.pinned (OpenSpec.ofChange Rows.schedSlotsSpec) :=
  OpenClaim.holds_of_wide 6 Try.f6 rfl rfl rfl rfl rfl rfl rfl ⟨rfl, rfl, rfl, rfl, rfl⟩ rfl rfl rfl rfl rfl (by kernel_rfl) Try.func6 (by kernel_rfl)
    (of_decide_eq_true (by kernel_rfl)) (by unfold Func.isWrapper; first | (rw [if_pos (by decide +kernel)]; kernel_rfl) | (rw [if_neg (by decide +kernel)]; exact ⟨rfl, rfl⟩))
    (fun os started H enc _ => lifted os started H enc)
end Go.Proofs.Ytnbhnnjgnojgbaa.schedSlots
namespace Go.Proofs.Ytnbhnnjgnojgbaa
/-- The statement. -/
theorem schedSlots_holds : Rows.SchedSlotsSaid := schedSlots.over
#print axioms schedSlots_holds
end Go.Proofs.Ytnbhnnjgnojgbaa
