/-
  at the time that is told something is due, and at none ahead of it (from now on).
-/
import Derived.Test.YtnbhnnjgnojgbaaRows
import Derived.WalkKit
import Derived.ProofKit
import Derived.OpenShut
import Derived.ShutString
import Derived.ChangeOld
import Derived.Below
import Derived.SizedLaws
import Derived.Test.YtnbhnnjgnojgbaaWm
namespace Go.Proofs.Ytnbhnnjgnojgbaa.schedWakes
open Go.ChangeShapes Go.WideShapes Go.ChangeAt Go.RowKit
open Go.ChangeMaps (open_string shut_string)
set_option linter.unusedVariables false
theorem own : ownKnob Try.prog.godebug = none := by kernel_rfl
theorem laidOut : laidOutB Try.prog = true := by kernel_rfl
set_option maxRecDepth 100000 in
set_option maxHeartbeats 4000000 in
theorem walk (now : Int) (v : Value) (l : List Jb) (w : World) (hnow : I64 now) (hv : Jbs w v l) (hj : ∀ p ∈ l, JobIn p) (hll : l.length ≤ 1954687338211) :
    Calls Try.prog 5 #[.int .i64 now, v] w fun e w' => e = .returned (.bool true) ∧ Below w.heap.size w w' := by
  obtain ⟨va, vc, rfl⟩ := hv.shape
  have hL : Hid (∀ W, Calls Try.prog 8 #[] W fun e w' => e = .returned (.bool true) ∧ Below W.heap.size W w') := fun W => live8 W
  have hsm := small7 _ l now w hv (JobIn.sz hj)
  cases h0 : smB l now with
  | false =>
    rw [h0] at hsm
    go_enter Try.func5, Try.ntmps5
    go_wp2_with (first
      | (go_at_call 7; refine hsm.mono ?_; rintro e w2 ⟨rfl, hb2⟩)
      | (go_at_call 8; refine (hL.out _).mono ?_; rintro e w3 ⟨rfl, hb3⟩))
    go_ret
    exact ⟨rfl, hb2.trans (hb3.mono hb2.size)⟩
  | true =>
    rw [h0] at hsm
    obtain ⟨hl60, hok, _, n0, _⟩ := smB_yes h0
    by_cases h1 : (549755813888 : Int) < now
    · go_enter Try.func5, Try.ntmps5
      go_wp2_with (first
        | (go_at_call 7; refine hsm.mono ?_; rintro e w2 ⟨rfl, hb2⟩)
        | (go_at_call 8; refine (hL.out _).mono ?_; rintro e w3 ⟨rfl, hb3⟩))
      go_ret
      exact ⟨rfl, hb2.trans (hb3.mono hb2.size)⟩
    · have hwk : Hid (∀ W, Below w.heap.size w W → _) := fun W hW => wake13 (.slice va l.length vc) l now W (Sls.grow hv hW) hok (by omega) (by omega) (by omega)
      have hall := wk_all now l
      have hwd := fun h => wk_due (now := now) hok n0 (by omega) h
      have hdue : Hid (∀ (t : Int) W, Below w.heap.size w W → -1 ≤ t → t ≤ 4398046511104 → Calls Try.prog 16 #[.int .i64 t, .slice va l.length vc] W fun e w' => ∃ a c, e = .returned (.slice a (dueL t l).length c) ∧ Below W.heap.size W w') := fun t W hW z1 z2 => by
        refine (due16 _ l t W (Sls.grow hv hW) hok (by omega) z1 z2).mono ?_
        rintro e w' ⟨y, rfl, hO, hB⟩
        obtain ⟨a, c, rfl⟩ := hO.shape
        rw [stbF_len]
        exact ⟨a, c, rfl, hB⟩
      generalize wkF now l = r at *
      obtain ⟨t, ok⟩ := r
      simp only at hall hwd hwk
      cases ok with
      | false =>
        obtain ⟨ht0, hpa⟩ := hall.1 rfl
        subst ht0
        clear hwd hdue hall
        go_enter Try.func5, Try.ntmps5
        go_upto_region 4 with (first
          | (go_at_call 7; refine hsm.mono ?_; rintro e w2 ⟨rfl, hb2⟩; have hw2 := hwk.out w2 hb2)
          | (go_at_call 13; refine hw2.mono ?_; rintro e w3 ⟨rfl, hb3⟩))
        have hB3 : Hid (Below w.heap.size w w3) := hb2.trans (hb3.mono hb2.size)
        clear hb2 hb3 hw2 hwk hsm
        go_wp2
        go_loopw [7] (fun iv wr => ∃ k : Nat, k ≤ l.length ∧ iv = .int .i64 k ∧ Hid (Below w.heap.size w wr)) (fun iv _ => l.length - (intOf iv).toNat)
        case atStart => exact ⟨0, Nat.zero_le _, rfl, hB3.out⟩
        case round =>
          obtain ⟨k, hk, rfl, hB⟩ := hrel
          by_cases hlt : k < l.length
          · have hki : (k : Int) < (l.length : Int) := by omega
            obtain ⟨b, o, rfl, hat⟩ := jb_at (Sls.grow hv hB.out) k hlt
            obtain ⟨y0, y1, y2, y3, y4, y5, y6⟩ := at_jb hat
            have hp := hpa _ (getD_mem l jb0 k hlt)
            rw [hp] at y5
            clear hat y0 y1 y2 y3 y4 y6
            go_wp2
            refine ⟨⟨k + 1, by omega, by go_num, hB.out⟩, by simp [intOf]; omega⟩
          · obtain rfl : k = l.length := by omega
            have hki : ¬ (l.length : Int) < (l.length : Int) := by omega
            go_wp2_with (go_at_call 8; refine (hL.out _).mono ?_; rintro e w1 ⟨rfl, hb1⟩)
            go_ret
            exact ⟨rfl, hB.out.trans (hb1.mono hB.out.size)⟩
      | true =>
        obtain ⟨t1, t2, t3, t4⟩ := hwd rfl
        have t5 : ¬ t < now := by omega
        have d1 := fun W hW => hdue.out t W hW (by omega) (by omega)
        have w1 : IntKind.i64.wrap (t - 1) = t - 1 := Go.IntWalk.i64_in _ (by omega)
        have d2 := fun W hW => hdue.out (t - 1) W hW (by omega) (by omega)
        clear hall hwd hdue
        by_cases he : t = now
        · subst he
          obtain ⟨m, hm⟩ : ∃ m, m = (dueL t l).length := ⟨_, rfl⟩
          rw [← hm] at d1 t3
          clear hm d2 t4
          have e1 : ((m : Int) == 0) = false := by simp; omega
          have e2 : ¬ (m : Int) = 0 := by omega
          replace d1 : Hid _ := d1
          go_enter Try.func5, Try.ntmps5
          go_wp2_with (first
            | (go_at_call 7; refine hsm.mono ?_; rintro e w2 ⟨rfl, hb2⟩; have hw2 := hwk.out w2 hb2)
            | (go_at_call 13; refine hw2.mono ?_; rintro e w3 ⟨rfl, hb3⟩; have hB3 : Below w.heap.size w w3 := hb2.trans (hb3.mono hb2.size); have hd3 := d1.out w3 hB3)
            | (go_at_call 16; refine hd3.mono ?_; rintro e w4 ⟨a4, c4, rfl, hb4⟩; have hB4 : Below w.heap.size w w4 := hB3.trans (hb4.mono hB3.size))
            | (go_at_call 8; refine (hL.out _).mono ?_; rintro e w5 ⟨rfl, hb5⟩))
          go_ret
          exact ⟨rfl, hB4.trans (hb5.mono hB4.size)⟩
        · have hz := t4 (by omega)
          rw [hz] at d2
          obtain ⟨m, hm⟩ : ∃ m, m = (dueL t l).length := ⟨_, rfl⟩
          rw [← hm] at d1 t3
          clear hm hz t4
          have e1 : ((m : Int) == 0) = false := by simp; omega
          have e2 : ¬ (m : Int) = 0 := by omega
          have e3 : (t == now) = false := by simpa using he
          replace d1 : Hid _ := d1
          replace d2 : Hid _ := d2
          go_enter Try.func5, Try.ntmps5
          go_wp2_with (first
            | (go_at_call 7; refine hsm.mono ?_; rintro e w2 ⟨rfl, hb2⟩; have hw2 := hwk.out w2 hb2)
            | (go_at_call 13; refine hw2.mono ?_; rintro e w3 ⟨rfl, hb3⟩; have hB3 : Below w.heap.size w w3 := hb2.trans (hb3.mono hb2.size); have hd3 := d1.out w3 hB3)
            | (go_at_call 16; refine hd4.mono ?_; rintro e w6 ⟨a6, c6, rfl, hb6⟩; have hB6 : Below w.heap.size w w6 := hB4.trans (hb6.mono hB4.size))
            | (go_at_call 16; refine hd3.mono ?_; rintro e w4 ⟨a4, c4, rfl, hb4⟩; have hB4 : Below w.heap.size w w4 := hB3.trans (hb4.mono hB3.size); have hd4 := d2.out w4 hB4)
            | (go_at_call 8; refine (hL.out _).mono ?_; rintro e w5 ⟨rfl, hb5⟩))
          go_ret
          exact ⟨rfl, hB6.trans (hb5.mono hB6.size)⟩
/-! ### THE ROW's STEP -/
set_option maxRecDepth 100000 in
theorem lifted (os : Os) (started : os.Started) (H : Type) (enc : TypeId × Value → H) :
    ReturnsInHanded {} Try.checked os 5 .any (Rows.schedWakesSpec.pre6 enc Try.prog Try.f5 Rows.schedWakesRow.domain false) (Rows.schedWakesSpec.post enc Try.prog Try.f5 false true false false) := by
  refine returnsInHanded_of_change_sized (C := Try.checked) own started (by kernel_rfl) Try.func5
    (ChangeSpec.witness6 (enc := enc) (C := Try.checked) false ⟨#[], #[.int .i64 0, .slice none 0 0], []⟩ 8 (by kernel_rfl) (by kernel_rfl) (by kernel_rfl) (by kernel_rfl)) ?_
  intro W base args ds gs before hval0 hW hcnd hsz0 _
  have hsz : (DataW.weightsEach Try.prog (Try.f5.params.toList ++ Rows.schedWakesSpec.plain.varTypes Try.prog) (ds ++ gs)).all (· ≤ reachBytes) = true := hsz0
  have hval : ∀ (j : Nat) t v, Try.f5.params[j]? = some t → args[j]? = some v → Value.okWide Try.prog W .any base t v := hval0
  have hW' := hW
  obtain ⟨p, q, hA0, hV, rfl, hfz, hnd⟩ := hW
  have hA : DataW.TrodAll enc Try.prog W 0 (fun _ => true) true Try.f5.params.toList args.toList ds p := hA0
  rw [Try.params5] at hA hval hsz
  obtain ⟨v0, vs0, d0, ds0, p0, q0, hargs, rfl, rfl, h0, r0⟩ := trodAll_cons hA
  obtain ⟨v1, vs1, d1, ds1, p1, q1, rfl, rfl, rfl, h1, r1⟩ := trodAll_cons r0
  obtain ⟨rfl, rfl, rfl⟩ := trodAll_nil r1
  obtain rfl : args = #[v0, v1] := by cases args; simp_all
  obtain ⟨rfl, rfl⟩ := trodVars_none hV
  obtain ⟨x0, rfl, rfl, rfl, w0⟩ := open_int Try.underlying2 (hval 0 2 v0 rfl rfl) h0
  have k1 := h1
  have lt1 : ∀ x ∈ p1, x.block < W.heap.size := by obtain ⟨m, hm⟩ := k1; exact DataW.trod_lt m _ _ _ hm
  obtain ⟨a1, n1, c1, rfl⟩ := okWide_slice Try.underlying22 (hval 1 22 v1 rfl rfl)
  obtain ⟨l1, hP1, hR1, hL1⟩ : ∃ l, Jbs W (.slice a1 n1 c1) l ∧ (∀ p ∈ l, JobIn p) ∧ l.length ≤ 1954687338211 := by
    obtain ⟨fuel, hf⟩ := h1
    refine jobs_of_trod hf (fun q hq => ?_)
    have := List.all_eq_true.1 hsz _ (DataW.weights_mem_each (j := 1) (t := 22) rfl rfl q hq)
    simpa using this
  clear hA0 hval0
  refine (walk x0 (.slice a1 n1 c1) l1 W (in64_of w0) hP1 hR1 hL1).mono fun e W' ⟨he, bel⟩ => ?_
  subst he
  exact ⟨_, rfl, _, _, _, [], _, [], hW', trodAll_mk1 (shut_bool Try.underlying4 _), (trodAll_cons_mk (shut_int Try.underlying2 w0) (trodAll_cons_mk (Below.trod laidOut (by kernel_rfl) (of_decide_eq_true (by kernel_rfl)) k1 bel lt1) trodAll_mk0)), rfl, bel.frame _, fun h => by cases h⟩
theorem over : Rows.schedWakesRow.holds Try.pinned (OpenSpec.ofChange Rows.schedWakesSpec) :=
  OpenClaim.holds_of_wide 5 Try.f5 rfl rfl rfl rfl rfl rfl rfl ⟨rfl, rfl, rfl, rfl, rfl⟩ rfl rfl rfl rfl rfl (by kernel_rfl) Try.func5 (by kernel_rfl)
    (of_decide_eq_true (by kernel_rfl)) (by unfold Func.isWrapper; first | (rw [if_pos (by decide +kernel)]; kernel_rfl) | (rw [if_neg (by decide +kernel)]; exact ⟨rfl, rfl⟩))
    (fun os started H enc _ => lifted os started H enc)
end Go.Proofs.Ytnbhnnjgnojgbaa.schedWakes
namespace Go.Proofs.Ytnbhnnjgnojgbaa
/-- The statement. -/
theorem schedWakes_holds : Rows.SchedWakesSaid := schedWakes.over
#print axioms schedWakes_holds
end Go.Proofs.Ytnbhnnjgnojgbaa
