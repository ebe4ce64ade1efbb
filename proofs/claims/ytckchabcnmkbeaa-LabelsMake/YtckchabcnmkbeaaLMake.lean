/-
  Proved here: 'klaxonlaw09.LabelsMake' (P9.1, P9.2), called with any list of labels, in any memory, returns true, and its argument reads afterwards as it read before: Make is the document's set of the labels, or the first of its errors. No condition beyond the row's own (each slice and string within the reach that every row states).
-/
import Derived.Test.YtckchabcnmkbeaaRows
import Derived.WalkKit
import Derived.ProofKit
import Derived.OpenShut
import Derived.ShutString
import Derived.ChangeOld
import Derived.Below
import Derived.SizedLaws
import Derived.Test.YtckchabcnmkbeaaRn
namespace Go.Proofs.Ytckchabcnmkbeaa.labelsMake
open Go.ChangeShapes Go.WideShapes Go.ChangeAt Go.RowKit
open Go.ChangeMaps (open_string shut_string)
set_option linter.unusedVariables false
theorem own : ownKnob Try.prog.godebug = none := by kernel_rfl
theorem laidOut : laidOutB Try.prog = true := by kernel_rfl
set_option maxRecDepth 100000 in
set_option maxHeartbeats 4000000 in
theorem walk (v : Value) (l : List Lb) (w : World) (hv : Lbs w v l) (hr : LbsR l) (hL : l.length ≤ reachBytes) :
    Calls Try.prog 3 #[v] w fun e w' => e = .returned (.bool true) ∧ Below w.heap.size w w' := by
  unfold reachBytes at hL
  have hlive := fun W => live_ok W
  have hsm := small_any v l w hv hr (by omega)
  cases hs : smallB l with
  | false =>
    rw [hs] at hsm
    clear hs hv hr
    go_enter Try.func3, Try.ntmps3
    go_wp2_with (first
      | (go_at_call 9; refine hsm.mono ?_; rintro e w1 ⟨rfl, hb1⟩)
      | (go_at_call 10; refine (hlive _).mono ?_; rintro e w2 ⟨rfl, hb2⟩))
    go_ret
    exact ⟨rfl, hb1.trans (hb2.mono hb1.size)⟩
  | true =>
    have hl60 : l.length ≤ 60 := by
      unfold smallB at hs
      exact (of_decide_eq_true hs).1
    rw [hs] at hsm
    clear hs
    have hvk : ∀ W, Below w.heap.size w W → Lbs W v l := fun W h => hv.grow h
    have hnum := fun x (hx : -1000 ≤ x ∧ x ≤ 1000) W => num_any x W (by omega) (by omega)
    clear hv
    go_enter Try.func3, Try.ntmps3
    go_wp2_with fail
    refine hsm.mono ?_
    rintro e w1 ⟨rfl, hb1⟩
    go_wp2_with fail
    refine (own_any v l w1 (hvk _ hb1) (by omega)).mono ?_
    rintro e w2 ⟨u2, rfl, ho2, hb2⟩
    go_wp2_with fail
    refine (make_any u2 l w2 ho2.sls hr (by omega)).mono ?_
    rintro e w3 ⟨u3, out, er, rfl, hq3, ho3, hb3⟩
    have hB2 := hb1.trans (hb2.mono hb1.size)
    have hB3 := hB2.trans (hb3.mono hB2.size)
    go_wp2_with fail
    refine (rmake_any v l w3 (hvk _ hB3) hr (by omega)).mono ?_
    rintro e w4 ⟨u4, out', er', rfl, hq4, ho4, hb4⟩
    obtain ⟨rfl, rfl⟩ := hq4.one hq3
    have hB4 := hB3.trans (hb4.mono hB3.size)
    have hol : out'.length ≤ 1000000000 := by
      have := mk_len hq3
      omega
    have her := mk_er hq3
    go_wp2_with fail
    refine (same_any u3 u4 out' out' w4 (ho3.sls.grow hb4) ho4.sls hol hol).mono ?_
    rintro e w5 ⟨B, rfl, hB, hb5⟩
    obtain rfl : B = true := hB.2 rfl
    have hB5 := hB4.trans (hb5.mono hB4.size)
    go_wp2_with (first
      | (go_at_call 15; refine (hnum _ (by omega) _).mono ?_; rintro e wx ⟨rfl, hwx⟩; subst wx)
      | (go_at_call 10; refine (hlive _).mono ?_; rintro e w6 ⟨rfl, hb6⟩))
    go_ret
    exact ⟨rfl, hB5.trans (hb6.mono hB5.size)⟩
/-! ### THE ROW's STEP -/
set_option maxRecDepth 100000 in
theorem lifted (os : Os) (started : os.Started) (H : Type) (enc : TypeId × Value → H) :
    ReturnsInHanded {} Try.checked os 3 .any (Rows.labelsMakeSpec.pre6 enc Try.prog Try.f3 Rows.labelsMakeRow.domain false) (Rows.labelsMakeSpec.post enc Try.prog Try.f3 false true false false) := by
  refine returnsInHanded_of_change_sized (C := Try.checked) own started (by kernel_rfl) Try.func3
    (ChangeSpec.witness6 (enc := enc) (C := Try.checked) false ⟨#[], #[.slice none 0 0], []⟩ 8 (by kernel_rfl) (by kernel_rfl) (by kernel_rfl) (by kernel_rfl)) ?_
  intro W base args ds gs before hval0 hW hcnd hsz0 _
  have hsz : (DataW.weightsEach Try.prog (Try.f3.params.toList ++ Rows.labelsMakeSpec.plain.varTypes Try.prog) (ds ++ gs)).all (· ≤ reachBytes) = true := hsz0
  have hval : ∀ (j : Nat) t v, Try.f3.params[j]? = some t → args[j]? = some v → Value.okWide Try.prog W .any base t v := hval0
  have hW' := hW
  obtain ⟨p, q, hA0, hV, rfl, hfz, hnd⟩ := hW
  have hA : DataW.TrodAll enc Try.prog W 0 (fun _ => true) true Try.f3.params.toList args.toList ds p := hA0
  rw [Try.params3] at hA hval hsz
  obtain ⟨v0, vs0, d0, ds0, p0, q0, hargs, rfl, rfl, h0, r0⟩ := trodAll_cons hA
  obtain ⟨rfl, rfl, rfl⟩ := trodAll_nil r0
  obtain rfl : args = #[v0] := by cases args; simp_all
  obtain ⟨rfl, rfl⟩ := trodVars_none hV
  have k0 := h0
  have lt0 : ∀ x ∈ p0, x.block < W.heap.size := by obtain ⟨m, hm⟩ := k0; exact DataW.trod_lt m _ _ _ hm
  obtain ⟨a0, n0, c0, rfl⟩ := okWide_slice Try.underlying22 (hval 0 22 v0 rfl rfl)
  obtain ⟨l0, hP0, hR0, hL0⟩ : ∃ l, Lbs W (.slice a0 n0 c0) l ∧ LbsR l ∧ l.length ≤ reachBytes := by
    obtain ⟨fuel, hf⟩ := h0
    refine lbs_of_trod hf (fun q hq => ?_)
    have := List.all_eq_true.1 hsz _ (DataW.weights_mem_each (j := 0) (t := 22) rfl rfl q hq)
    simpa using this
  clear hA0 hval0
  refine (walk (.slice a0 n0 c0) l0 W hP0 hR0 hL0).mono fun e W' ⟨he, bel⟩ => ?_
  subst he
  exact ⟨_, rfl, _, _, _, [], _, [], hW', trodAll_mk1 (shut_bool Try.underlying4 _), (trodAll_cons_mk (Below.trod laidOut (by kernel_rfl) (of_decide_eq_true (by kernel_rfl)) k0 bel lt0) trodAll_mk0), rfl, bel.frame _, fun h => by cases h⟩
theorem over : Rows.labelsMakeRow.holds Try.pinned (OpenSpec.ofChange Rows.labelsMakeSpec) :=
  OpenClaim.holds_of_wide 3 Try.f3 rfl rfl rfl rfl rfl rfl rfl ⟨rfl, rfl, rfl, rfl, rfl⟩ rfl rfl rfl rfl rfl (by kernel_rfl) Try.func3 (by kernel_rfl)
    (of_decide_eq_true (by kernel_rfl)) (by unfold Func.isWrapper; first | (rw [if_pos (by decide +kernel)]; kernel_rfl) | (rw [if_neg (by decide +kernel)]; exact ⟨rfl, rfl⟩))
    (fun os started H enc _ => lifted os started H enc)
end Go.Proofs.Ytckchabcnmkbeaa.labelsMake
namespace Go.Proofs.Ytckchabcnmkbeaa
/-- The statement. -/
theorem labelsMake_holds : Rows.LabelsMakeSaid := labelsMake.over
#print axioms labelsMake_holds
end Go.Proofs.Ytckchabcnmkbeaa
