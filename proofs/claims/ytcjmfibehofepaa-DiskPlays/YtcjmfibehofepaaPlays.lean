/-
  Proved here: 'klaxonlaw02.DiskPlays' (P2.1 to P2.7), called with any ints and any acts, in any memory, returns true, and its arguments read afterwards as they read before: whatever is written, read, synced, armed and crashed, the disk answers as the document's own. No condition beyond the row's own.
-/
import Derived.Test.YtcjmfibehofepaaRows
import Derived.WalkKit
import Derived.ProofKit
import Derived.OpenShut
import Derived.ShutString
import Derived.ChangeOld
import Derived.Below
import Derived.SizedLaws
import Derived.Test.YtcjmfibehofepaaPlayW
import Derived.Test.YtcjmfibehofepaaActs2
namespace Go.Proofs.Ytcjmfibehofepaa.diskPlays
open Go.ChangeShapes Go.WideShapes Go.ChangeAt Go.RowKit
open Go.ChangeMaps (open_string shut_string)
set_option linter.unusedVariables false

theorem own : ownKnob Try.prog.godebug = none := by kernel_rfl
theorem laidOut : laidOutB Try.prog = true := by kernel_rfl

/-! ### The walk -/
set_option maxRecDepth 100000 in
set_option maxHeartbeats 4000000 in
/-- Too great a disk: of that nothing is asked. -/
theorem out_room (w : World) (s z : Int) (a0 : Option Addr) (n0 c0 : Nat) (l : List Deed) (h0 : Acts w (.slice a0 n0 c0) l) (h1 : 0 < s) (h2 : 0 < z) (h3 : s ≤ 65536) (h4 : z ≤ 1024) (h5 : 131072 < s * z) :
    Calls Try.prog 3 #[.int .i64 s, .int .i64 z, .slice a0 n0 c0] w fun e w' => e = .returned (.bool true) ∧ Below w.heap.size w w' := by
  have hu0 := huge_any _ _ h0
  have d6 : IntKind.i64.wrap (s * z) = s * z := by
    have h7 : s * z ≤ 65536 * 1024 := Int.mul_le_mul h3 h4 (by omega) (by omega)
    exact Go.IntWalk.i64_in _ (by omega)
  have d7 : decide (131072 < s * z) = true := by simpa using h5
  clear h0
  go_enter Try.func3, Try.ntmps3
  go_wp2_with fail
  refine hu0.mono ?_
  rintro e w1 ⟨B0, rfl, hB0, m0, rfl⟩
  have hb1 : Below w.heap.size w (w.drewN m0) := below_drewN (Below.refl _ w) m0
  clear hu0 hB0
  cases B0 with
  | true =>
    go_wp2_with (first | (go_at_call 9; refine (live_any _).mono ?_; rintro e w2 ⟨rfl, hb2⟩))
    go_ret
    exact ⟨rfl, hb1.trans (hb2.mono hb1.size)⟩
  | false =>
    go_wp2_with (first | (go_at_call 9; refine (live_any _).mono ?_; rintro e w2 ⟨rfl, hb2⟩))
    go_ret
    exact ⟨rfl, hb1.trans (hb2.mono hb1.size)⟩
set_option maxRecDepth 100000 in
set_option maxHeartbeats 8000000 in
/-- No disk: neither answer has one. -/
theorem out_bad (w : World) (s z : Int) (a0 : Option Addr) (n0 c0 : Nat) (l : List Deed) (h0 : Acts w (.slice a0 n0 c0) l) (hbad : s < 1 ∨ 65536 < s ∨ z < 64 ∨ 1024 < z)
    (hc : (s ≤ 0 ∧ decide (0 < s) = false) ∨ (0 < s ∧ z ≤ 0 ∧ decide (0 < z) = false) ∨ (0 < s ∧ 0 < z ∧ 65536 < s ∧ decide (s ≤ 65536) = false) ∨ (0 < s ∧ 0 < z ∧ s ≤ 65536 ∧ 1024 < z ∧ decide (z ≤ 1024) = false) ∨ (0 < s ∧ 0 < z ∧ s ≤ 65536 ∧ z ≤ 1024 ∧ IntKind.i64.wrap (s * z) = s * z ∧ decide (131072 < s * z) = false)) :
    Calls Try.prog 3 #[.int .i64 s, .int .i64 z, .slice a0 n0 c0] w fun e w' => e = .returned (.bool true) ∧ Below w.heap.size w w' := by
  have hu0 := huge_any _ _ h0
  have hn := new_bad s z hbad
  have hr := refNew_bad s z hbad
  clear h0 hbad
  rcases hc with ⟨e1, f1⟩ | ⟨e1, e2, f1⟩ | ⟨e1, e2, e3, f1⟩ | ⟨e1, e2, e3, e4, f1⟩ | ⟨e1, e2, e3, e4, f0, f1⟩
  all_goals as_aux_lemma =>
    go_enter Try.func3, Try.ntmps3
    go_wp2_with fail
    refine hu0.mono ?_
    rintro e w1 ⟨B0, rfl, hB0, m0, rfl⟩
    have hb1 : Below w.heap.size w (w.drewN m0) := below_drewN (Below.refl _ w) m0
    clear hu0 hB0
    cases B0 with
    | true =>
      go_wp2_with (first | (go_at_call 9; refine (live_any _).mono ?_; rintro e w2 ⟨rfl, hb2⟩))
      go_ret
      exact ⟨rfl, hb1.trans (hb2.mono hb1.size)⟩
    | false =>
      generalize w.drewN m0 = w1 at hb1 ⊢
      go_wp2_with (first | (go_at_call 10; refine (hn _).mono ?_; rintro e w2 ⟨rfl, hw2⟩; subst w2) | (go_at_call 11; refine (hr _).mono ?_; rintro e w3 ⟨rfl, hw3⟩; subst w3) | (go_at_call 12; refine (num_any _ _ (by omega) (by omega)).mono ?_; rintro e w4 ⟨rfl, hw4⟩; subst w4))
      go_loop [11] (fun i => i = .int .i64 0) (fun _ => 0)
      case atStart => rfl
      case round =>
        subst hrel
        by_cases hlt : (0 : Int) < (n0 : Int)
        · as_aux_lemma =>
          go_wp2
          go_loop [22] (fun i => i = .int .i64 0) (fun _ => 0)
          case atStart => rfl
          case round =>
            subst hrel
            go_wp2_with (first | (go_at_call 9; refine (live_any _).mono ?_; rintro e w2 ⟨rfl, hb2⟩))
            go_ret
            exact ⟨rfl, hb1.trans (hb2.mono hb1.size)⟩
        · as_aux_lemma =>
          have hld : decide ((0 : Int) < (n0 : Int)) = false := by simpa using hlt
          go_wp2
          go_loop [22] (fun i => i = .int .i64 0) (fun _ => 0)
          case atStart => rfl
          case round =>
            subst hrel
            go_wp2_with (first | (go_at_call 9; refine (live_any _).mono ?_; rintro e w2 ⟨rfl, hb2⟩))
            go_ret
            exact ⟨rfl, hb1.trans (hb2.mono hb1.size)⟩

theorem walk (s z : Int) (w : World) (a0 : Option Addr) (n0 c0 : Nat) (l : List Deed) (h0 : Acts w (.slice a0 n0 c0) l) (hl : ∀ x ∈ l, DeedIn x) :
    Calls Try.prog 3 #[.int .i64 s, .int .i64 z, .slice a0 n0 c0] w fun e w' => e = .returned (.bool true) ∧ Below w.heap.size w w' := by
  have hn0 : n0 = l.length := by
    obtain ⟨a, c, e, _⟩ := h0
    cases e; rfl
  by_cases hr : 0 < s ∧ 0 < z ∧ s ≤ 65536 ∧ z ≤ 1024 ∧ 131072 < s * z
  · exact out_room w s z a0 n0 c0 l h0 hr.1 hr.2.1 hr.2.2.1 hr.2.2.2.1 hr.2.2.2.2
  · by_cases hbad : s < 1 ∨ 65536 < s ∨ z < 64 ∨ 1024 < z
    · refine out_bad w s z a0 n0 c0 l h0 hbad ?_
      by_cases c1 : 0 < s
      · by_cases c2 : 0 < z
        · by_cases c3 : s ≤ 65536
          · by_cases c4 : z ≤ 1024
            · have h7 : s * z ≤ 65536 * 1024 := Int.mul_le_mul c3 c4 (by omega) (by omega)
              have h8 : 0 ≤ s * z := Int.mul_nonneg (by omega) (by omega)
              refine .inr (.inr (.inr (.inr ⟨c1, c2, c3, c4, Go.IntWalk.i64_in _ (by omega), ?_⟩)))
              simp only [decide_eq_false_iff_not]
              intro h; exact hr ⟨c1, c2, c3, c4, h⟩
            · exact .inr (.inr (.inr (.inl ⟨c1, c2, c3, by omega, by simpa using c4⟩)))
          · exact .inr (.inr (.inl ⟨c1, c2, by omega, by simpa using c3⟩))
        · exact .inr (.inl ⟨c1, by omega, by simpa using c2⟩)
      · exact .inl ⟨by omega, by simpa using c1⟩
    · obtain ⟨sectors, rfl⟩ : ∃ k : Nat, s = k := ⟨s.toNat, by omega⟩
      obtain ⟨size, rfl⟩ : ∃ k : Nat, z = k := ⟨z.toNat, by omega⟩
      refine plays_main w sectors size (by omega) (by omega) (by omega) (by omega) ?_ a0 n0 c0 l h0 hn0 (fun x hx => ?_)
      · have h9 : ((sectors * size : Nat) : Int) = (sectors : Int) * (size : Int) := Int.natCast_mul _ _
        have h10 : ¬ (131072 : Int) < (sectors : Int) * (size : Int) := fun h => hr ⟨by omega, by omega, by omega, by omega, h⟩
        rw [← h9] at h10
        omega
      · have := hl x hx
        unfold DeedIn reachBytes at this
        omega

/-! ### The row's step -/
set_option maxRecDepth 100000 in
theorem lifted (os : Os) (started : os.Started) (H : Type) (enc : TypeId × Value → H) :
    ReturnsInHanded {} Try.checked os 3 .any (Rows.diskPlaysSpec.pre6 enc Try.prog Try.f3 Rows.diskPlaysRow.domain false) (Rows.diskPlaysSpec.post enc Try.prog Try.f3 false true false false) := by
  refine returnsInHanded_of_change_sized (C := Try.checked) own started (by kernel_rfl) Try.func3
    (ChangeSpec.witness6 (enc := enc) (C := Try.checked) false ⟨#[], #[.int .i64 0, .int .i64 0, .slice none 0 0], []⟩ 8 (by kernel_rfl) (by kernel_rfl) (by kernel_rfl) (by kernel_rfl)) ?_
  intro W base args ds gs before hval0 hW hcnd hsz0 _
  have hsz : (DataW.weightsEach Try.prog (Try.f3.params.toList ++ Rows.diskPlaysSpec.plain.varTypes Try.prog) (ds ++ gs)).all (· ≤ reachBytes) = true := hsz0
  have hval : ∀ (j : Nat) t v, Try.f3.params[j]? = some t → args[j]? = some v → Value.okWide Try.prog W .any base t v := hval0
  have hW' := hW
  obtain ⟨p, q, hA0, hV, rfl, hfz, hnd⟩ := hW
  have hA : DataW.TrodAll enc Try.prog W 0 (fun _ => true) true Try.f3.params.toList args.toList ds p := hA0
  rw [Try.params3] at hA hval hsz
  obtain ⟨v0, vs0, d0, ds0, p0, q0, hargs, rfl, rfl, h0, r0⟩ := trodAll_cons hA
  obtain ⟨v1, vs1, d1, ds1, p1, q1, rfl, rfl, rfl, h1, r1⟩ := trodAll_cons r0
  obtain ⟨v2, vs2, d2, ds2, p2, q2, rfl, rfl, rfl, h2, r2⟩ := trodAll_cons r1
  obtain ⟨rfl, rfl, rfl⟩ := trodAll_nil r2
  obtain rfl : args = #[v0, v1, v2] := by cases args; simp_all
  obtain ⟨rfl, rfl⟩ := trodVars_none hV
  obtain ⟨x0, rfl, rfl, rfl, w0⟩ := open_int Try.underlying3 (hval 0 3 v0 rfl rfl) h0
  obtain ⟨x1, rfl, rfl, rfl, w1⟩ := open_int Try.underlying3 (hval 1 3 v1 rfl rfl) h1
  obtain ⟨a2, n2, c2, rfl⟩ := okWide_slice Try.underlying22 (hval 2 22 v2 rfl rfl)
  have k2 := h2
  have lt2 : ∀ x ∈ p2, x.block < W.heap.size := by obtain ⟨m, hm⟩ := k2; exact DataW.trod_lt m _ _ _ hm
  obtain ⟨l, hl, hl2⟩ : ∃ l, Acts W (.slice a2 n2 c2) l ∧ ∀ x ∈ l, DeedIn x := by
    obtain ⟨fuel, hf⟩ := h2
    refine acts_of_trod2 hf (fun q hq => ?_)
    have := List.all_eq_true.1 hsz _ (DataW.weights_mem_each (j := 2) (t := 22) rfl rfl q hq)
    simpa using this
  clear hA0 hval0
  refine (walk x0 x1 W a2 n2 c2 l hl hl2).mono fun e W' ⟨he, bel⟩ => ?_
  subst he
  exact ⟨_, rfl, _, _, _, [], _, [], hW', trodAll_mk1 (shut_bool Try.underlying4 _), (trodAll_cons_mk (shut_int Try.underlying3 w0) (trodAll_cons_mk (shut_int Try.underlying3 w1) (trodAll_cons_mk (Below.trod laidOut (by kernel_rfl) (of_decide_eq_true (by kernel_rfl)) k2 bel lt2) trodAll_mk0))), rfl, bel.frame _, fun h => by cases h⟩

theorem over : Rows.diskPlaysRow.holds Try.pinned (OpenSpec.ofChange Rows.diskPlaysSpec) :=
  OpenClaim.holds_of_wide 3 Try.f3 rfl rfl rfl rfl rfl rfl rfl ⟨rfl, rfl, rfl, rfl, rfl⟩ rfl rfl rfl rfl rfl (by kernel_rfl) Try.func3 (by kernel_rfl)
    (of_decide_eq_true (by kernel_rfl)) (by unfold Func.isWrapper; first | (rw [if_pos (by decide +kernel)]; kernel_rfl) | (rw [if_neg (by decide +kernel)]; exact ⟨rfl, rfl⟩))
    (fun os started H enc _ => lifted os started H enc)
end Go.Proofs.Ytcjmfibehofepaa.diskPlays
namespace Go.Proofs.Ytcjmfibehofepaa
/-- The statement. -/
theorem diskPlays_holds : Rows.DiskPlaysSaid := diskPlays.over
#print axioms diskPlays_holds
end Go.Proofs.Ytcjmfibehofepaa
