/-
  Proved here: 'klaxonlaw02.DiskSafe' (P2.8), called with any two lists of acts, any ints to keep and any torn sectors, in any memory, returns true, and its arguments read afterwards as they read before: what was synced is there behind every crash, if it was not written since; a sector that was is new up to some byte and old from there on. No condition beyond the row's own.
-/
import Derived.Test.YtcjmfibehofepaaRows
import Derived.WalkKit
import Derived.ProofKit
import Derived.OpenShut
import Derived.ShutString
import Derived.ChangeOld
import Derived.Below
import Derived.Test.YtcjmfibehofepaaSafeW
namespace Go.Proofs.Ytcjmfibehofepaa.diskSafe
open Go.ChangeShapes Go.WideShapes Go.ChangeAt Go.RowKit
set_option linter.unusedVariables false

theorem own : ownKnob Try.prog.godebug = none := by kernel_rfl
theorem laidOut : laidOutB Try.prog = true := by kernel_rfl

/-! ### The walk where keep or torn has more than 150 -/
set_option maxRecDepth 100000 in
set_option maxHeartbeats 4000000 in
theorem bigK (w : World) (a0 a1 a2 a3 : Option Addr) (n0 c0 n1 c1 n2 c2 n3 c3 : Nat) (l more : List Deed) (h0 : Acts w (.slice a0 n0 c0) l) (h1 : Acts w (.slice a1 n1 c1) more) (hb : (150 : Int) < (n2 : Int)) :
    Calls Try.prog 4 #[.slice a0 n0 c0, .slice a1 n1 c1, .slice a2 n2 c2, .slice a3 n3 c3] w fun e w' => e = .returned (.bool true) ∧ Below w.heap.size w w' := by
  have hu0 := huge_any _ _ h0
  have hu1 : Hid (∀ m, Calls Try.prog 8 #[.slice a1 n1 c1] (w.drewN m) fun e w' => HugeP (w.drewN m) more e w') := by
    show ∀ m, _
    intro m
    refine huge_any _ _ ?_
    obtain ⟨a, c, q1, q2, q3⟩ := h1
    refine ⟨a, c, q1, q2, ?_⟩
    rcases q3 with q3 | ⟨b, o, q3, q4⟩
    · exact .inl q3
    · exact .inr ⟨b, o, q3, fun t ht => (q4 t ht).grow (below_drewN (Below.refl _ _) m)⟩
  clear h0 h1
  go_enter Try.func4, Try.ntmps4
  go_wp2_with fail
  refine hu0.mono ?_
  rintro e w1 ⟨B0, rfl, hB0, m0, rfl⟩
  clear hu0 hB0
  cases B0 with
  | true =>
    go_wp2_with (first | (go_at_call 9; refine (live_any _).mono ?_; rintro e w2 ⟨rfl, hb2⟩))
    go_ret
    exact ⟨rfl, (below_drewN (Below.refl _ w) m0).trans hb2⟩
  | false =>
    go_wp2_with fail
    refine Calls.mono (hu1.out m0) ?_
    rintro e w1 ⟨B1, rfl, hB1, m1, hw1⟩
    clear hu1 hB1
    have hb1 : Below w.heap.size w w1 := by rw [hw1]; exact below_drewN (below_drewN (Below.refl _ w) m0) m1
    clear hw1
    cases B1 with
    | true =>
      go_wp2_with (first | (go_at_call 9; refine (live_any _).mono ?_; rintro e w2 ⟨rfl, hb2⟩))
      go_ret
      exact ⟨rfl, hb1.trans (hb2.mono hb1.size)⟩
    | false =>
      go_wp2_with (first | (go_at_call 9; refine (live_any _).mono ?_; rintro e w2 ⟨rfl, hb2⟩))
      go_ret
      exact ⟨rfl, hb1.trans (hb2.mono hb1.size)⟩

set_option maxRecDepth 100000 in
set_option maxHeartbeats 4000000 in
theorem bigT (w : World) (a0 a1 a2 a3 : Option Addr) (n0 c0 n1 c1 n2 c2 n3 c3 : Nat) (l more : List Deed) (h0 : Acts w (.slice a0 n0 c0) l) (h1 : Acts w (.slice a1 n1 c1) more) (hn : n2 ≤ 150) (hb : (150 : Int) < (n3 : Int)) :
    Calls Try.prog 4 #[.slice a0 n0 c0, .slice a1 n1 c1, .slice a2 n2 c2, .slice a3 n3 c3] w fun e w' => e = .returned (.bool true) ∧ Below w.heap.size w w' := by
  have d2 : decide ((150 : Int) < (n2 : Int)) = false := by simp; omega
  have hu0 := huge_any _ _ h0
  have hu1 : Hid (∀ m, Calls Try.prog 8 #[.slice a1 n1 c1] (w.drewN m) fun e w' => HugeP (w.drewN m) more e w') := by
    show ∀ m, _
    intro m
    refine huge_any _ _ ?_
    obtain ⟨a, c, q1, q2, q3⟩ := h1
    refine ⟨a, c, q1, q2, ?_⟩
    rcases q3 with q3 | ⟨b, o, q3, q4⟩
    · exact .inl q3
    · exact .inr ⟨b, o, q3, fun t ht => (q4 t ht).grow (below_drewN (Below.refl _ _) m)⟩
  clear h0 h1
  go_enter Try.func4, Try.ntmps4
  go_wp2_with fail
  refine hu0.mono ?_
  rintro e w1 ⟨B0, rfl, hB0, m0, rfl⟩
  clear hu0 hB0
  cases B0 with
  | true =>
    go_wp2_with (first | (go_at_call 9; refine (live_any _).mono ?_; rintro e w2 ⟨rfl, hb2⟩))
    go_ret
    exact ⟨rfl, (below_drewN (Below.refl _ w) m0).trans hb2⟩
  | false =>
    go_wp2_with fail
    refine Calls.mono (hu1.out m0) ?_
    rintro e w1 ⟨B1, rfl, hB1, m1, hw1⟩
    clear hu1 hB1
    have hb1 : Below w.heap.size w w1 := by rw [hw1]; exact below_drewN (below_drewN (Below.refl _ w) m0) m1
    clear hw1
    cases B1 with
    | true =>
      go_wp2_with (first | (go_at_call 9; refine (live_any _).mono ?_; rintro e w2 ⟨rfl, hb2⟩))
      go_ret
      exact ⟨rfl, hb1.trans (hb2.mono hb1.size)⟩
    | false =>
      go_wp2_with (first | (go_at_call 9; refine (live_any _).mono ?_; rintro e w2 ⟨rfl, hb2⟩))
      go_ret
      exact ⟨rfl, hb1.trans (hb2.mono hb1.size)⟩

theorem walk (w : World) (a0 a1 a2 a3 : Option Addr) (n0 c0 n1 c1 n2 c2 n3 c3 : Nat) (l more : List Deed) (keep : List Int) (ts : List (Int × Int)) (h0 : Acts w (.slice a0 n0 c0) l) (h1 : Acts w (.slice a1 n1 c1) more) (h2 : Ints w (.slice a2 n2 c2) keep) (h3 : Torns w (.slice a3 n3 c3) ts) (hki : ∀ x ∈ keep, In64 x) (hti : ∀ t ∈ ts, In64 t.1 ∧ In64 t.2) :
    Calls Try.prog 4 #[.slice a0 n0 c0, .slice a1 n1 c1, .slice a2 n2 c2, .slice a3 n3 c3] w fun e w' => e = .returned (.bool true) ∧ Below w.heap.size w w' := by
  by_cases c2' : (150 : Int) < (n2 : Int)
  · exact bigK w a0 a1 a2 a3 n0 c0 n1 c1 n2 c2 n3 c3 l more h0 h1 c2'
  · by_cases c3' : (150 : Int) < (n3 : Int)
    · exact bigT w a0 a1 a2 a3 n0 c0 n1 c1 n2 c2 n3 c3 l more h0 h1 (by omega) c3'
    · refine safe_main w a0 a1 a2 a3 n0 c0 n1 c1 n2 c2 n3 c3 l more keep ts h0 h1 h2 h3 hki hti ?_ ?_ ?_ ?_ (by omega) (by omega)
      · obtain ⟨a, c, e, _⟩ := h0
        cases e; rfl
      · obtain ⟨a, c, e, _⟩ := h1
        cases e; rfl
      · obtain ⟨a, c, e, _⟩ := h2
        cases e; rfl
      · obtain ⟨a, c, e, _⟩ := h3
        cases e; rfl

/-! ### The row's step -/
set_option maxRecDepth 100000 in
theorem lifted (os : Os) (started : os.Started) (H : Type) (enc : TypeId × Value → H) :
    ReturnsInHanded {} Try.checked os 4 .any (Rows.diskSafeSpec.pre6 enc Try.prog Try.f4 Rows.diskSafeRow.domain false) (Rows.diskSafeSpec.post enc Try.prog Try.f4 false true false false) := by
  refine returnsInHanded_of_change (C := Try.checked) own started (by kernel_rfl) Try.func4
    (ChangeSpec.witness6 (enc := enc) (C := Try.checked) false ⟨#[], #[.slice none 0 0, .slice none 0 0, .slice none 0 0, .slice none 0 0], []⟩ 8 (by kernel_rfl) (by kernel_rfl) (by kernel_rfl) (by kernel_rfl)) ?_
  intro W base args ds gs before hval0 hW hcnd _
  have hval : ∀ (j : Nat) t v, Try.f4.params[j]? = some t → args[j]? = some v → Value.okWide Try.prog W .any base t v := hval0
  have hW' := hW
  obtain ⟨p, q, hA0, hV, rfl, hfz, hnd⟩ := hW
  have hA : DataW.TrodAll enc Try.prog W 0 (fun _ => true) true Try.f4.params.toList args.toList ds p := hA0
  rw [Try.params4] at hA hval
  obtain ⟨v0, vs0, d0, ds0, p0, q0, hargs, rfl, rfl, h0, r0⟩ := trodAll_cons hA
  obtain ⟨v1, vs1, d1, ds1, p1, q1, rfl, rfl, rfl, h1, r1⟩ := trodAll_cons r0
  obtain ⟨v2, vs2, d2, ds2, p2, q2, rfl, rfl, rfl, h2, r2⟩ := trodAll_cons r1
  obtain ⟨v3, vs3, d3, ds3, p3, q3, rfl, rfl, rfl, h3, r3⟩ := trodAll_cons r2
  obtain ⟨rfl, rfl, rfl⟩ := trodAll_nil r3
  obtain rfl : args = #[v0, v1, v2, v3] := by cases args; simp_all
  obtain ⟨rfl, rfl⟩ := trodVars_none hV
  obtain ⟨a0, n0, c0, rfl⟩ := okWide_slice Try.underlying22 (hval 0 22 v0 rfl rfl)
  obtain ⟨a1, n1, c1, rfl⟩ := okWide_slice Try.underlying22 (hval 1 22 v1 rfl rfl)
  obtain ⟨a2, n2, c2, rfl⟩ := okWide_slice Try.underlying34 (hval 2 34 v2 rfl rfl)
  obtain ⟨a3, n3, c3, rfl⟩ := okWide_slice Try.underlying35 (hval 3 35 v3 rfl rfl)
  have k0 := h0
  have k1 := h1
  have k2 := h2
  have k3 := h3
  have lt0 : ∀ x ∈ p0, x.block < W.heap.size := by obtain ⟨m, hm⟩ := k0; exact DataW.trod_lt m _ _ _ hm
  have lt1 : ∀ x ∈ p1, x.block < W.heap.size := by obtain ⟨m, hm⟩ := k1; exact DataW.trod_lt m _ _ _ hm
  have lt2 : ∀ x ∈ p2, x.block < W.heap.size := by obtain ⟨m, hm⟩ := k2; exact DataW.trod_lt m _ _ _ hm
  have lt3 : ∀ x ∈ p3, x.block < W.heap.size := by obtain ⟨m, hm⟩ := k3; exact DataW.trod_lt m _ _ _ hm
  obtain ⟨l, hl⟩ : ∃ l, Acts W (.slice a0 n0 c0) l := by
    obtain ⟨fuel, hf⟩ := h0
    exact acts_of_trod hf
  obtain ⟨more, hm⟩ : ∃ l, Acts W (.slice a1 n1 c1) l := by
    obtain ⟨fuel, hf⟩ := h1
    exact acts_of_trod hf
  obtain ⟨keep, hk, hki⟩ : ∃ xs, Ints W (.slice a2 n2 c2) xs ∧ ∀ x ∈ xs, In64 x := by
    obtain ⟨fuel, hf⟩ := h2
    obtain ⟨a, len, cap, zs, e, hr⟩ := ints_of_trod hf
    cases e
    exact ⟨_, hr.ints, fun x hx => in64_of (hr.wf x hx)⟩
  obtain ⟨ts, ht, hti⟩ : ∃ ts, Torns W (.slice a3 n3 c3) ts ∧ ∀ t ∈ ts, In64 t.1 ∧ In64 t.2 := by
    obtain ⟨fuel, hf⟩ := h3
    exact torns_of_trod hf
  clear hA0 hval0
  refine (walk W a0 a1 a2 a3 n0 c0 n1 c1 n2 c2 n3 c3 l more keep ts hl hm hk ht hki hti).mono fun e W' ⟨he, bel⟩ => ?_
  subst he
  exact ⟨_, rfl, _, _, _, [], _, [], hW', trodAll_mk1 (shut_bool Try.underlying4 _), (trodAll_cons_mk (Below.trod laidOut (by kernel_rfl) (of_decide_eq_true (by kernel_rfl)) k0 bel lt0) (trodAll_cons_mk (Below.trod laidOut (by kernel_rfl) (of_decide_eq_true (by kernel_rfl)) k1 bel lt1) (trodAll_cons_mk (Below.trod laidOut (by kernel_rfl) (of_decide_eq_true (by kernel_rfl)) k2 bel lt2) (trodAll_cons_mk (Below.trod laidOut (by kernel_rfl) (of_decide_eq_true (by kernel_rfl)) k3 bel lt3) trodAll_mk0)))), rfl, bel.frame _, fun h => by cases h⟩

theorem over : Rows.diskSafeRow.holds Try.pinned (OpenSpec.ofChange Rows.diskSafeSpec) :=
  OpenClaim.holds_of_wide 4 Try.f4 rfl rfl rfl rfl rfl rfl rfl ⟨rfl, rfl, rfl, rfl, rfl⟩ rfl rfl rfl rfl rfl (by kernel_rfl) Try.func4 (by kernel_rfl)
    (of_decide_eq_true (by kernel_rfl)) (by unfold Func.isWrapper; first | (rw [if_pos (by decide +kernel)]; kernel_rfl) | (rw [if_neg (by decide +kernel)]; exact ⟨rfl, rfl⟩))
    (fun os started H enc _ => lifted os started H enc)
end Go.Proofs.Ytcjmfibehofepaa.diskSafe
namespace Go.Proofs.Ytcjmfibehofepaa
/-- The statement. -/
theorem diskSafe_holds : Rows.DiskSafeSaid := diskSafe.over
#print axioms diskSafe_holds
end Go.Proofs.Ytcjmfibehofepaa
