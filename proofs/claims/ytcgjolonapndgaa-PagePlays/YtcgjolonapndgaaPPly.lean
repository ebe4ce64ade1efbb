/-
  Proved here: 'klaxonlaw03.PagePlays' (P3.4 to P3.6), called with any ints and any acts, in any memory, returns true, and its arguments read afterwards as they read before: whatever pages and raw sectors are written, read, synced, armed and crashed, what is answered is the document's. No condition beyond the row's own.
-/
import Derived.Test.YtcgjolonapndgaaRows
import Derived.WalkKit
import Derived.ProofKit
import Derived.OpenShut
import Derived.ShutString
import Derived.ChangeOld
import Derived.Below
import Derived.SizedLaws
import Derived.Test.YtcgjolonapndgaaPPlW
import Derived.Test.YtcgjolonapndgaaPActs
namespace Go.Proofs.Ytcgjolonapndgaa.pagePlays
open Go.ChangeShapes Go.WideShapes Go.ChangeAt Go.RowKit
open Go.ChangeMaps (open_string shut_string)
set_option linter.unusedVariables false
theorem own : ownKnob Try.prog.godebug = none := by kernel_rfl
theorem laidOut : laidOutB Try.prog = true := by kernel_rfl
set_option maxRecDepth 100000 in
set_option maxHeartbeats 4000000 in
/-- Too great a disk: of that nothing is asked. -/
theorem out_big (w : World) (s z per : Int) (a0 : Option Addr) (n0 c0 : Nat) (l : List Deed) (hu0 : Calls Try.prog 18 #[.slice a0 n0 c0] w fun e w' => HugeQ w l e w') (h : 200 < s ∨ decide (200 < s) = false ∧ 200 < z) :
    Calls Try.prog 4 #[.int .i64 s, .int .i64 z, .int .i64 per, .slice a0 n0 c0] w fun e w' => e = .returned (.bool true) ∧ Below w.heap.size w w' := by
  rcases h with h | ⟨h, h'⟩
  all_goals
    go_enter Try.func4, Try.ntmps4
    go_wp2_with fail
    refine hu0.mono ?_
    rintro e w1 ⟨B0, rfl, hB0, m0, rfl⟩
    clear hu0 hB0
    have hb1 : Below w.heap.size w (w.drewN m0) := (Frm.of_below (Below.refl _ w) (fun _ => False)).drewN m0 |>.below (Nat.le_refl _) (fun _ h => h.elim)
    cases B0 with
    | true =>
      go_wp2_with (first | (go_at_call 9; refine (live_any _).mono ?_; rintro e w2 ⟨rfl, hb2⟩))
      go_ret
      exact ⟨rfl, hb1.trans (hb2.mono hb1.size)⟩
    | false =>
      go_wp2_with (first | (go_at_call 9; refine (live_any _).mono ?_; rintro e w2 ⟨rfl, hb2⟩))
      go_ret
      exact ⟨rfl, hb1.trans (hb2.mono hb1.size)⟩
set_option maxRecDepth 100000 in
set_option maxHeartbeats 8000000 in
/-- No disk: neither answer has one. -/
theorem out_bad (w : World) (s z per : Int) (a0 : Option Addr) (n0 c0 : Nat) (l : List Deed) (hu0 : Calls Try.prog 18 #[.slice a0 n0 c0] w fun e w' => HugeQ w l e w') (hbad : s < 1 ∨ 65536 < s ∨ z < 64 ∨ 1024 < z) (f1 : decide (200 < s) = false) (f2 : decide (200 < z) = false) :
    Calls Try.prog 4 #[.int .i64 s, .int .i64 z, .int .i64 per, .slice a0 n0 c0] w fun e w' => e = .returned (.bool true) ∧ Below w.heap.size w w' := by
  have hn := new_bad s z hbad
  have hr := refNew_bad s z hbad
  clear hbad
  go_enter Try.func4, Try.ntmps4
  go_wp2_with fail
  refine hu0.mono ?_
  rintro e w1 ⟨B0, rfl, hB0, m0, rfl⟩
  have hb1 : Below w.heap.size w (w.drewN m0) := (Frm.of_below (Below.refl _ w) (fun _ => False)).drewN m0 |>.below (Nat.le_refl _) (fun _ h => h.elim)
  clear hu0 hB0
  cases B0 with
  | true =>
    go_wp2_with (first | (go_at_call 9; refine (live_any _).mono ?_; rintro e w2 ⟨rfl, hb2⟩))
    go_ret
    exact ⟨rfl, hb1.trans (hb2.mono hb1.size)⟩
  | false =>
    generalize w.drewN m0 = w1 at hb1 ⊢
    go_wp2_with (first | (go_at_call 19; refine (hn _).mono ?_; rintro e w2 ⟨rfl, hw2⟩; subst w2) | (go_at_call 20; refine (hr _).mono ?_; rintro e w3 ⟨rfl, hw3⟩; subst w3) | (go_at_call 14; refine (num_any _ _ (by omega) (by omega)).mono ?_; rintro e w4 ⟨rfl, hw4⟩; subst w4) | (go_at_call 9; refine (live_any _).mono ?_; rintro e w2 ⟨rfl, hb2⟩))
    go_ret
    exact ⟨rfl, hb1.trans (hb2.mono hb1.size)⟩
theorem walk (s z per : Int) (a0 : Option Addr) (n0 c0 : Nat) (l : List Deed) (w : World) (w0 : (Lit.int .i64 s).wf = true) (w1 : (Lit.int .i64 z).wf = true) (w2 : (Lit.int .i64 per).wf = true) (h0 : Acts w (.slice a0 n0 c0) l) (hd : ∀ x ∈ l, DeedIn x) :
    Calls Try.prog 4 #[.int .i64 s, .int .i64 z, .int .i64 per, .slice a0 n0 c0] w fun e w' => e = .returned (.bool true) ∧ Below w.heap.size w w' := by
  have hn0 : n0 = l.length := by
    obtain ⟨a, c, e, _⟩ := h0
    cases e; rfl
  have hl : ∀ x ∈ l, x.p.length ≤ 140737488355328 ∧ x.keep.length ≤ 140737488355328 ∧ x.torn.length ≤ 140737488355328 := fun x hx => by
    have := hd x hx
    unfold DeedIn reachBytes at this
    omega
  by_cases hb : 200 < s ∨ 200 < z
  · refine out_big w s z per a0 n0 c0 l (huge2_any _ _ h0 hl) ?_
    by_cases h1 : 200 < s
    · exact .inl h1
    · exact .inr ⟨by simpa using h1, by omega⟩
  · by_cases hbad : s < 1 ∨ z < 64
    · exact out_bad w s z per a0 n0 c0 l (huge2_any _ _ h0 hl) (by omega) (by simp; omega) (by simp; omega)
    · obtain ⟨sectors, rfl⟩ : ∃ k : Nat, s = k := ⟨s.toNat, by omega⟩
      obtain ⟨size, rfl⟩ : ∃ k : Nat, z = k := ⟨z.toNat, by omega⟩
      exact pp_main w sectors size (by omega) (by omega) (by omega) (by omega) per a0 n0 c0 l h0 hn0 hl
/-! ### The row's step -/
set_option maxRecDepth 100000 in
theorem lifted (os : Os) (started : os.Started) (H : Type) (enc : TypeId × Value → H) :
    ReturnsInHanded {} Try.checked os 4 .any (Rows.pagePlaysSpec.pre6 enc Try.prog Try.f4 Rows.pagePlaysRow.domain false) (Rows.pagePlaysSpec.post enc Try.prog Try.f4 false true false false) := by
  refine returnsInHanded_of_change_sized (C := Try.checked) own started (by kernel_rfl) Try.func4
    (ChangeSpec.witness6 (enc := enc) (C := Try.checked) false ⟨#[], #[.int .i64 0, .int .i64 0, .int .i64 0, .slice none 0 0], []⟩ 8 (by kernel_rfl) (by kernel_rfl) (by kernel_rfl) (by kernel_rfl)) ?_
  intro W base args ds gs before hval0 hW hcnd hsz0 _
  have hsz : (DataW.weightsEach Try.prog (Try.f4.params.toList ++ Rows.pagePlaysSpec.plain.varTypes Try.prog) (ds ++ gs)).all (· ≤ reachBytes) = true := hsz0
  have hval : ∀ (j : Nat) t v, Try.f4.params[j]? = some t → args[j]? = some v → Value.okWide Try.prog W .any base t v := hval0
  have hW' := hW
  obtain ⟨p, q, hA0, hV, rfl, hfz, hnd⟩ := hW
  have hA : DataW.TrodAll enc Try.prog W 0 (fun _ => true) true Try.f4.params.toList args.toList ds p := hA0
  rw [Try.params4] at hA hval hsz
  obtain ⟨v0, vs0, d0, ds0, p0, q0, hargs, rfl, rfl, h0, r0⟩ := trodAll_cons hA
  obtain ⟨v1, vs1, d1, ds1, p1, q1, rfl, rfl, rfl, h1, r1⟩ := trodAll_cons r0
  obtain ⟨v2, vs2, d2, ds2, p2, q2, rfl, rfl, rfl, h2, r2⟩ := trodAll_cons r1
  obtain ⟨v3, vs3, d3, ds3, p3, q3, rfl, rfl, rfl, h3, r3⟩ := trodAll_cons r2
  obtain ⟨rfl, rfl, rfl⟩ := trodAll_nil r3
  obtain rfl : args = #[v0, v1, v2, v3] := by cases args; simp_all
  obtain ⟨rfl, rfl⟩ := trodVars_none hV
  obtain ⟨x0, rfl, rfl, rfl, w0⟩ := open_int Try.underlying3 (hval 0 3 v0 rfl rfl) h0
  obtain ⟨x1, rfl, rfl, rfl, w1⟩ := open_int Try.underlying3 (hval 1 3 v1 rfl rfl) h1
  obtain ⟨x2, rfl, rfl, rfl, w2⟩ := open_int Try.underlying3 (hval 2 3 v2 rfl rfl) h2
  obtain ⟨a3, n3, c3, rfl⟩ := okWide_slice Try.underlying40 (hval 3 40 v3 rfl rfl)
  have k3 := h3
  have lt3 : ∀ x ∈ p3, x.block < W.heap.size := by obtain ⟨m, hm⟩ := k3; exact DataW.trod_lt m _ _ _ hm
  obtain ⟨l, hl, hl2⟩ : ∃ l, Acts W (.slice a3 n3 c3) l ∧ ∀ x ∈ l, DeedIn x := by
    obtain ⟨fuel, hf⟩ := h3
    refine acts_of_trod2 hf (fun q hq => ?_)
    have := List.all_eq_true.1 hsz _ (DataW.weights_mem_each (j := 3) (t := 40) rfl rfl q hq)
    simpa using this
  clear hA0 hval0
  refine (walk x0 x1 x2 a3 n3 c3 l W w0 w1 w2 hl hl2).mono fun e W' ⟨he, bel⟩ => ?_
  subst he
  exact ⟨_, rfl, _, _, _, [], _, [], hW', trodAll_mk1 (shut_bool Try.underlying4 _), (trodAll_cons_mk (shut_int Try.underlying3 w0) (trodAll_cons_mk (shut_int Try.underlying3 w1) (trodAll_cons_mk (shut_int Try.underlying3 w2) (trodAll_cons_mk (Below.trod laidOut (by kernel_rfl) (of_decide_eq_true (by kernel_rfl)) k3 bel lt3) trodAll_mk0)))), rfl, bel.frame _, fun h => by cases h⟩

theorem over : Rows.pagePlaysRow.holds Try.pinned (OpenSpec.ofChange Rows.pagePlaysSpec) :=
  OpenClaim.holds_of_wide 4 Try.f4 rfl rfl rfl rfl rfl rfl rfl ⟨rfl, rfl, rfl, rfl, rfl⟩ rfl rfl rfl rfl rfl (by kernel_rfl) Try.func4 (by kernel_rfl)
    (of_decide_eq_true (by kernel_rfl)) (by unfold Func.isWrapper; first | (rw [if_pos (by decide +kernel)]; kernel_rfl) | (rw [if_neg (by decide +kernel)]; exact ⟨rfl, rfl⟩))
    (fun os started H enc _ => lifted os started H enc)
end Go.Proofs.Ytcgjolonapndgaa.pagePlays
namespace Go.Proofs.Ytcgjolonapndgaa
/-- The statement. -/
theorem pagePlays_holds : Rows.PagePlaysSaid := pagePlays.over
#print axioms pagePlays_holds
end Go.Proofs.Ytcgjolonapndgaa
