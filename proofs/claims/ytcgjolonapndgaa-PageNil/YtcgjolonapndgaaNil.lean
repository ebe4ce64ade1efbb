/-
  Proved here: 'klaxonlaw03.PageNil' (P3.4 to P3.6), called with any ints and any page, in any memory, returns true, and its arguments read afterwards as they read before: without a disk Count is 0, Write and Read answer ErrNone. No condition beyond the row's own.
-/
import Derived.Test.YtcgjolonapndgaaRows
import Derived.WalkKit
import Derived.ProofKit
import Derived.OpenShut
import Derived.ShutString
import Derived.ChangeOld
import Derived.Below
import Derived.Test.YtcgjolonapndgaaArgs
namespace Go.Proofs.Ytcgjolonapndgaa.pageNil
open Go.ChangeShapes Go.WideShapes Go.ChangeAt Go.RowKit
open Go.ChangeMaps (open_string shut_string)
set_option linter.unusedVariables false

theorem own : ownKnob Try.prog.godebug = none := by kernel_rfl
theorem laidOut : laidOutB Try.prog = true := by kernel_rfl

/-! ### The walk -/
section
variable (w : World)
set_option maxRecDepth 100000 in
theorem nil21 (x : Int) : Calls Try.prog 21 #[.pointer none, .int .i64 x] w fun e w' => e = .returned (.int .i64 0) ∧ w' = w := by
  go_enter Try.func21, Try.ntmps21
  go_wp2
  go_ret
  exact ⟨rfl, rfl⟩
set_option maxRecDepth 100000 in
theorem nil23 (x k i : Int) (v : Value) : Calls Try.prog 23 #[.pointer none, .int .i64 x, .agg #[.int .u8 k, .int .u32 i, v]] w fun e w' => e = .returned (.int .i64 7) ∧ Below w.heap.size w w' := by
  go_enter Try.func23, Try.ntmps23
  go_wp2
  exact bodyPost_ret (v := .int .i64 7) (by simp [results, Try.results23, go_sem]) rfl ⟨rfl, (((Below.refl _ w).alloc (Nat.le_refl _) _).alloc (by simp) _).alloc (by simp; omega) _⟩
set_option maxRecDepth 100000 in
theorem nil25 (x y : Int) : Calls Try.prog 25 #[.pointer none, .int .i64 x, .int .i64 y] w fun e w' => e = .returned (.tuple #[.agg #[.int .u8 0, .int .u32 0, .slice none 0 0], .int .i64 7]) ∧ Below w.heap.size w w' := by
  go_enter Try.func25, Try.ntmps25
  go_wp2
  exact bodyPost_ret (v := .tuple #[.agg #[.int .u8 0, .int .u32 0, .slice none 0 0], .int .i64 7]) (by simp [results, Try.results25, go_sem]) rfl ⟨rfl, (Below.refl _ _).alloc (Nat.le_refl _) _⟩
end
set_option maxRecDepth 100000 in
set_option maxHeartbeats 4000000 in
theorem walk (a0 : Int) (k1 : Int) (i1 : Nat) (a1 : Option Addr) (len1 cap1 : Nat) (z1 : List Int) (a2 : Int) (w : World) (w0 : (Lit.int .i64 a0).wf = true) (hk1 : 0 ≤ k1 ∧ k1 < 256) (hi1 : i1 < 2 ^ 32) (w1 : IsRow .u8 w a1 len1 cap1 z1) (w2 : (Lit.int .i64 a2).wf = true) :
    Calls Try.prog 7 #[.int .i64 a0, .agg #[.int .u8 k1, .int .u32 i1, .slice a1 len1 cap1], .int .i64 a2] w fun e w' => e = .returned (.bool true) ∧ Below w.heap.size w w' := by
  clear w0 w1 w2
  have hB1 := (Below.refl w.heap.size w).alloc (Nat.le_refl _) (.cells #[.int .u8 k1, .int .u32 i1, .slice a1 len1 cap1] 25)
  by_cases hl : (20000 : Int) < (len1 : Int)
  · go_enter Try.func7, Try.ntmps7
    go_wp2_with (first | (go_at_call 9; refine (live_any _).mono ?_; rintro e w2 ⟨rfl, hb2⟩))
    go_ret
    exact ⟨rfl, hB1.trans (hb2.mono (by simp))⟩
  · have hl' : decide ((20000 : Int) < (len1 : Int)) = false := by simpa using hl
    have hx1 : PageAt (w.alloc (.cells #[.int .u8 k1, .int .u32 i1, .slice a1 len1 cap1] 25)) w.heap.size k1 i1 (.slice a1 len1 cap1) := heap_alloc_new w _
    go_enter Try.func7, Try.ntmps7
    go_wp2_with fail
    refine (nil25 _ _ _).mono ?_
    rintro e w2 ⟨rfl, hb2⟩
    have hx2 := hx1.keep (hb2.block _ hx1.lt)
    have hx3 : PageAt (w2.alloc (.cells #[.int .u8 0, .int .u32 0, .slice none 0 0] 25)) w.heap.size k1 i1 (.slice a1 len1 cap1) := hx2.alloc _
    obtain ⟨x30, x31, x32⟩ := hx3.cells
    go_wp2_with (first
      | (go_at_call 21; refine (nil21 _ _).mono ?_; rintro e w3 ⟨rfl, hw3⟩; subst w3)
      | (go_at_call 23; refine (nil23 _ _ _ _ _).mono ?_; rintro e w4 ⟨rfl, hb4⟩)
      | (go_at_call 14; refine (num_any _ _ (by omega) (by omega)).mono ?_; rintro e w5 ⟨rfl, hw5⟩; subst w5)
      | (go_at_call 9; refine (live_any _).mono ?_; rintro e w6 ⟨rfl, hb6⟩))
    go_ret
    have hB2 := hB1.trans (hb2.mono (by simp))
    have hB3 := hB2.alloc hB2.size (.cells #[.int .u8 0, .int .u32 0, .slice none 0 0] 25)
    have hB4 := hB3.trans (hb4.mono hB3.size)
    exact ⟨rfl, hB4.trans (hb6.mono hB4.size)⟩

/-! ### THE ROW's STEP: WRITTEN OUT: LEAVE IT -/
set_option maxRecDepth 100000 in
theorem lifted (os : Os) (started : os.Started) (H : Type) (enc : TypeId × Value → H) :
    ReturnsInHanded {} Try.checked os 7 .any (Rows.pageNilSpec.pre6 enc Try.prog Try.f7 Rows.pageNilRow.domain false) (Rows.pageNilSpec.post enc Try.prog Try.f7 false true false false) := by
  refine returnsInHanded_of_change (C := Try.checked) own started (by kernel_rfl) Try.func7
    (ChangeSpec.witness6 (enc := enc) (C := Try.checked) false ⟨#[], #[.int .i64 0, .agg #[.int .u8 0, .int .u32 0, .slice none 0 0], .int .i64 0], []⟩ 8 (by kernel_rfl) (by kernel_rfl) (by kernel_rfl) (by kernel_rfl)) ?_
  intro W base args ds gs before hval0 hW hcnd _
  have hval : ∀ (j : Nat) t v, Try.f7.params[j]? = some t → args[j]? = some v → Value.okWide Try.prog W .any base t v := hval0
  have hW' := hW
  obtain ⟨p, q, hA0, hV, rfl, hfz, hnd⟩ := hW
  have hA : DataW.TrodAll enc Try.prog W 0 (fun _ => true) true Try.f7.params.toList args.toList ds p := hA0
  rw [Try.params7] at hA hval
  obtain ⟨v0, vs0, d0, ds0, p0, q0, hargs, rfl, rfl, h0, r0⟩ := trodAll_cons hA
  obtain ⟨v1, vs1, d1, ds1, p1, q1, rfl, rfl, rfl, h1, r1⟩ := trodAll_cons r0
  obtain ⟨v2, vs2, d2, ds2, p2, q2, rfl, rfl, rfl, h2, r2⟩ := trodAll_cons r1
  obtain ⟨rfl, rfl, rfl⟩ := trodAll_nil r2
  obtain rfl : args = #[v0, v1, v2] := by cases args; simp_all
  obtain ⟨rfl, rfl⟩ := trodVars_none hV
  obtain ⟨a0, rfl, rfl, rfl, w0⟩ := open_int Try.underlying3 (hval 0 3 v0 rfl rfl) h0
  have k1 := h1
  have lt1 : ∀ x ∈ p1, x.block < W.heap.size := by obtain ⟨m, hm⟩ := k1; exact DataW.trod_lt m _ _ _ hm
  obtain ⟨kd1, id1, a1, len1, cap1, z1, rfl, hk1, hi1, w1⟩ := page_arg (hval 1 25 v1 rfl rfl) h1
  obtain ⟨a2, rfl, rfl, rfl, w2⟩ := open_int Try.underlying3 (hval 2 3 v2 rfl rfl) h2
  clear hA0 hval0
  refine (walk a0 kd1 id1 a1 len1 cap1 z1 a2 W w0 hk1 hi1 w1 w2).mono fun e W' ⟨he, bel⟩ => ?_
  subst he
  exact ⟨_, rfl, _, _, _, [], _, [], hW', trodAll_mk1 (shut_bool Try.underlying4 _), (trodAll_cons_mk (shut_int Try.underlying3 w0) (trodAll_cons_mk (Below.trod laidOut (by kernel_rfl) (of_decide_eq_true (by kernel_rfl)) k1 bel lt1) (trodAll_cons_mk (shut_int Try.underlying3 w2) trodAll_mk0))), rfl, bel.frame _, fun h => by cases h⟩

theorem over : Rows.pageNilRow.holds Try.pinned (OpenSpec.ofChange Rows.pageNilSpec) :=
  OpenClaim.holds_of_wide 7 Try.f7 rfl rfl rfl rfl rfl rfl rfl ⟨rfl, rfl, rfl, rfl, rfl⟩ rfl rfl rfl rfl rfl (by kernel_rfl) Try.func7 (by kernel_rfl)
    (of_decide_eq_true (by kernel_rfl)) (by unfold Func.isWrapper; first | (rw [if_pos (by decide +kernel)]; kernel_rfl) | (rw [if_neg (by decide +kernel)]; exact ⟨rfl, rfl⟩))
    (fun os started H enc _ => lifted os started H enc)

end Go.Proofs.Ytcgjolonapndgaa.pageNil
namespace Go.Proofs.Ytcgjolonapndgaa
/-- The statement. -/
theorem pageNil_holds : Rows.PageNilSaid := pageNil.over
#print axioms pageNil_holds
end Go.Proofs.Ytcgjolonapndgaa
