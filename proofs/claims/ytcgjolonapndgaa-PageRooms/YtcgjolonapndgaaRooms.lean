/-
  Proved here: 'klaxonlaw03.PageRooms' (P3.1, P3.2), called with any ints, in any memory, returns true, and its arguments read afterwards as they read before: every load up to the room goes into a page, and one more byte does not. No condition beyond the row's own.
-/
import Derived.Test.YtcgjolonapndgaaRows
import Derived.WalkKit
import Derived.ProofKit
import Derived.OpenShut
import Derived.ShutString
import Derived.ChangeOld
import Derived.Below
import Derived.Test.YtcgjolonapndgaaArgs
namespace Go.Proofs.Ytcgjolonapndgaa.pageRooms
open Go.ChangeShapes Go.WideShapes Go.ChangeAt Go.RowKit
open Go.ChangeMaps (open_string shut_string)
set_option linter.unusedVariables false

theorem own : ownKnob Try.prog.godebug = none := by kernel_rfl
theorem laidOut : laidOutB Try.prog = true := by kernel_rfl

/-! ### The walk -/
theorem isBytes_zeros' (n : Nat) : IsBytes (zeros n) := fun c h => by rw [List.eq_of_mem_replicate h]; omega
set_option maxRecDepth 100000 in
set_option maxHeartbeats 4000000 in
theorem walk (a0 : Int) (a1 : Int) (w : World) (w0 : (Lit.int .i64 a0).wf = true) (w1 : (Lit.int .i64 a1).wf = true) :
    Calls Try.prog 8 #[.int .i64 a0, .int .i64 a1] w fun e w' => e = .returned (.bool true) ∧ Below w.heap.size w w' := by
  have hin0 : -9223372036854775808 ≤ a0 ∧ a0 ≤ 9223372036854775807 := by
    simp only [Lit.wf, Bool.and_eq_true, decide_eq_true_eq] at w0
    exact w0
  clear w0 w1
  by_cases c0 : a1 < 0
  · go_enter Try.func8, Try.ntmps8
    go_wp2_with (first | (go_at_call 9; refine (live_any _).mono ?_; rintro e w2 ⟨rfl, hb2⟩))
    go_ret
    exact ⟨rfl, hb2⟩
  have d0 : decide (a1 < 0) = false := by simpa using c0
  by_cases c1 : 20000 < a1
  · go_enter Try.func8, Try.ntmps8
    go_wp2_with (first | (go_at_call 9; refine (live_any _).mono ?_; rintro e w2 ⟨rfl, hb2⟩))
    go_ret
    exact ⟨rfl, hb2⟩
  have d1 : decide (20000 < a1) = false := by simpa using c1
  obtain ⟨n, rfl⟩ : ∃ n : Nat, a1 = n := ⟨a1.toNat, by omega⟩
  have hmk := makeZ w n (by omega)
  unfold slV at hmk
  have hB1 := (Below.refl w.heap.size w).alloc (Nat.le_refl _) (.cells ((zeros n).map (Value.int .u8)).toArray 5)
  have hbt : Bts (w.alloc (.cells ((zeros n).map (Value.int .u8)).toArray 5)) (.slice (some ⟨w.heap.size, 0, none⟩) n n) (zeros n) := by
    have := bts_block (W := w.alloc (.cells ((zeros n).map (Value.int .u8)).toArray 5)) (zeros n) (heap_alloc_new w _)
    simpa [zeros] using this
  generalize w.alloc (.cells ((zeros n).map (Value.int .u8)).toArray 5) = W1 at hmk hB1 hbt
  have hz1 := hB1.size
  by_cases hs : a0 < 64 ∨ 8192 < a0
  · go_enter Try.func8, Try.ntmps8
    go_wp2_with (first | (go_at_call 10; refine (put_size _ _ _ _ _ hs).mono ?_; rintro e w2 ⟨rfl, hb2⟩) | (go_at_call 16; refine (room_bad _ _ hs).mono ?_; rintro e w3 ⟨rfl, hw3⟩; subst w3) | (go_at_call 14; refine (num_any _ _ (by omega) (by omega)).mono ?_; rintro e w5 ⟨rfl, hw5⟩; subst w5) | (go_at_call 9; refine (live_any _).mono ?_; rintro e w6 ⟨rfl, hb6⟩))
    go_ret
    have hB2 := hB1.trans (hb2.mono hz1)
    exact ⟨rfl, hB2.trans (hb6.mono hB2.size)⟩
  obtain ⟨size, rfl⟩ : ∃ s : Nat, a0 = s := ⟨a0.toNat, by omega⟩
  have h1 : 64 ≤ size := by omega
  have h2 : size ≤ 8192 := by omega
  clear hs
  have hr0 : ((size : Int) - 11 == 0) = false := by simp; omega
  by_cases hl : n + 11 ≤ size
  · have hle : decide ((n : Int) ≤ (size : Int) - 11) = true := by simp; omega
    go_enter Try.func8, Try.ntmps8
    go_wp2_with (first | (go_at_call 10; refine (put_ok size 1 0 _ (zeros n) _ h1 h2 (by omega) (by decide) hbt (isBytes_zeros' n) (by simp [zeros]; omega)).mono ?_; rintro e w2 ⟨rfl, hrow2, hb2⟩; clear hrow2) | (go_at_call 16; refine (room_ok _ _ (by omega) (by omega)).mono ?_; rintro e w3 ⟨rfl, hw3⟩; subst w3) | (go_at_call 14; refine (num_any _ _ (by omega) (by omega)).mono ?_; rintro e w5 ⟨rfl, hw5⟩; subst w5) | (go_at_call 9; refine (live_any _).mono ?_; rintro e w6 ⟨rfl, hb6⟩))
    go_ret
    have hB2 := hB1.trans (hb2.mono hz1)
    exact ⟨rfl, hB2.trans (hb6.mono hB2.size)⟩
  · have hle : decide ((n : Int) ≤ (size : Int) - 11) = false := by simp; omega
    have hs0 : ((0 : Int) == (size : Int)) = false := by simp; omega
    go_enter Try.func8, Try.ntmps8
    go_wp2_with (first | (go_at_call 10; refine (put_long _ _ _ _ n _ _ (by omega) (by omega) (by omega) (by omega)).mono ?_; rintro e w2 ⟨rfl, hb2⟩) | (go_at_call 16; refine (room_ok _ _ (by omega) (by omega)).mono ?_; rintro e w3 ⟨rfl, hw3⟩; subst w3) | (go_at_call 14; refine (num_any _ _ (by omega) (by omega)).mono ?_; rintro e w5 ⟨rfl, hw5⟩; subst w5) | (go_at_call 9; refine (live_any _).mono ?_; rintro e w6 ⟨rfl, hb6⟩))
    go_ret
    have hB2 := hB1.trans (hb2.mono hz1)
    exact ⟨rfl, hB2.trans (hb6.mono hB2.size)⟩

/-! ### THE ROW's STEP: WRITTEN OUT: LEAVE IT -/
set_option maxRecDepth 100000 in
theorem lifted (os : Os) (started : os.Started) (H : Type) (enc : TypeId × Value → H) :
    ReturnsInHanded {} Try.checked os 8 .any (Rows.pageRoomsSpec.pre6 enc Try.prog Try.f8 Rows.pageRoomsRow.domain false) (Rows.pageRoomsSpec.post enc Try.prog Try.f8 false true false false) := by
  refine returnsInHanded_of_change (C := Try.checked) own started (by kernel_rfl) Try.func8
    (ChangeSpec.witness6 (enc := enc) (C := Try.checked) false ⟨#[], #[.int .i64 0, .int .i64 0], []⟩ 8 (by kernel_rfl) (by kernel_rfl) (by kernel_rfl) (by kernel_rfl)) ?_
  intro W base args ds gs before hval0 hW hcnd _
  have hval : ∀ (j : Nat) t v, Try.f8.params[j]? = some t → args[j]? = some v → Value.okWide Try.prog W .any base t v := hval0
  have hW' := hW
  obtain ⟨p, q, hA0, hV, rfl, hfz, hnd⟩ := hW
  have hA : DataW.TrodAll enc Try.prog W 0 (fun _ => true) true Try.f8.params.toList args.toList ds p := hA0
  rw [Try.params8] at hA hval
  obtain ⟨v0, vs0, d0, ds0, p0, q0, hargs, rfl, rfl, h0, r0⟩ := trodAll_cons hA
  obtain ⟨v1, vs1, d1, ds1, p1, q1, rfl, rfl, rfl, h1, r1⟩ := trodAll_cons r0
  obtain ⟨rfl, rfl, rfl⟩ := trodAll_nil r1
  obtain rfl : args = #[v0, v1] := by cases args; simp_all
  obtain ⟨rfl, rfl⟩ := trodVars_none hV
  obtain ⟨a0, rfl, rfl, rfl, w0⟩ := open_int Try.underlying3 (hval 0 3 v0 rfl rfl) h0
  obtain ⟨a1, rfl, rfl, rfl, w1⟩ := open_int Try.underlying3 (hval 1 3 v1 rfl rfl) h1
  clear hA0 hval0
  simp only [List.append_nil] at hW'
  refine (walk a0 a1 W w0 w1).mono fun e W' ⟨he, bel⟩ => ?_
  subst he
  exact ⟨_, rfl, _, _, _, [], _, [], hW', trodAll_mk1 (shut_bool Try.underlying4 _), (trodAll_cons_mk (shut_int Try.underlying3 w0) (trodAll_cons_mk (shut_int Try.underlying3 w1) trodAll_mk0)), rfl, bel.frame _, fun h => by cases h⟩

theorem over : Rows.pageRoomsRow.holds Try.pinned (OpenSpec.ofChange Rows.pageRoomsSpec) :=
  OpenClaim.holds_of_wide 8 Try.f8 rfl rfl rfl rfl rfl rfl rfl ⟨rfl, rfl, rfl, rfl, rfl⟩ rfl rfl rfl rfl rfl (by kernel_rfl) Try.func8 (by kernel_rfl)
    (of_decide_eq_true (by kernel_rfl)) (by unfold Func.isWrapper; first | (rw [if_pos (by decide +kernel)]; kernel_rfl) | (rw [if_neg (by decide +kernel)]; exact ⟨rfl, rfl⟩))
    (fun os started H enc _ => lifted os started H enc)

end Go.Proofs.Ytcgjolonapndgaa.pageRooms
namespace Go.Proofs.Ytcgjolonapndgaa
/-- The statement. -/
theorem pageRooms_holds : Rows.PageRoomsSaid := pageRooms.over
#print axioms pageRooms_holds
end Go.Proofs.Ytcgjolonapndgaa
