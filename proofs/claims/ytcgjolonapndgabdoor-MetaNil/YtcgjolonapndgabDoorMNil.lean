/- MetaNil: of no disk, Best and Write tell ErrNone. Conditions: none beyond the row's. -/
import Derived.Test.YtcgjolonapndgabDoorMArgs
import Derived.Test.YtcgjolonapndgabDoorTie
import Derived.Test.YtcgjolonapndgabDoorCards
import Derived.SevenTiedAt
namespace Go.Proofs.YtcgjolonapndgabDoor.metaNil
open Go.ChangeShapes Go.WideShapes Go.ChangeAt Go.RowKit Go.Maps Go.ChangeMaps Go.MapKept
set_option linter.unusedVariables false
set_option maxRecDepth 100000 in
set_option maxHeartbeats 4000000 in
theorem walk (a0 : Int) (q1 : Nat) (r1 k1 d1 : Int) (w : World) (w0 : (Lit.int .i64 a0).wf = true) (hq1 : q1 < 2 ^ 64) (hr1 : In6 r1) (hk1 : In6 k1) (hd1 : In6 d1) :
    Calls Tryd.prog 7 #[.int .i64 a0, .agg #[.int .u64 q1, .int .i64 r1, .int .i64 k1, .int .i64 d1]] w fun e w' => e = .returned (.bool true) ∧ Below w.heap.size w w' := by
  clear w0 hr1 hk1 hd1
  have hB1 := (Below.refl w.heap.size w).alloc (Nat.le_refl _) (.cells #[.int .u64 q1, .int .i64 r1, .int .i64 k1, .int .i64 d1] 24)
  have hm1 : MetaAt (w.alloc (.cells #[.int .u64 q1, .int .i64 r1, .int .i64 k1, .int .i64 d1] 24)) w.heap.size q1 r1 k1 d1 := heap_alloc_new w _
  go_enter Tryd.func7, Tryd.ntmps7
  go_wp2_with (first | (go_at_call 28; refine (nil28 _ _).mono ?_; rintro e w2 ⟨rfl, hb2⟩; have hm2 := hm1.keep (hb2.block _ hm1.lt); obtain ⟨c0, c1, c2, c3⟩ := hm2.cells; have hlt2 := hm2.lt; have hB2 := hB1.trans (hb2.mono hB1.size)) | (go_at_call 14; refine (num_any _ _ (by omega) (by omega)).mono ?_; rintro e w' ⟨rfl, hw'⟩; subst w'))
  refine (nil18 _ _ _ _ _ _).mono ?_
  rintro e w3 ⟨rfl, hb3⟩
  have hB3 := (hB2.alloc hB2.size (.cells #[.int .u64 0, .int .i64 0, .int .i64 0, .int .i64 0] 24)).trans (hb3.mono (Nat.le_trans hB2.size (by simp)))
  go_wp2_with (first | (go_at_call 14; refine (num_any _ _ (by omega) (by omega)).mono ?_; rintro e w' ⟨rfl, hw'⟩; subst w') | (go_at_call 9; refine (live_any _).mono ?_; rintro e w4 ⟨rfl, hb4⟩))
  go_ret
  exact ⟨rfl, hB3.trans (hb4.mono hB3.size)⟩
/-! ### THE ROW's STEP -/
theorem own : ownKnob Tryd.prog.godebug = none := by kernel_rfl
theorem laidOut : laidOutB Tryd.prog = true := by kernel_rfl
set_option maxRecDepth 100000 in
theorem lifted (os : Os) (started : os.Started) (H : Type) (enc : TypeId × Value → H) :
    ReturnsInHanded {} Tryd.checked os 7 .any (fun w args => (Rows.metaNilSpec.pre enc Tryd.prog Tryd.f7 [] false w args ∧ laidMetH Tryd.prog laidV w) ∧ sizedMet enc Tryd.prog Tryd.f7 (OpenSpec.ofChange Rows.metaNilSpec) false w args)
      (Rows.metaNilSpec.post enc Tryd.prog Tryd.f7 false true false false) := by
  refine returnsInHanded_of_change_and (C := Tryd.checked) (X := fun w _ => laidMetH Tryd.prog laidV w) (fun _ _ _ hh h => h.of_heap hh) own started (by kernel_rfl) Tryd.func7
    (ChangeSpec.witness_shaped (enc := enc) (C := Tryd.checked) (os := os) (X := fun w _ => laidMetH Tryd.prog laidV w) false (World.laidAll Tryd.prog os laidV) #[.int .i64 0, .agg #[.int .u64 0, .int .i64 0, .int .i64 0, .int .i64 0]] 8 (World.laidAll_os _ _ _)
      (World.shaped_of_ZipB (by kernel_rfl) (by kernel_rfl)) (by kernel_rfl) (by kernel_rfl) (by kernel_rfl) (laidV_ok os _)) ?_
  intro W base args ds gs before hval0 hW _ _ hL _
  have hval : ∀ (j : Nat) t v, Tryd.f7.params[j]? = some t → args[j]? = some v → Value.okWide Tryd.prog W .any base t v := hval0
  have hW' := hW
  obtain ⟨p, q, hA0, hV, rfl, _, _⟩ := hW
  have hA : DataW.TrodAll enc Tryd.prog W 0 (fun _ => true) true Tryd.f7.params.toList args.toList ds p := hA0
  rw [Tryd.params7] at hA hval
  obtain ⟨v0, vs0, d0, ds0, p0, q0, hargs, rfl, rfl, h0, r0⟩ := trodAll_cons hA
  obtain ⟨v1, vs1, d1, ds1, p1, q1, rfl, rfl, rfl, h1, r1⟩ := trodAll_cons r0
  obtain ⟨rfl, rfl, rfl⟩ := trodAll_nil r1
  obtain rfl : args = #[v0, v1] := by cases args; simp_all
  obtain ⟨rfl, rfl⟩ := trodVars_none hV
  obtain ⟨a0, rfl, rfl, rfl, w0⟩ := open_int Tryd.underlying3 (hval 0 3 v0 rfl rfl) h0
  have k1 := h1
  have lt1 : ∀ x ∈ p1, x.block < W.heap.size := by obtain ⟨m, hm⟩ := k1; exact DataW.trod_lt m _ _ _ hm
  obtain ⟨q1', r1', k1', d1', rfl, b10, b11, b12, b13⟩ := meta_arg (hval 1 24 v1 rfl rfl) h1
  clear hA0 hval0 hL
  refine (walk a0 q1' r1' k1' d1' W w0 b10 b11 b12 b13).mono fun e W' ⟨he, bel⟩ => ?_
  subst he
  exact ⟨_, rfl, _, _, _, [], _, [], hW', trodAll_mk1 (shut_bool Tryd.underlying4 _), (trodAll_cons_mk (shut_int Tryd.underlying3 w0) (trodAll_cons_mk (Below.trod laidOut (by kernel_rfl) (of_decide_eq_true (by kernel_rfl)) k1 bel lt1) trodAll_mk0)), rfl, bel.frame _, fun h => by cases h⟩

theorem over : Rows.MetaNilSaid :=
  OpenClaim.holds_of_wide 7 Tryd.f7 rfl rfl rfl rfl rfl rfl rfl ⟨rfl, rfl, rfl, rfl, rfl⟩ rfl rfl rfl rfl rfl (by kernel_rfl) Tryd.func7 (by kernel_rfl)
    (of_decide_eq_true (by kernel_rfl)) (by unfold Func.isWrapper; first | (rw [if_pos (by decide +kernel)]; kernel_rfl) | (rw [if_neg (by decide +kernel)]; exact ⟨rfl, rfl⟩))
    (fun os started H enc _ => lifted os started H enc)
end Go.Proofs.YtcgjolonapndgabDoor.metaNil
namespace Go.Proofs.YtcgjolonapndgabDoor
open Go
/-- The card. -/
theorem metaNil_card : Rows.MetaNilCardSaid :=
  Claim7.holds_tied_plain_at .later [] [.data, .pinned] true (true, "95dc7a7c040b1451739586a7f6944ef4aae404b000e64647a562c9b24fc2bce7") false metaNil.over (fun _ h => by cases h) (by kernel_rfl) (fun _ h => by cases h) metaNil_row_tie rfl ⟨rfl, rfl⟩ (by kernel_rfl) rfl
    (fun f fn hf hfn => by
      obtain rfl : f = 7 := Option.some.inj ((show Tryd.prog.funcNamed "klaxon/klaxonlaw04.MetaNil" = some 7 by kernel_rfl).symm.trans hf) |>.symm
      obtain rfl : fn = Tryd.f7 := (Option.some.inj (Tryd.func7.symm.trans hfn)).symm
      exact ⟨by kernel_rfl, fun j t ht => by
        rw [Tryd.params7] at ht
        have hm : t ∈ [3, 24] := by simpa using Array.mem_of_getElem? ht
        have hall : ([3, 24].all fun u => !Tryd.prog.wantsStandIn u) = true := by kernel_rfl
        exact (show Tryd.prog.wantsStandIn t = false by simpa using List.all_eq_true.1 hall t hm)⟩)
    (by kernel_rfl)
#print axioms metaNil_card
end Go.Proofs.YtcgjolonapndgabDoor
