/- MetaBack: a meta that may be is told by its bytes; with one of them another one, it is not. Conditions: none beyond the row's. -/
import Derived.Test.YtcgjolonapndgabDoorMTurn
import Derived.Test.YtcgjolonapndgabDoorTie
import Derived.Test.YtcgjolonapndgabDoorCards
import Derived.SevenTiedAt
namespace Go.Proofs.YtcgjolonapndgabDoor.metaBack
open Go.ChangeShapes Go.WideShapes Go.ChangeAt Go.RowKit Go.Maps Go.ChangeMaps Go.MapKept
set_option linter.unusedVariables false
theorem at_index (g n i : Nat) (h : i < n) (W : World) : (Instr.indexAt 25 (.slice (some ⟨g, 0, none⟩) n n) (.int .i64 (i : Int))).run Tryd.prog W = .ok (.pointer (some ⟨g, i, none⟩)) W := by
  rw [run_indexAt_slice W 25 ⟨g, 0, none⟩ n n .i64 i elem33, if_pos (by omega), size5]
  simp [Result.andThen, add_at]
set_option maxRecDepth 100000 in
set_option maxHeartbeats 4000000 in
theorem walk (q : Nat) (r k d : Int) (a1 : Int) (a2 : Int) (w : World) (hq : q < 2 ^ 64) (hr : In6 r) (hk : In6 k) (hd : In6 d) (w1 : (Lit.int .i64 a1).wf = true) (w2 : (Lit.int .u8 a2).wf = true) :
    Calls Tryd.prog 8 #[.agg #[.int .u64 q, .int .i64 r, .int .i64 k, .int .i64 d], .int .i64 a1, .int .u8 a2] w fun e w' => e = .returned (.bool true) ∧ Below w.heap.size w w' := by
  have hB1 := (Below.refl w.heap.size w).alloc (Nat.le_refl _) (.cells #[.int .u64 q, .int .i64 r, .int .i64 k, .int .i64 d] 24)
  have hm1 : MetaAt (w.alloc (.cells #[.int .u64 q, .int .i64 r, .int .i64 k, .int .i64 d] 24)) w.heap.size q r k d := heap_alloc_new w _
  have hbb := bounds_u8 w2
  clear w1 w2
  by_cases hok : mok q r k d
  · have hput := fun W => mput_ex q r k d W hq
    have hM : isMeta (metaB q r k d) = true := by simpa using isMeta_meta q r k d [] hq hok (by simp)
    have hby := metaB_bytes q r k d
    have hlen := metaB_len q r k d
    have hget := fun v W (hb : Bts W v (metaB q r k d)) => mget_yes v _ W hb hby hM
    rw [show seqOf (metaB q r k d) = q by simpa using seqOf_meta q r k d [] hq, show keysI (metaB q r k d) = k by simpa using keysI_meta q r k d [] hk.1 hk.2, show (rootOf (metaB q r k d) : Int) = r by simpa using root_ok q r k d [] hok.2.1 hok.2.2.1, show (depthOf (metaB q r k d) : Int) = d by simpa using depth_ok q r k d [] hok.2.2.2.2.2.1 hok.2.2.2.2.2.2] at hget
    obtain ⟨o1, o2, o3, o4, o5, o6, o7⟩ := hok
    have g1 : ((q : Int) == 0) = false := by simp; exact o1
    have g2 : decide (r < 0) = false := by simp; omega
    have g3 : decide (16384 < r) = false := by simp; omega
    have g4 : decide (k < 0) = false := by simp; omega
    have g5 : decide (2147483647 < k) = false := by simp; omega
    have g6 : decide (d < 0) = false := by simp; omega
    have g7 : decide (64 < d) = false := by simp; omega
    have hno := not_set hM hby
    generalize metaB q r k d = L at *
    clear hM hr hk hd
    by_cases hat : 0 ≤ a1 ∧ a1 < 36
    · obtain ⟨i, rfl⟩ : ∃ i : Nat, a1 = i := ⟨a1.toNat, by omega⟩
      have hi : i < 36 := by omega
      have p1 : decide ((i : Int) < 0) = false := by simp
      have p2 : decide ((36 : Int) ≤ (i : Int)) = false := by simp; omega
      have hcb := hby _ (getD_mem L 0 i (by omega))
      have hnoi := hno i hi a2 (by omega)
      by_cases he : L.getD i 0 = a2
      · clear hno hnoi
        go_enter Tryd.func8, Tryd.ntmps8
        go_wp2_with (first | (go_at_call 12; refine (hput _).mono ?_; rintro e w2 ⟨b2, rfl, hg2, hrow2, hb2⟩; have hm2 := hm1.keep (hb2.block _ hm1.lt); have hbt := hrow2.bts; rw [hlen] at hbt) | (go_at_call 10; refine (hget _ _ hbt).mono ?_; rintro e w3 ⟨rfl, hb3⟩; have hm3 := hm2.keep (hb3.block _ hm2.lt); obtain ⟨c0, c1, c2, c3⟩ := hm3.cells; have hlt3 := hm3.lt; have hB3 := (hB1.trans (hb2.mono hB1.size)).trans (hb3.mono (Nat.le_trans hB1.size hb2.size)); have hrow3 : Row w3 b2 L := (hb3.block _ hrow2.lt).trans hrow2; have hix := at_index b2 36 i hi; have hcl := hrow3.cell i (by omega); have hltb := hrow3.lt; rw [he] at hcl; clear hget hput hm1 hm2 hbt hrow2) | (go_at_call 14; refine (num_any _ _ (by omega) (by omega)).mono ?_; rintro e w' ⟨rfl, hw'⟩; subst w') | (go_at_call 9; refine (live_any _).mono ?_; rintro e w4 ⟨rfl, hb4⟩))
        go_ret
        exact ⟨rfl, (hB3.alloc hB3.size _).trans (hb4.mono (Nat.le_trans hB3.size (by simp)))⟩
      · have hne : (L.getD i 0 == a2) = false := by simpa using he
        have hX := hnoi (fun e => he e.symm)
        have hbX : IsBytes (L.set i a2) := fun z hz => by
          rcases List.mem_or_eq_of_mem_set hz with h1 | h1
          · exact hby z h1
          · rw [h1]; omega
        have hgetX := fun v W (hb : Bts W v (L.set i a2)) => mget_no v _ W hb hbX hX
        have hlenX : (L.set i a2).length = 36 := by simp [hlen]
        generalize hy : L.getD i 0 = y at *
        clear hno hnoi
        go_enter Tryd.func8, Tryd.ntmps8
        go_wp2_with (first | (go_at_call 12; refine (hput _).mono ?_; rintro e w2 ⟨b2, rfl, hg2, hrow2, hb2⟩; have hm2 := hm1.keep (hb2.block _ hm1.lt); have hbt := hrow2.bts; rw [hlen] at hbt) | (go_at_call 10; refine (hget _ _ hbt).mono ?_; rintro e w3 ⟨rfl, hb3⟩; have hm3 := hm2.keep (hb3.block _ hm2.lt); obtain ⟨c0, c1, c2, c3⟩ := hm3.cells; have hlt3 := hm3.lt; have hB3 := (hB1.trans (hb2.mono hB1.size)).trans (hb3.mono (Nat.le_trans hB1.size hb2.size)); have hrow3 : Row w3 b2 L := (hb3.block _ hrow2.lt).trans hrow2; have hix := at_index b2 36 i hi; have hcl := hrow3.cell i (by omega); rw [hy] at hcl; have hfr := hrow3.frozen i; have hltb := hrow3.lt; clear hget hput hm1 hm2 hbt hrow2) | (go_at_call 14; refine (num_any _ _ (by omega) (by omega)).mono ?_; rintro e w' ⟨rfl, hw'⟩; subst w'))
        have hrs := hrow3.set (p := i) a2
        have hrowX := ((heap_alloc (w3.setCell ⟨b2, i, none⟩ (.int .u8 a2)) (.cells #[.int .u64 q, .int .i64 r, .int .i64 k, .int .i64 d] 24)).2 b2 hrs.lt).trans hrs
        have hbtX := Row.bts hrowX
        rw [hlenX] at hbtX
        have hge2 : w.heap.size ≤ b2 := Nat.le_trans hB1.size hg2
        have hBs := hB3.setCell (p := ⟨b2, i, none⟩) hge2 (.int .u8 a2)
        have hBX := hBs.alloc hBs.size (.cells #[.int .u64 q, .int .i64 r, .int .i64 k, .int .i64 d] 24)
        refine (hgetX _ _ hbtX).mono ?_
        rintro e w5 ⟨rfl, hb5⟩
        have hB5 := hBX.trans (hb5.mono hBX.size)
        clear hgetX hbtX hrowX hrs
        go_wp2_with (first | (go_at_call 14; refine (num_any _ _ (by omega) (by omega)).mono ?_; rintro e w' ⟨rfl, hw'⟩; subst w') | (go_at_call 9; refine (live_any _).mono ?_; rintro e w6 ⟨rfl, hb6⟩))
        go_ret
        exact ⟨rfl, (hB5.alloc hB5.size _).trans (hb6.mono (Nat.le_trans hB5.size (by simp)))⟩
    · have hge : ¬ (0 ≤ a1 ∧ a1 < 36) := hat
      have hor : a1 < 0 ∨ 36 ≤ a1 := by omega
      clear hno hat hge
      go_enter Tryd.func8, Tryd.ntmps8
      go_wp2_with (first | (go_at_call 12; refine (hput _).mono ?_; rintro e w2 ⟨b2, rfl, hg2, hrow2, hb2⟩; have hm2 := hm1.keep (hb2.block _ hm1.lt); have hbt := hrow2.bts; rw [hlen] at hbt) | (go_at_call 10; refine (hget _ _ hbt).mono ?_; rintro e w3 ⟨rfl, hb3⟩; have hm3 := hm2.keep (hb3.block _ hm2.lt); obtain ⟨c0, c1, c2, c3⟩ := hm3.cells; have hlt3 := hm3.lt; have hB3 := (hB1.trans (hb2.mono hB1.size)).trans (hb3.mono (Nat.le_trans hB1.size hb2.size)); clear hget hput hm1 hm2 hbt hrow2) | (go_at_call 14; refine (num_any _ _ (by omega) (by omega)).mono ?_; rintro e w' ⟨rfl, hw'⟩; subst w') | (go_at_call 9; refine (live_any _).mono ?_; rintro e w4 ⟨rfl, hb4⟩))
      all_goals first
        | omega
        | (go_ret; exact ⟨rfl, (hB3.alloc hB3.size _).trans (hb4.mono (Nat.le_trans hB3.size (by simp)))⟩)
  · go_enter Tryd.func8, Tryd.ntmps8
    go_wp2_with (first | (go_at_call 9; refine (live_any _).mono ?_; rintro e w4 ⟨rfl, hb4⟩))
    all_goals first
      | (go_ret; exact ⟨rfl, ((Below.refl w.heap.size w).alloc (Nat.le_refl _) _).trans (hb4.mono (by simp))⟩)
      | (exfalso; apply hok; unfold mok; omega)
/-! ### THE ROW's STEP -/
theorem own : ownKnob Tryd.prog.godebug = none := by kernel_rfl
theorem laidOut : laidOutB Tryd.prog = true := by kernel_rfl
set_option maxRecDepth 100000 in
theorem lifted (os : Os) (started : os.Started) (H : Type) (enc : TypeId × Value → H) :
    ReturnsInHanded {} Tryd.checked os 8 .any (fun w args => (Rows.metaBackSpec.pre enc Tryd.prog Tryd.f8 [] false w args ∧ laidMetH Tryd.prog laidV w) ∧ sizedMet enc Tryd.prog Tryd.f8 (OpenSpec.ofChange Rows.metaBackSpec) false w args)
      (Rows.metaBackSpec.post enc Tryd.prog Tryd.f8 false true false false) := by
  refine returnsInHanded_of_change_and (C := Tryd.checked) (X := fun w _ => laidMetH Tryd.prog laidV w) (fun _ _ _ hh h => h.of_heap hh) own started (by kernel_rfl) Tryd.func8
    (ChangeSpec.witness_shaped (enc := enc) (C := Tryd.checked) (os := os) (X := fun w _ => laidMetH Tryd.prog laidV w) false (World.laidAll Tryd.prog os laidV) #[.agg #[.int .u64 0, .int .i64 0, .int .i64 0, .int .i64 0], .int .i64 0, .int .u8 0] 8 (World.laidAll_os _ _ _)
      (World.shaped_of_ZipB (by kernel_rfl) (by kernel_rfl)) (by kernel_rfl) (by kernel_rfl) (by kernel_rfl) (laidV_ok os _)) ?_
  intro W base args ds gs before hval0 hW _ _ hL _
  have hval : ∀ (j : Nat) t v, Tryd.f8.params[j]? = some t → args[j]? = some v → Value.okWide Tryd.prog W .any base t v := hval0
  have hW' := hW
  obtain ⟨p, q, hA0, hV, rfl, _, _⟩ := hW
  have hA : DataW.TrodAll enc Tryd.prog W 0 (fun _ => true) true Tryd.f8.params.toList args.toList ds p := hA0
  rw [Tryd.params8] at hA hval
  obtain ⟨v0, vs0, d0, ds0, p0, q0, hargs, rfl, rfl, h0, r0⟩ := trodAll_cons hA
  obtain ⟨v1, vs1, d1, ds1, p1, q1, rfl, rfl, rfl, h1, r1⟩ := trodAll_cons r0
  obtain ⟨v2, vs2, d2, ds2, p2, q2, rfl, rfl, rfl, h2, r2⟩ := trodAll_cons r1
  obtain ⟨rfl, rfl, rfl⟩ := trodAll_nil r2
  obtain rfl : args = #[v0, v1, v2] := by cases args; simp_all
  obtain ⟨rfl, rfl⟩ := trodVars_none hV
  have k0 := h0
  have lt0 : ∀ x ∈ p0, x.block < W.heap.size := by obtain ⟨m, hm⟩ := k0; exact DataW.trod_lt m _ _ _ hm
  obtain ⟨q0', r0', k0', d0', rfl, b00, b01, b02, b03⟩ := meta_arg (hval 0 24 v0 rfl rfl) h0
  obtain ⟨a1, rfl, rfl, rfl, w1⟩ := open_int Tryd.underlying3 (hval 1 3 v1 rfl rfl) h1
  obtain ⟨a2, rfl, rfl, rfl, w2⟩ := open_int Tryd.underlying5 (hval 2 5 v2 rfl rfl) h2
  clear hA0 hval0 hL
  refine (walk q0' r0' k0' d0' a1 a2 W b00 b01 b02 b03 w1 w2).mono fun e W' ⟨he, bel⟩ => ?_
  subst he
  exact ⟨_, rfl, _, _, _, [], _, [], hW', trodAll_mk1 (shut_bool Tryd.underlying4 _), (trodAll_cons_mk (Below.trod laidOut (by kernel_rfl) (of_decide_eq_true (by kernel_rfl)) k0 bel lt0) (trodAll_cons_mk (shut_int Tryd.underlying3 w1) (trodAll_cons_mk (shut_int Tryd.underlying5 w2) trodAll_mk0))), rfl, bel.frame _, fun h => by cases h⟩

theorem over : Rows.MetaBackSaid :=
  OpenClaim.holds_of_wide 8 Tryd.f8 rfl rfl rfl rfl rfl rfl rfl ⟨rfl, rfl, rfl, rfl, rfl⟩ rfl rfl rfl rfl rfl (by kernel_rfl) Tryd.func8 (by kernel_rfl)
    (of_decide_eq_true (by kernel_rfl)) (by unfold Func.isWrapper; first | (rw [if_pos (by decide +kernel)]; kernel_rfl) | (rw [if_neg (by decide +kernel)]; exact ⟨rfl, rfl⟩))
    (fun os started H enc _ => lifted os started H enc)
end Go.Proofs.YtcgjolonapndgabDoor.metaBack
namespace Go.Proofs.YtcgjolonapndgabDoor
open Go
/-- The card. -/
theorem metaBack_card : Rows.MetaBackCardSaid :=
  Claim7.holds_tied_plain_at .later [] [.data, .pinned] true (true, "95dc7a7c040b1451739586a7f6944ef4aae404b000e64647a562c9b24fc2bce7") false metaBack.over (fun _ h => by cases h) (by kernel_rfl) (fun _ h => by cases h) metaBack_row_tie rfl ⟨rfl, rfl⟩ (by kernel_rfl) rfl
    (fun f fn hf hfn => by
      obtain rfl : f = 8 := Option.some.inj ((show Tryd.prog.funcNamed "klaxon/klaxonlaw04.MetaBack" = some 8 by kernel_rfl).symm.trans hf) |>.symm
      obtain rfl : fn = Tryd.f8 := (Option.some.inj (Tryd.func8.symm.trans hfn)).symm
      exact ⟨by kernel_rfl, fun j t ht => by
        rw [Tryd.params8] at ht
        have hm : t ∈ [24, 3, 5] := by simpa using Array.mem_of_getElem? ht
        have hall : ([24, 3, 5].all fun u => !Tryd.prog.wantsStandIn u) = true := by kernel_rfl
        exact (show Tryd.prog.wantsStandIn t = false by simpa using List.all_eq_true.1 hall t hm)⟩)
    (by kernel_rfl)
#print axioms metaBack_card
end Go.Proofs.YtcgjolonapndgabDoor
