/-
  Proved here: 'klaxonlaw09.LabelsJoined' (P9.9), called with any two lists of labels and any list of names, in any memory, returns true, and its arguments read afterwards as they read before: Join of two sets in any order is the same, joined with a part of itself a set is itself, and Only and Without part a set in two that are joined to it. No condition beyond the row's own (each slice and string within the reach that every row states).
-/
import Derived.Test.YtckchabcnmkbeaaRows
import Derived.WalkKit
import Derived.ProofKit
import Derived.OpenShut
import Derived.ShutString
import Derived.ChangeOld
import Derived.Below
import Derived.SizedLaws
import Derived.Test.YtckchabcnmkbeaaPk
namespace Go.Proofs.Ytckchabcnmkbeaa.labelsJoined
open Go.ChangeShapes Go.WideShapes Go.ChangeAt Go.RowKit
open Go.ChangeMaps (open_string shut_string)
set_option linter.unusedVariables false
theorem own : ownKnob Try.prog.godebug = none := by kernel_rfl
theorem laidOut : laidOutB Try.prog = true := by kernel_rfl
set_option maxRecDepth 100000 in
set_option maxHeartbeats 4000000 in
theorem walk_out (v : Value) (a : List Lb) (u : Value) (b : List Lb) (nv : Value) (ns : List ByteArray) (w : World) (hv : Lbs w v a) (hr : LbsR a) (hL : a.length ≤ 140737488351232) (hu : Lbs w u b) (hm : LbsR b) (hM : b.length ≤ 140737488351232) (hn : Txs w nv ns) (hN : ns.length ≤ 140737488351232)
    (h : setB a = false ∨ (setB a = true ∧ setB b = false) ∨ (setB a = true ∧ setB b = true ∧ 60 < ns.length)) :
    Calls Try.prog 7 #[v, u, nv] w fun e w' => e = .returned (.bool true) ∧ Below w.heap.size w w' := by
  have hlive := fun W => live_ok W
  have hs1 := set_any v a w hv hr (by omega)
  have hs2 : ∀ W, Below w.heap.size w W → Calls Try.prog 16 #[u] W fun e w' => e = .returned (.bool (setB b)) ∧ Below W.heap.size W w' := fun W h => set_any _ b W (hu.grow h) hm (by omega)
  obtain ⟨an, cn, rfl⟩ := hn.shape
  have tok1 : True := trivial
  rcases h with h1 | ⟨h1, h2⟩ | ⟨h1, h2, h3⟩
  · rw [h1] at hs1
    clear hs2 hv hu hn
    go_enter Try.func7, Try.ntmps7
    go_wp2_with (first
      | (go_at_call 16; refine hs1.mono ?_; rintro e w1 ⟨rfl, hb1⟩)
      | (go_at_call 10; refine (hlive _).mono ?_; rintro e w3 ⟨rfl, hb3⟩))
    go_ret
    exact ⟨rfl, hb1.trans (hb3.mono hb1.size)⟩
  · rw [h1] at hs1
    rw [h2] at hs2
    clear hv hu hn
    go_enter Try.func7, Try.ntmps7
    go_wp2_with fail
    refine hs1.mono ?_
    rintro e w1 ⟨rfl, hb1⟩
    go_wp2_with fail
    refine (hs2 _ hb1).mono ?_
    rintro e w2 ⟨rfl, hb2⟩
    have hB2 := hb1.trans (hb2.mono hb1.size)
    go_wp2_with (first
      | (go_at_call 10; refine (hlive _).mono ?_; rintro e w3 ⟨rfl, hb3⟩))
    go_ret
    exact ⟨rfl, hB2.trans (hb3.mono hB2.size)⟩
  · rw [h1] at hs1
    rw [h2] at hs2
    have h3i : (60 : Int) < (ns.length : Int) := by omega
    clear hv hu hn
    go_enter Try.func7, Try.ntmps7
    go_wp2_with fail
    refine hs1.mono ?_
    rintro e w1 ⟨rfl, hb1⟩
    go_wp2_with fail
    refine (hs2 _ hb1).mono ?_
    rintro e w2 ⟨rfl, hb2⟩
    have hB2 := hb1.trans (hb2.mono hb1.size)
    go_wp2_with (first
      | (go_at_call 10; refine (hlive _).mono ?_; rintro e w3 ⟨rfl, hb3⟩))
    go_ret
    exact ⟨rfl, hB2.trans (hb3.mono hB2.size)⟩
set_option maxRecDepth 100000 in
set_option maxHeartbeats 8000000 in
theorem walk_in (v : Value) (a : List Lb) (u : Value) (b : List Lb) (nv : Value) (ns : List ByteArray) (w : World) (hv : Lbs w v a) (hu : Lbs w u b) (hn : Txs w nv ns) (h1 : setB a = true) (h2 : setB b = true) (h60 : ns.length ≤ 60) :
    Calls Try.prog 7 #[v, u, nv] w fun e w' => e = .returned (.bool true) ∧ Below w.heap.size w w' := by
  have ha : IsSet a := setB_iff.1 h1
  have hb : IsSet b := setB_iff.1 h2
  have ra := ha.short.reach
  have rb := hb.short.reach
  have la := ha.2.2
  have lb := hb.2.2
  have hlive := fun W => live_ok W
  have hs1 := set_any v a w hv ra (by omega)
  have hs2 : ∀ W, Below w.heap.size w W → Calls Try.prog 16 #[u] W fun e w' => e = .returned (.bool (setB b)) ∧ Below W.heap.size W w' := fun W h => set_any _ b W (hu.grow h) rb (by omega)
  rw [h1] at hs1
  rw [h2] at hs2
  obtain ⟨av, cv, rfl⟩ := hv.shape
  obtain ⟨an, cn, rfl⟩ := hn.shape
  have hvk : Hid (∀ W, Below w.heap.size w W → Lbs W (.slice av a.length cv) a) := fun W h => hv.grow h
  have huk : Hid (∀ W, Below w.heap.size w W → Lbs W u b) := fun W h => hu.grow h
  have hnk : Hid (∀ W, Below w.heap.size w W → Txs W (.slice an ns.length cn) ns) := fun W h => hn.grow h
  have h60i : ¬ (60 : Int) < (ns.length : Int) := by omega
  have hpl : Hid ((onlyL a ns).length + (withoutL a ns).length = a.length) := parts_len a ns
  have ho16 := (ha.only ns).2.2
  have hw16 := (ha.without ns).2.2
  clear hv hu hn h1 h2
  go_enter Try.func7, Try.ntmps7
  go_wp2_with fail
  refine hs1.mono ?_
  rintro e w1 ⟨rfl, hb1⟩
  go_wp2_with fail
  refine (hs2 _ hb1).mono ?_
  rintro e w2 ⟨rfl, hb2⟩
  have B2 := hb1.trans (hb2.mono hb1.size)
  clear hs1 hs2 hb1 hb2
  go_wp2_with fail
  refine (join_any _ _ a b w2 (hvk.out _ B2) (huk.out _ B2) ha.1 hb.1 ra rb (by omega) (by omega)).mono ?_
  rintro e w3 ⟨u3, xo, ok, rfl, hq3, ho3, hb3⟩
  have B3 := B2.trans (hb3.mono B2.size)
  go_wp2_with fail
  refine (join_any _ _ b a w3 (huk.out _ B3) (hvk.out _ B3) hb.1 ha.1 rb ra (by omega) (by omega)).mono ?_
  rintro e w4 ⟨u4, yo, is, rfl, hq4, ho4, hb4⟩
  obtain ⟨rfl, rfl⟩ := hq4.symm.one hq3
  have B4 := B3.trans (hb4.mono B3.size)
  clear hq4
  go_wp2_with fail
  refine (only_any _ _ a ns w4 (hvk.out _ B4) (hnk.out _ B4) (by omega) (by omega)).mono ?_
  rintro e w5 ⟨u5, rfl, ho5, hb5⟩
  have B5 := B4.trans (hb5.mono B4.size)
  go_wp2_with fail
  refine (without_any _ _ a ns w5 (hvk.out _ B5) (hnk.out _ B5) (by omega) (by omega)).mono ?_
  rintro e w6 ⟨u6, rfl, ho6, hb6⟩
  have B6 := B5.trans (hb6.mono B5.size)
  have l5 := ho5.sls.grow hb6
  have l6 := ho6.sls
  go_wp2_with fail
  refine (join_any _ _ (withoutL a ns) (onlyL a ns) w6 l6 l5 (ha.without ns).1 (ha.only ns).1 (ha.without ns).short.reach (ha.only ns).short.reach (by omega) (by omega)).mono ?_
  rintro e w7 ⟨u7, zo, whole, rfl, hq7, ho7, hb7⟩
  obtain ⟨hzo, rfl⟩ := join_parts ha hq7
  rw [hzo] at ho7
  have B7 := B6.trans (hb7.mono B6.size)
  clear hq7 hzo
  go_wp2_with fail
  refine (join_any _ _ a (onlyL a ns) w7 (hvk.out _ B7) (l5.grow hb7) ha.1 (ha.only ns).1 ra (ha.only ns).short.reach (by omega) (by omega)).mono ?_
  rintro e w8 ⟨u8, wo, same, rfl, hq8, ho8, hb8⟩
  obtain ⟨hwo, rfl⟩ := join_only ha hq8
  rw [hwo] at ho8
  have B8 := B7.trans (hb8.mono B7.size)
  clear hq8 hwo
  have hx8 : Hid (∀ W, Below w8.heap.size w8 W → Lbs W u3 yo) := fun W h => ho3.sls.grow ((hb4.trans ((hb5.trans ((hb6.trans ((hb7.trans (hb8.mono hb7.size)).mono hb6.size)).mono hb5.size)).mono hb4.size)).trans (h.mono (hb4.trans ((hb5.trans ((hb6.trans ((hb7.trans (hb8.mono hb7.size)).mono hb6.size)).mono hb5.size)).mono hb4.size)).size))
  have hy8 : Lbs w8 u4 yo := ho4.sls.grow (hb5.trans ((hb6.trans ((hb7.trans (hb8.mono hb7.size)).mono hb6.size)).mono hb5.size))
  have hz8 : Lbs w8 u7 a := ho7.sls.grow hb8
  have hyl : yo.length ≤ 16 := by
    rcases hq3 with ⟨_, h, _⟩ | ⟨_, rfl, _⟩
    · exact h.2.2
    · simp
  obtain ⟨a5, c5, rfl⟩ := ho5.shape
  obtain ⟨a6, c6, rfl⟩ := ho6.shape
  have hgets : Hid (is = true → ∀ k, k < a.length → getL yo (a.getD k lb0).name = (a.getD k lb0).value) := by
    intro h k hk
    rcases hq3 with ⟨_, h1, h2⟩ | ⟨h1, _, _⟩
    · exact getL_mem h1.2.1 ((h2 _).2 (.inl (getD_mem a lb0 k hk)))
    · rw [h1] at h; cases h
  have hoo : (is != is) = false := by simp
  have hw8 := ho8.sls
  clear ho3 ho4 ho5 ho6 ho7 ho8 l5 l6 hq3 hb3 hb4 hb5 hb6 hb7 hb8
  generalize hol : (onlyL a ns).length = n5 at *
  generalize hwl : (withoutL a ns).length = n6 at *
  have hsum : (n5 : Int) + (n6 : Int) = (a.length : Int) := by have := hpl.out; omega
  have hsn : ((n5 : Int) + (n6 : Int) != (a.length : Int)) = false := by rw [hsum]; simp
  replace hsum : Hid _ := hsum
  go_wp2_with fail
  refine (same_any u3 u4 yo yo w8 (hx8.out _ (Below.refl _ _)) hy8 (by omega) (by omega)).mono ?_
  rintro e w9 ⟨B, rfl, hBB, hb9⟩
  obtain rfl : B = true := hBB.2 rfl
  go_wp2_with fail
  refine (same_any u7 _ a a w9 (hz8.grow hb9) (hvk.out _ (B8.trans (hb9.mono B8.size))) (by omega) (by omega)).mono ?_
  rintro e w10 ⟨B', rfl, hBB', hb10⟩
  obtain rfl : B' = true := hBB'.2 rfl
  have g10 := hb9.trans (hb10.mono hb9.size)
  go_wp2_with fail
  refine (same_any u8 _ a a w10 (hw8.grow g10) (hvk.out _ (B8.trans (g10.mono B8.size))) (by omega) (by omega)).mono ?_
  rintro e w11 ⟨B'', rfl, hBB'', hb11⟩
  obtain rfl : B'' = true := hBB''.2 rfl
  have g11 := g10.trans (hb11.mono g10.size)
  have B11 := B8.trans (g11.mono B8.size)
  clear hBB hBB' hBB'' hb9 hb10 hb11 hy8 hz8 hw8
  go_wp2_with fail
  go_loopw [17] (fun i wr => ∃ k : Nat, k ≤ a.length ∧ i = .int .i64 k ∧ Below w11.heap.size w11 wr) (fun i _ => a.length - (intOf i).toNat)
  case atStart => exact ⟨0, Nat.zero_le _, rfl, Below.refl _ _⟩
  case round =>
    obtain ⟨k, hk, rfl, hBr⟩ := hrel
    have Br := B11.trans (hBr.mono B11.size)
    by_cases hlt : k < a.length
    · have hki : (k : Int) < (a.length : Int) := by omega
      cases is with
      | true =>
        have hgt := hgets.out rfl k hlt
        obtain ⟨b1, o1, rfl, x0, x1⟩ := lb_at (hvk.out _ Br) k hlt
        have c0 : ∀ p : Bel wr, p.W.cell? ⟨b1, o1 + k * 2, none⟩ = some (.string (a.getD k lb0).name) := fun p => p.cell x0
        have c1 : ∀ p : Bel wr, p.W.cell? ⟨b1, o1 + k * 2 + 1, none⟩ = some (.string (a.getD k lb0).value) := fun p => p.cell x1
        have hG : ∀ p : Bel wr, Calls Try.prog 21 #[u3, .string (a.getD k lb0).name] p.W fun e w' => e = .returned (.string (getL yo (a.getD k lb0).name)) ∧ Below p.W.heap.size p.W w' := fun p => get_any _ yo _ p.W (hx8.out _ (g11.trans ((hBr.trans (p.h.mono hBr.size)).mono g11.size))) (by omega)
        rw [hgt] at hG
        clear hgt x0 x1
        generalize a.getD k lb0 = y at *
        obtain ⟨n, s⟩ := y
        simp only at c0 c1 hG
        go_wp2
        refine wp_region_bel (by kernel_rfl) (by kernel_rfl) ?_
        repeat (go_big_quiet_step ((first | (go_at_call 21; exact Calls.bel (hG _)))))
        refine wpQuiet_nil ?_
        rintro wq ⟨⟨_, hq⟩, rfl⟩
        go_wp2
        refine ⟨⟨k + 1, by omega, by go_num, hBr.trans (hq.mono hBr.size)⟩, ?_⟩
        simp [intOf]; omega
      | false =>
        go_wp2_with (first | (go_at_call 10; refine (hlive _).mono ?_; rintro e w12 ⟨rfl, hb12⟩))
        go_ret
        exact ⟨rfl, Br.trans (hb12.mono Br.size)⟩
    · obtain rfl : k = a.length := by omega
      have hki : ¬ (a.length : Int) < (a.length : Int) := by omega
      go_wp2_with (first | (go_at_call 10; refine (hlive _).mono ?_; rintro e w12 ⟨rfl, hb12⟩))
      go_ret
      exact ⟨rfl, Br.trans (hb12.mono Br.size)⟩
theorem walk (v : Value) (a : List Lb) (u : Value) (b : List Lb) (nv : Value) (ns : List ByteArray) (w : World) (hv : Lbs w v a) (hr : LbsR a) (hL : a.length ≤ reachBytes) (hu : Lbs w u b) (hm : LbsR b) (hM : b.length ≤ reachBytes) (hn : Txs w nv ns) (hnr : TxsR ns) (hN : ns.length ≤ reachBytes) :
    Calls Try.prog 7 #[v, u, nv] w fun e w' => e = .returned (.bool true) ∧ Below w.heap.size w w' := by
  unfold reachBytes at hL hM hN
  cases h1 : setB a with
  | false => exact walk_out v a u b nv ns w hv hr hL hu hm hM hn hN (.inl h1)
  | true =>
    cases h2 : setB b with
    | false => exact walk_out v a u b nv ns w hv hr hL hu hm hM hn hN (.inr (.inl ⟨h1, h2⟩))
    | true =>
      by_cases h3 : 60 < ns.length
      · exact walk_out v a u b nv ns w hv hr hL hu hm hM hn hN (.inr (.inr ⟨h1, h2, h3⟩))
      · exact walk_in v a u b nv ns w hv hu hn h1 h2 (by omega)
/-! ### THE ROW's STEP -/
set_option maxRecDepth 100000 in
theorem lifted (os : Os) (started : os.Started) (H : Type) (enc : TypeId × Value → H) :
    ReturnsInHanded {} Try.checked os 7 .any (Rows.labelsJoinedSpec.pre6 enc Try.prog Try.f7 Rows.labelsJoinedRow.domain false) (Rows.labelsJoinedSpec.post enc Try.prog Try.f7 false true false false) := by
  refine returnsInHanded_of_change_sized (C := Try.checked) own started (by kernel_rfl) Try.func7
    (ChangeSpec.witness6 (enc := enc) (C := Try.checked) false ⟨#[], #[.slice none 0 0, .slice none 0 0, .slice none 0 0], []⟩ 8 (by kernel_rfl) (by kernel_rfl) (by kernel_rfl) (by kernel_rfl)) ?_
  intro W base args ds gs before hval0 hW hcnd hsz0 _
  have hsz : (DataW.weightsEach Try.prog (Try.f7.params.toList ++ Rows.labelsJoinedSpec.plain.varTypes Try.prog) (ds ++ gs)).all (· ≤ reachBytes) = true := hsz0
  have hval : ∀ (j : Nat) t v, Try.f7.params[j]? = some t → args[j]? = some v → Value.okWide Try.prog W .any base t v := hval0
  have hW' := hW
  obtain ⟨p, q, hA0, hV, rfl, hfz, hnd⟩ := hW
  have hA : DataW.TrodAll enc Try.prog W 0 (fun _ => true) true Try.f7.params.toList args.toList ds p := hA0
  rw [Try.params7] at hA hval hsz
  obtain ⟨v0, vs0, d0, ds0, p0, q0, hargs, rfl, rfl, h0, r0⟩ := trodAll_cons hA
  obtain ⟨v1, vs1, d1, ds1, p1, q1, rfl, rfl, rfl, h1, r1⟩ := trodAll_cons r0
  obtain ⟨v2, vs2, d2, ds2, p2, q2, rfl, rfl, rfl, h2, r2⟩ := trodAll_cons r1
  obtain ⟨rfl, rfl, rfl⟩ := trodAll_nil r2
  obtain rfl : args = #[v0, v1, v2] := by cases args; simp_all
  obtain ⟨rfl, rfl⟩ := trodVars_none hV
  have k0 := h0
  have lt0 : ∀ x ∈ p0, x.block < W.heap.size := by obtain ⟨m, hm⟩ := k0; exact DataW.trod_lt m _ _ _ hm
  obtain ⟨a0, n0, c0, rfl⟩ := okWide_slice Try.underlying22 (hval 0 22 v0 rfl rfl)
  obtain ⟨l0, hP0, hR0, hL0⟩ : ∃ l, Lbs W (.slice a0 n0 c0) l ∧ LbsR l ∧ l.length ≤ reachBytes := by
    obtain ⟨fuel, hf⟩ := h0
    refine lbs_of_trod hf (fun q hq => ?_)
    have := List.all_eq_true.1 hsz _ (DataW.weights_mem_each (j := 0) (t := 22) rfl rfl q hq)
    simpa using this
  have k1 := h1
  have lt1 : ∀ x ∈ p1, x.block < W.heap.size := by obtain ⟨m, hm⟩ := k1; exact DataW.trod_lt m _ _ _ hm
  obtain ⟨a1, n1, c1, rfl⟩ := okWide_slice Try.underlying22 (hval 1 22 v1 rfl rfl)
  obtain ⟨l1, hP1, hR1, hL1⟩ : ∃ l, Lbs W (.slice a1 n1 c1) l ∧ LbsR l ∧ l.length ≤ reachBytes := by
    obtain ⟨fuel, hf⟩ := h1
    refine lbs_of_trod hf (fun q hq => ?_)
    have := List.all_eq_true.1 hsz _ (DataW.weights_mem_each (j := 1) (t := 22) rfl rfl q hq)
    simpa using this
  have k2 := h2
  have lt2 : ∀ x ∈ p2, x.block < W.heap.size := by obtain ⟨m, hm⟩ := k2; exact DataW.trod_lt m _ _ _ hm
  obtain ⟨a2, n2, c2, rfl⟩ := okWide_slice Try.underlying33 (hval 2 33 v2 rfl rfl)
  obtain ⟨l2, hP2, hR2, hL2⟩ : ∃ l, Txs W (.slice a2 n2 c2) l ∧ TxsR l ∧ l.length ≤ reachBytes := by
    obtain ⟨fuel, hf⟩ := h2
    refine txs_of_trod hf (fun q hq => ?_)
    have := List.all_eq_true.1 hsz _ (DataW.weights_mem_each (j := 2) (t := 33) rfl rfl q hq)
    simpa using this
  clear hA0 hval0
  refine (walk (.slice a0 n0 c0) l0 (.slice a1 n1 c1) l1 (.slice a2 n2 c2) l2 W hP0 hR0 hL0 hP1 hR1 hL1 hP2 hR2 hL2).mono fun e W' ⟨he, bel⟩ => ?_
  subst he
  exact ⟨_, rfl, _, _, _, [], _, [], hW', trodAll_mk1 (shut_bool Try.underlying4 _), (trodAll_cons_mk (Below.trod laidOut (by kernel_rfl) (of_decide_eq_true (by kernel_rfl)) k0 bel lt0) (trodAll_cons_mk (Below.trod laidOut (by kernel_rfl) (of_decide_eq_true (by kernel_rfl)) k1 bel lt1) (trodAll_cons_mk (Below.trod laidOut (by kernel_rfl) (of_decide_eq_true (by kernel_rfl)) k2 bel lt2) trodAll_mk0))), rfl, bel.frame _, fun h => by cases h⟩
theorem over : Rows.labelsJoinedRow.holds Try.pinned (OpenSpec.ofChange Rows.labelsJoinedSpec) :=
  OpenClaim.holds_of_wide 7 Try.f7 rfl rfl rfl rfl rfl rfl rfl ⟨rfl, rfl, rfl, rfl, rfl⟩ rfl rfl rfl rfl rfl (by kernel_rfl) Try.func7 (by kernel_rfl)
    (of_decide_eq_true (by kernel_rfl)) (by unfold Func.isWrapper; first | (rw [if_pos (by decide +kernel)]; kernel_rfl) | (rw [if_neg (by decide +kernel)]; exact ⟨rfl, rfl⟩))
    (fun os started H enc _ => lifted os started H enc)
end Go.Proofs.Ytckchabcnmkbeaa.labelsJoined
namespace Go.Proofs.Ytckchabcnmkbeaa
/-- The statement. -/
theorem labelsJoined_holds : Rows.LabelsJoinedSaid := labelsJoined.over
#print axioms labelsJoined_holds
end Go.Proofs.Ytckchabcnmkbeaa
