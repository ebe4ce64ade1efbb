/-
  With, Join, Get, Without, Only, Key, Compare are as the document says.
-/
import Derived.Test.YtckchabcnmkbeaaRows
import Derived.WalkKit
import Derived.ProofKit
import Derived.OpenShut
import Derived.ShutString
import Derived.ChangeOld
import Derived.Below
import Derived.SizedLaws
import Derived.Test.YtckchabcnmkbeaaRr
namespace Go.Proofs.Ytckchabcnmkbeaa.labelsParts
open Go.ChangeShapes Go.WideShapes Go.ChangeAt Go.RowKit
open Go.ChangeMaps (open_string shut_string)
set_option linter.unusedVariables false
theorem own : ownKnob Try.prog.godebug = none := by kernel_rfl
theorem laidOut : laidOutB Try.prog = true := by kernel_rfl
set_option maxRecDepth 100000 in
set_option maxHeartbeats 4000000 in
theorem walk_out (v : Value) (a : List Lb) (u : Value) (b : List Lb) (nv : Value) (ns : List ByteArray) (w : World) (hv : Lbs w v a) (hr : LbsR a) (hL : a.length ≤ 140737488351232) (hu : Lbs w u b) (hm : LbsR b) (hM : b.length ≤ 140737488351232) (hn : Txs w nv ns) (hN : ns.length ≤ 140737488351232)
    (h : setB a = false ∨ (setB a = true ∧ setB b = false) ∨ (setB a = true ∧ setB b = true ∧ 60 < ns.length)) :
    Calls Try.prog 4 #[v, u, nv] w fun e w' => e = .returned (.bool true) ∧ Below w.heap.size w w' := by
  have hlive := fun W => live_ok W
  have hs1 := set_any v a w hv hr (by omega)
  have hs2 : ∀ W, Below w.heap.size w W → Calls Try.prog 16 #[u] W fun e w' => e = .returned (.bool (setB b)) ∧ Below W.heap.size W w' := fun W h => set_any _ b W (hu.grow h) hm (by omega)
  obtain ⟨an, cn, rfl⟩ := hn.shape
  have tok1 : True := trivial
  rcases h with h1 | ⟨h1, h2⟩ | ⟨h1, h2, h3⟩
  · rw [h1] at hs1
    clear hs2 hv hu hn
    go_enter Try.func4, Try.ntmps4
    go_wp2_with (first
      | (go_at_call 16; refine hs1.mono ?_; rintro e w1 ⟨rfl, hb1⟩)
      | (go_at_call 10; refine (hlive _).mono ?_; rintro e w3 ⟨rfl, hb3⟩))
    go_ret
    exact ⟨rfl, hb1.trans (hb3.mono hb1.size)⟩
  · rw [h1] at hs1
    rw [h2] at hs2
    clear hv hu hn
    go_enter Try.func4, Try.ntmps4
    go_wp2_with fail
    refine hs1.mono ?_
    rintro e w1 ⟨rfl, hb1⟩
    go_wp2_with fail
    refine (hs2 _ hb1).mono ?_
    rintro e w2 ⟨rfl, hb2⟩
    have hB2 := hb1.trans (hb2.mono hb1.size)
    go_wp2_with (first
      | (go_at_call 10; refine (hlive _).mono ?_; rintro e w3 ⟨rfl, hb3⟩))
    go_ret
    exact ⟨rfl, hB2.trans (hb3.mono hB2.size)⟩
  · rw [h1] at hs1
    rw [h2] at hs2
    have h3i : (60 : Int) < (ns.length : Int) := by omega
    clear hv hu hn
    go_enter Try.func4, Try.ntmps4
    go_wp2_with fail
    refine hs1.mono ?_
    rintro e w1 ⟨rfl, hb1⟩
    go_wp2_with fail
    refine (hs2 _ hb1).mono ?_
    rintro e w2 ⟨rfl, hb2⟩
    have hB2 := hb1.trans (hb2.mono hb1.size)
    go_wp2_with (first
      | (go_at_call 10; refine (hlive _).mono ?_; rintro e w3 ⟨rfl, hb3⟩))
    go_ret
    exact ⟨rfl, hB2.trans (hb3.mono hB2.size)⟩
set_option maxRecDepth 100000 in
set_option maxHeartbeats 8000000 in
theorem walk_in (v : Value) (a : List Lb) (u : Value) (b : List Lb) (nv : Value) (ns : List ByteArray) (w : World) (hv : Lbs w v a) (hu : Lbs w u b) (hn : Txs w nv ns) (h1 : setB a = true) (h2 : setB b = true) (h60 : ns.length ≤ 60) :
    Calls Try.prog 4 #[v, u, nv] w fun e w' => e = .returned (.bool true) ∧ Below w.heap.size w w' := by
  have ha : IsSet a := setB_iff.1 h1
  have hb : IsSet b := setB_iff.1 h2
  have ra := ha.short.reach
  have rb := hb.short.reach
  have la := ha.2.2
  have lb := hb.2.2
  have hlive := fun W => live_ok W
  have hs1 := set_any v a w hv ra (by omega)
  have hs2 : ∀ W, Below w.heap.size w W → Calls Try.prog 16 #[u] W fun e w' => e = .returned (.bool (setB b)) ∧ Below W.heap.size W w' := fun W h => set_any _ b W (hu.grow h) rb (by omega)
  rw [h1] at hs1
  rw [h2] at hs2
  obtain ⟨an, cn, rfl⟩ := hn.shape
  have hvk : Hid (∀ W, Below w.heap.size w W → Lbs W v a) := fun W h => hv.grow h
  have huk : Hid (∀ W, Below w.heap.size w W → Lbs W u b) := fun W h => hu.grow h
  have hnk : Hid (∀ W, Below w.heap.size w W → Txs W (.slice an ns.length cn) ns) := fun W h => hn.grow h
  have h60i : ¬ (60 : Int) < (ns.length : Int) := by omega
  clear hv hu hn h1 h2
  go_enter Try.func4, Try.ntmps4
  go_wp2_with fail
  refine hs1.mono ?_
  rintro e w1 ⟨rfl, hb1⟩
  go_wp2_with fail
  refine (hs2 _ hb1).mono ?_
  rintro e w2 ⟨rfl, hb2⟩
  have B2 := hb1.trans (hb2.mono hb1.size)
  clear hs1 hs2 hb1 hb2
  go_wp2_with fail
  refine (own_any v a w2 (hvk.out _ B2) (by omega)).mono ?_
  rintro e w3 ⟨z3, rfl, ho3, hb3⟩
  have B3 := B2.trans (hb3.mono B2.size)
  go_wp2_with fail
  refine (own_any u b w3 (huk.out _ B3) (by omega)).mono ?_
  rintro e w4 ⟨z4, rfl, ho4, hb4⟩
  have B4 := B3.trans (hb4.mono B3.size)
  go_wp2_with fail
  refine (with_any z3 z4 a b w4 (ho3.sls.grow hb4) ho4.sls (by omega) (by omega) ra rb).mono ?_
  rintro e w5 ⟨z5, xo, er, rfl, hq5, ho5, hb5⟩
  have B5 := B4.trans (hb5.mono B4.size)
  clear ho3 hb3 ho4 hb4
  go_wp2_with fail
  refine (rwith_any v u a b w5 (hvk.out _ B5) (huk.out _ B5) (by omega) (by omega) ra rb).mono ?_
  rintro e w6 ⟨z6, yo, es, rfl, hq6, ho6, hb6⟩
  obtain ⟨rfl, rfl⟩ := hq6.one hq5
  have B6 := B5.trans (hb6.mono B5.size)
  have hyl : yo.length ≤ 32 := by
    have h1 := mk_len hq6
    have h2 : (withL a b).length ≤ b.length + a.length := by
      show (b ++ withoutL a (namesL b)).length ≤ _
      rw [List.length_append]
      have : (withoutL a (namesL b)).length ≤ a.length := List.length_filter_le _ _
      omega
    omega
  have her := mk_er hq6
  clear hq5 hq6
  go_wp2_with fail
  refine (own_any v a w6 (hvk.out _ B6) (by omega)).mono ?_
  rintro e w7 ⟨z7, rfl, ho7, hb7⟩
  have B7 := B6.trans (hb7.mono B6.size)
  go_wp2_with fail
  refine (own_any u b w7 (huk.out _ B7) (by omega)).mono ?_
  rintro e w8 ⟨z8, rfl, ho8, hb8⟩
  have B8 := B7.trans (hb8.mono B7.size)
  go_wp2_with fail
  refine (join_any z7 z8 a b w8 (ho7.sls.grow hb8) ho8.sls ha.1 hb.1 ra rb (by omega) (by omega)).mono ?_
  rintro e w9 ⟨z9, zo, ok, rfl, hq9, ho9, hb9⟩
  have B9 := B8.trans (hb9.mono B8.size)
  go_wp2_with fail
  refine (rjoin_any v u a b w9 (hvk.out _ B9) (huk.out _ B9) ha hb (by omega) (by omega)).mono ?_
  rintro e w10 ⟨z10, qo, is, rfl, hq10, ho10, hb10⟩
  obtain ⟨rfl, rfl⟩ := hq10.one hq9
  have B10 := B9.trans (hb10.mono B9.size)
  have hql : qo.length ≤ 16 := by
    rcases hq10 with ⟨_, h, _⟩ | ⟨_, rfl, _⟩
    · exact h.2.2
    · simp
  have g6 : Below w6.heap.size w6 w10 := hb7.trans ((hb8.trans ((hb9.trans (hb10.mono hb9.size)).mono hb8.size)).mono hb7.size)
  have g5 : Below w5.heap.size w5 w10 := hb6.trans (g6.mono hb6.size)
  have k5 : Hid (∀ W, Below w10.heap.size w10 W → Lbs W z5 yo) := fun W h => ho5.sls.grow (g5.trans (h.mono g5.size))
  have k6 : Hid (∀ W, Below w10.heap.size w10 W → Lbs W z6 yo) := fun W h => ho6.sls.grow (g6.trans (h.mono g6.size))
  have k9 : Hid (∀ W, Below w10.heap.size w10 W → Lbs W z9 qo) := fun W h => ho9.sls.grow (hb10.trans (h.mono hb10.size))
  have k10 : Hid (∀ W, Below w10.heap.size w10 W → Lbs W z10 qo) := fun W h => ho10.sls.grow h
  clear ho5 ho6 ho7 ho8 ho9 ho10 hq9 hq10 hb5 hb6 hb7 hb8 hb9 hb10 g5 g6
  go_wp2_with fail
  go_loopw [15] (fun i wr => ∃ k : Nat, k ≤ ns.length ∧ i = .int .i64 k ∧ Below w10.heap.size w10 wr) (fun i _ => ns.length - (intOf i).toNat)
  case atStart => exact ⟨0, Nat.zero_le _, rfl, Below.refl _ _⟩
  case round =>
    obtain ⟨k, hk, rfl, hBr⟩ := hrel
    have Br := B10.trans (hBr.mono B10.size)
    by_cases hlt : k < ns.length
    · have hki : (k : Int) < (ns.length : Int) := by omega
      obtain ⟨b1, o1, rfl, x0⟩ := tx_at (hnk.out _ Br) k hlt
      generalize ns.getD k ⟨#[]⟩ = s at x0
      have c0 : ∀ p : Bel wr, p.W.cell? ⟨b1, o1 + k, none⟩ = some (.string s) := fun p => p.cell x0
      have hG : ∀ p : Bel wr, Calls Try.prog 21 #[v, .string s] p.W fun e w' => e = .returned (.string (getL a s)) ∧ Below p.W.heap.size p.W w' := fun p => get_any _ a _ p.W (hvk.out _ (Br.trans (p.h.mono Br.size))) (by omega)
      have hH : ∀ p : Bel wr, Calls Try.prog 22 #[v, .string s] p.W fun e w' => e = .returned (.string (getL a s)) ∧ Below p.W.heap.size p.W w' := fun p => calls_same (rget_any _ a _ p.W (hvk.out _ (Br.trans (p.h.mono Br.size))) (by omega))
      generalize getL a s = G at *
      clear x0
      go_wp2
      refine wp_region_bel (by kernel_rfl) (by kernel_rfl) ?_
      repeat (go_big_quiet_step ((first | (go_at_call 21; exact Calls.bel (hG _)) | (go_at_call 22; exact Calls.bel (hH _)))))
      refine wpQuiet_nil ?_
      rintro wq ⟨⟨_, hq⟩, rfl⟩
      go_wp2
      refine ⟨⟨k + 1, by omega, by go_num, hBr.trans (hq.mono hBr.size)⟩, ?_⟩
      simp [intOf]; omega
    · obtain rfl : k = ns.length := by omega
      have hki : ¬ (ns.length : Int) < (ns.length : Int) := by omega
      have hpos : ∀ x ∈ a, 0 < x.name.size := fun x hx => (ha.1 x hx).1.1.1
      have hnum := fun W => num_any es W (by omega) (by omega)
      have hee : (es == es) = true := by simp
      have hoo : (is == is) = true := by simp
      go_wp2_with fail
      refine (same_any z5 z6 yo yo wr (k5.out _ hBr) (k6.out _ hBr) (by omega) (by omega)).mono ?_
      rintro e x1 ⟨B, rfl, hBB, hx1⟩
      obtain rfl : B = true := hBB.2 rfl
      have s1 := hBr.trans (hx1.mono hBr.size)
      clear hBB
      go_wp2_with (first | (go_at_call 15; refine (hnum _).mono ?_; rintro e wx ⟨rfl, hwx⟩; subst wx))
      refine (same_any z9 z10 qo qo x1 (k9.out _ s1) (k10.out _ s1) (by omega) (by omega)).mono ?_
      rintro e x2 ⟨B, rfl, hBB, hx2⟩
      obtain rfl : B = true := hBB.2 rfl
      have s2 := s1.trans (hx2.mono s1.size)
      have T2 := B10.trans (s2.mono B10.size)
      clear hBB
      go_wp2_with fail
      refine (own_any v a x2 (hvk.out _ T2) (by omega)).mono ?_
      rintro e x3 ⟨y3, rfl, p3, hx3⟩
      have T3 := T2.trans (hx3.mono T2.size)
      go_wp2_with fail
      refine (without_any y3 _ a ns x3 p3.sls (hnk.out _ T3) (by omega) (by omega)).mono ?_
      rintro e x4 ⟨y4, rfl, p4, hx4⟩
      have T4 := T3.trans (hx4.mono T3.size)
      go_wp2_with fail
      refine (rwithout_any v _ a ns x4 (hvk.out _ T4) (hnk.out _ T4) (by omega) (by omega)).mono ?_
      rintro e x5 ⟨y5, rfl, p5, hx5⟩
      have T5 := T4.trans (hx5.mono T4.size)
      have hw16 := (ha.without ns).2.2
      go_wp2_with fail
      refine (same_any y4 y5 (withoutL a ns) (withoutL a ns) x5 (p4.sls.grow hx5) p5.sls (by omega) (by omega)).mono ?_
      rintro e x6 ⟨B, rfl, hBB, hx6⟩
      obtain rfl : B = true := hBB.2 rfl
      have T6 := T5.trans (hx6.mono T5.size)
      clear hBB p3 p4 p5 hx3 hx4 hx5 hx6
      go_wp2_with fail
      refine (own_any v a x6 (hvk.out _ T6) (by omega)).mono ?_
      rintro e x7 ⟨y7, rfl, p7, hx7⟩
      have T7 := T6.trans (hx7.mono T6.size)
      go_wp2_with fail
      refine (only_any y7 _ a ns x7 p7.sls (hnk.out _ T7) (by omega) (by omega)).mono ?_
      rintro e x8 ⟨y8, rfl, p8, hx8⟩
      have T8 := T7.trans (hx8.mono T7.size)
      go_wp2_with fail
      refine (ronly_any v _ a ns x8 (hvk.out _ T8) (hnk.out _ T8) (by omega) (by omega)).mono ?_
      rintro e x9 ⟨y9, rfl, p9, hx9⟩
      have T9 := T8.trans (hx9.mono T8.size)
      have ho16 := (ha.only ns).2.2
      go_wp2_with fail
      refine (same_any y8 y9 (onlyL a ns) (onlyL a ns) x9 (p8.sls.grow hx9) p9.sls (by omega) (by omega)).mono ?_
      rintro e x10 ⟨B, rfl, hBB, hx10⟩
      obtain rfl : B = true := hBB.2 rfl
      have T10 := T9.trans (hx10.mono T9.size)
      clear hBB p7 p8 p9 hx7 hx8 hx9 hx10
      have hk1 := key_any v a x10 (hvk.out _ T10) ha.short (by omega)
      have hk2 := fun W (h : Below w.heap.size w W) => rkey_any v a W (hvk.out _ h) ha.short hpos (by omega)
      have hkk : ((strOfNums (keyL a)).toList == (strOfNums (keyL a)).toList) = true := by simp
      have hc1 := fun W (h : Below w.heap.size w W) => compare_any v u a b W (hvk.out _ h) (huk.out _ h) (by omega) (by omega)
      have hc2 := fun W (h : Below w.heap.size w W) => rcompare_any v u a b W (hvk.out _ h) (huk.out _ h) (by omega) (by omega)
      have hcc : (cmpS a b == cmpS a b) = true := by simp
      generalize strOfNums (keyL a) = K at *
      generalize cmpS a b = C at *
      go_wp2_with fail
      refine hk1.mono ?_
      rintro e x11 ⟨rfl, hx11⟩
      have T11 := T10.trans (hx11.mono T10.size)
      go_wp2_with fail
      refine (hk2 _ T11).mono ?_
      rintro e x12 ⟨rfl, hx12⟩
      have T12 := T11.trans (hx12.mono T11.size)
      go_wp2_with fail
      refine (hc1 _ T12).mono ?_
      rintro e x13 ⟨rfl, hx13⟩
      have T13 := T12.trans (hx13.mono T12.size)
      go_wp2_with fail
      refine (hc2 _ T13).mono ?_
      rintro e x14 ⟨rfl, hx14⟩
      have T14 := T13.trans (hx14.mono T13.size)
      go_wp2_with (first | (go_at_call 10; refine (hlive _).mono ?_; rintro e x15 ⟨rfl, hx15⟩))
      go_ret
      exact ⟨rfl, T14.trans (hx15.mono T14.size)⟩
theorem walk (v : Value) (a : List Lb) (u : Value) (b : List Lb) (nv : Value) (ns : List ByteArray) (w : World) (hv : Lbs w v a) (hr : LbsR a) (hL : a.length ≤ reachBytes) (hu : Lbs w u b) (hm : LbsR b) (hM : b.length ≤ reachBytes) (hn : Txs w nv ns) (hnr : TxsR ns) (hN : ns.length ≤ reachBytes) :
    Calls Try.prog 4 #[v, u, nv] w fun e w' => e = .returned (.bool true) ∧ Below w.heap.size w w' := by
  unfold reachBytes at hL hM hN
  cases h1 : setB a with
  | false => exact walk_out v a u b nv ns w hv hr hL hu hm hM hn hN (.inl h1)
  | true =>
    cases h2 : setB b with
    | false => exact walk_out v a u b nv ns w hv hr hL hu hm hM hn hN (.inr (.inl ⟨h1, h2⟩))
    | true =>
      by_cases h3 : 60 < ns.length
      · exact walk_out v a u b nv ns w hv hr hL hu hm hM hn hN (.inr (.inr ⟨h1, h2, h3⟩))
      · exact walk_in v a u b nv ns w hv hu hn h1 h2 (by omega)
/-! ### THE ROW's STEP -/
set_option maxRecDepth 100000 in
theorem lifted (os : Os) (started : os.Started) (H : Type) (enc : TypeId × Value → H) :
    ReturnsInHanded {} Try.checked os 4 .any (Rows.labelsPartsSpec.pre6 enc Try.prog Try.f4 Rows.labelsPartsRow.domain false) (Rows.labelsPartsSpec.post enc Try.prog Try.f4 false true false false) := by
  refine returnsInHanded_of_change_sized (C := Try.checked) own started (by kernel_rfl) Try.func4
    (ChangeSpec.witness6 (enc := enc) (C := Try.checked) false ⟨#[], #[.slice none 0 0, .slice none 0 0, .slice none 0 0], []⟩ 8 (by kernel_rfl) (by kernel_rfl) (by kernel_rfl) (by kernel_rfl)) ?_
  intro W base args ds gs before hval0 hW hcnd hsz0 _
  have hsz : (DataW.weightsEach Try.prog (Try.f4.params.toList ++ Rows.labelsPartsSpec.plain.varTypes Try.prog) (ds ++ gs)).all (· ≤ reachBytes) = true := hsz0
  have hval : ∀ (j : Nat) t v, Try.f4.params[j]? = some t → args[j]? = some v → Value.okWide Try.prog W .any base t v := hval0
  have hW' := hW
  obtain ⟨p, q, hA0, hV, rfl, hfz, hnd⟩ := hW
  have hA : DataW.TrodAll enc Try.prog W 0 (fun _ => true) true Try.f4.params.toList args.toList ds p := hA0
  rw [Try.params4] at hA hval hsz
  obtain ⟨v0, vs0, d0, ds0, p0, q0, hargs, rfl, rfl, h0, r0⟩ := trodAll_cons hA
  obtain ⟨v1, vs1, d1, ds1, p1, q1, rfl, rfl, rfl, h1, r1⟩ := trodAll_cons r0
  obtain ⟨v2, vs2, d2, ds2, p2, q2, rfl, rfl, rfl, h2, r2⟩ := trodAll_cons r1
  obtain ⟨rfl, rfl, rfl⟩ := trodAll_nil r2
  obtain rfl : args = #[v0, v1, v2] := by cases args; simp_all
  obtain ⟨rfl, rfl⟩ := trodVars_none hV
  have k0 := h0
  have lt0 : ∀ x ∈ p0, x.block < W.heap.size := by obtain ⟨m, hm⟩ := k0; exact DataW.trod_lt m _ _ _ hm
  obtain ⟨a0, n0, c0, rfl⟩ := okWide_slice Try.underlying22 (hval 0 22 v0 rfl rfl)
  obtain ⟨l0, hP0, hR0, hL0⟩ : ∃ l, Lbs W (.slice a0 n0 c0) l ∧ LbsR l ∧ l.length ≤ reachBytes := by
    obtain ⟨fuel, hf⟩ := h0
    refine lbs_of_trod hf (fun q hq => ?_)
    have := List.all_eq_true.1 hsz _ (DataW.weights_mem_each (j := 0) (t := 22) rfl rfl q hq)
    simpa using this
  have k1 := h1
  have lt1 : ∀ x ∈ p1, x.block < W.heap.size := by obtain ⟨m, hm⟩ := k1; exact DataW.trod_lt m _ _ _ hm
  obtain ⟨a1, n1, c1, rfl⟩ := okWide_slice Try.underlying22 (hval 1 22 v1 rfl rfl)
  obtain ⟨l1, hP1, hR1, hL1⟩ : ∃ l, Lbs W (.slice a1 n1 c1) l ∧ LbsR l ∧ l.length ≤ reachBytes := by
    obtain ⟨fuel, hf⟩ := h1
    refine lbs_of_trod hf (fun q hq => ?_)
    have := List.all_eq_true.1 hsz _ (DataW.weights_mem_each (j := 1) (t := 22) rfl rfl q hq)
    simpa using this
  have k2 := h2
  have lt2 : ∀ x ∈ p2, x.block < W.heap.size := by obtain ⟨m, hm⟩ := k2; exact DataW.trod_lt m _ _ _ hm
  obtain ⟨a2, n2, c2, rfl⟩ := okWide_slice Try.underlying33 (hval 2 33 v2 rfl rfl)
  obtain ⟨l2, hP2, hR2, hL2⟩ : ∃ l, Txs W (.slice a2 n2 c2) l ∧ TxsR l ∧ l.length ≤ reachBytes := by
    obtain ⟨fuel, hf⟩ := h2
    refine txs_of_trod hf (fun q hq => ?_)
    have := List.all_eq_true.1 hsz _ (DataW.weights_mem_each (j := 2) (t := 33) rfl rfl q hq)
    simpa using this
  clear hA0 hval0
  refine (walk (.slice a0 n0 c0) l0 (.slice a1 n1 c1) l1 (.slice a2 n2 c2) l2 W hP0 hR0 hL0 hP1 hR1 hL1 hP2 hR2 hL2).mono fun e W' ⟨he, bel⟩ => ?_
  subst he
  exact ⟨_, rfl, _, _, _, [], _, [], hW', trodAll_mk1 (shut_bool Try.underlying4 _), (trodAll_cons_mk (Below.trod laidOut (by kernel_rfl) (of_decide_eq_true (by kernel_rfl)) k0 bel lt0) (trodAll_cons_mk (Below.trod laidOut (by kernel_rfl) (of_decide_eq_true (by kernel_rfl)) k1 bel lt1) (trodAll_cons_mk (Below.trod laidOut (by kernel_rfl) (of_decide_eq_true (by kernel_rfl)) k2 bel lt2) trodAll_mk0))), rfl, bel.frame _, fun h => by cases h⟩
theorem over : Rows.labelsPartsRow.holds Try.pinned (OpenSpec.ofChange Rows.labelsPartsSpec) :=
  OpenClaim.holds_of_wide 4 Try.f4 rfl rfl rfl rfl rfl rfl rfl ⟨rfl, rfl, rfl, rfl, rfl⟩ rfl rfl rfl rfl rfl (by kernel_rfl) Try.func4 (by kernel_rfl)
    (of_decide_eq_true (by kernel_rfl)) (by unfold Func.isWrapper; first | (rw [if_pos (by decide +kernel)]; kernel_rfl) | (rw [if_neg (by decide +kernel)]; exact ⟨rfl, rfl⟩))
    (fun os started H enc _ => lifted os started H enc)
end Go.Proofs.Ytckchabcnmkbeaa.labelsParts
namespace Go.Proofs.Ytckchabcnmkbeaa
/-- The statement. -/
theorem labelsParts_holds : Rows.LabelsPartsSaid := labelsParts.over
#print axioms labelsParts_holds
end Go.Proofs.Ytckchabcnmkbeaa
