/-
  Proved here: 'klaxonlaw07.KeysOrder' (P7.4, P7.6), called with any two lists of parts, in any memory, returns true, and its arguments read afterwards as they read before: keys are in the order of what they are made of; a key's parts are those that it is made of. No condition beyond the row's own (each slice and string within the reach that every row states).
-/
import Derived.Test.YtkhnhnaefmcngaaRows
import Derived.WalkKit
import Derived.ProofKit
import Derived.OpenShut
import Derived.ShutString
import Derived.ChangeOld
import Derived.Below
import Derived.SizedLaws
import Derived.Test.YtkhnhnaefmcngaaRcm
namespace Go.Proofs.Ytkhnhnaefmcngaa.keysOrder
open Go.ChangeShapes Go.WideShapes Go.ChangeAt Go.RowKit
open Go.ChangeMaps (open_string shut_string)
set_option linter.unusedVariables false

theorem own : ownKnob Try.prog.godebug = none := by kernel_rfl
theorem laidOut : laidOutB Try.prog = true := by kernel_rfl

set_option maxRecDepth 100000 in
set_option maxHeartbeats 4000000 in
theorem walk_out (va vb : Value) (a b : List Pt) (w : World) (hPa : Pts w va a) (hTa : TxB a) (hLa : a.length ≤ 9223372036854775807) (hPb : Pts w vb b) (hTb : TxB b) (hLb : b.length ≤ 9223372036854775807)
    (h : smallB a = false ∨ (smallB a = true ∧ smallB b = false)) :
    Calls Try.prog 4 #[va, vb] w fun e w' => e = .returned (.bool true) ∧ Below w.heap.size w w' := by
  have hlive := fun W => live_any W
  have h1 := small_any va a w hPa hTa hLa
  have h2 := small_any vb b w hPb hTb hLb
  clear hPa hTa hPb hTb
  have tok1 : True := trivial
  rcases h with h | ⟨h, h'⟩
  · rw [h] at h1
    go_enter Try.func4, Try.ntmps4
    go_wp2_with (first | (go_at_call 8; refine h1.mono ?_; rintro e w1 ⟨rfl, hw1⟩; subst w1) | (go_at_call 9; refine (hlive _).mono ?_; rintro e w1 ⟨rfl, hb1⟩))
    go_ret
    exact ⟨rfl, hb1⟩
  · rw [h] at h1
    rw [h'] at h2
    go_enter Try.func4, Try.ntmps4
    go_wp2_with (first | (go_at_call 8; have _t := tok1; refine h1.mono ?_; rintro e w1 ⟨rfl, hw1⟩; subst w1; clear tok1) | (go_at_call 8; refine h2.mono ?_; rintro e w1 ⟨rfl, hw1⟩; subst w1) | (go_at_call 9; refine (hlive _).mono ?_; rintro e w1 ⟨rfl, hb1⟩))
    go_ret
    exact ⟨rfl, hb1⟩
set_option maxRecDepth 100000 in
set_option maxHeartbeats 8000000 in
theorem walk_in (va vb : Value) (a b : List Pt) (w : World) (hPa : Pts w va a) (hTa : TxB a) (hIa : Ins a) (hPb : Pts w vb b) (hTb : TxB b) (hIb : Ins b)
    (hsa : smallB a = true) (hsb : smallB b = true) :
    Calls Try.prog 4 #[va, vb] w fun e w' => e = .returned (.bool true) ∧ Below w.heap.size w w' := by
  have hlive := fun W => live_any W
  have hla : a.length ≤ 20 := by unfold smallB at hsa; simp at hsa; omega
  have hlb : b.length ≤ 20 := by unfold smallB at hsb; simp at hsb; omega
  have h1 := small_any va a w hPa hTa (by omega)
  have h2 := small_any vb b w hPb hTb (by omega)
  rw [hsa] at h1
  rw [hsb] at h2
  have hput := put_any va a w hPa hIa (by omega)
  have hput2 := fun W (h : Below w.heap.size w W) => put_any vb b W (hPb.grow h) hIb (by omega)
  have hga : Hid (∀ W, Below w.heap.size w W → Pts W va a) := fun W h => hPa.grow h
  have hgb : Hid (∀ W, Below w.heap.size w W → Pts W vb b) := fun W h => hPb.grow h
  have hnum := fun x (hx : -1000 ≤ x ∧ x ≤ 1000) W => num_any x W (by omega) (by omega)
  have hea := putE_in a
  have heb := putE_in b
  have tok1 : True := trivial
  clear hPa hPb hTa hTb hsa hsb
  go_enter Try.func4, Try.ntmps4
  go_wp2_with (first
    | (go_at_call 8; have _t := tok1; refine h1.mono ?_; rintro e wx ⟨rfl, hwx⟩; subst wx; clear tok1)
    | (go_at_call 8; refine h2.mono ?_; rintro e wx ⟨rfl, hwx⟩; subst wx))
  refine hput.mono ?_
  rintro e w1 ⟨rfl, hb1⟩
  go_wp2_with fail
  refine (hput2 _ hb1).mono ?_
  rintro e w2 ⟨rfl, hb2⟩
  have hB2 : Below w.heap.size w w2 := hb1.trans (hb2.mono hb1.size)
  clear hput hput2 h1 h2 hb1 hb2
  by_cases hE : putE a = 0 ∧ putE b = 0
  · obtain ⟨hEa, hEb⟩ := hE
    have oka := putE_oks hIa hEa
    have okb := putE_oks hIb hEb
    rw [hEa, hEb]
    have nX : numsS (putS a) = keyB a := by rw [putS_ok oka, numsS_strOf _ (keyB_bytes oka.2)]
    have nY : numsS (putS b) = keyB b := by rw [putS_ok okb, numsS_strOf _ (keyB_bytes okb.2)]
    have l1 := less_cmp (putS a) (putS b)
    have l2 := less_cmp (putS b) (putS a)
    rw [nX, nY] at l1 l2
    rw [key_order oka.2 okb.2] at l1
    rw [key_order okb.2 oka.2, cmpK_neg a b] at l2
    have l3 : ((putS a).toList == (putS b).toList) = decide (cmpK a b = 0) := by
      rw [putS_ok oka, putS_ok okb, same_keys (keyB_bytes oka.2) (keyB_bytes okb.2), key_order oka.2 okb.2]
    have hsz : (putS a).size ≤ 1000000 := by
      rw [← numsS_length, nX]
      have := keyB_len oka.2
      have := oka.1
      omega
    have hget : ∀ W : World, Calls Try.prog 12 #[.string (putS a)] W fun e w' => ∃ v', e = .returned (.tuple #[v', .int .i64 0]) ∧ Pts w' v' a ∧ Below W.heap.size W w' := by
      intro W
      refine (get_any (putS a) W hsz).mono ?_
      rintro e w' ⟨ok, v', l, rfl, hp, q1, q2, hb⟩
      cases ok with
      | false => exact absurd nX.symm ((q2 rfl).2 a oka)
      | true =>
        obtain ⟨q3, q4⟩ := q1 rfl
        have := key_inj q3.2 oka.2 (q4.trans nX)
        subst this
        exact ⟨v', rfl, hp, hb⟩
    have hcab := fun W (h : Below w.heap.size w W) => compare_any va vb a b W (hga.out W h) (hgb.out W h) (by omega) (by omega)
    have hcba := fun W (h : Below w.heap.size w W) => compare_any vb va b a W (hgb.out W h) (hga.out W h) (by omega) (by omega)
    have hrc := fun W (h : Below w.heap.size w W) => rcompare_any va vb a b W (hga.out W h) (hgb.out W h) (by omega) (by omega) oka.2 okb.2
    have hsame : ∀ (W : World) (v' : Value), Below w.heap.size w W → Pts W v' a → Calls Try.prog 16 #[v', va] W fun e w' => e = .returned (.bool true) ∧ Below W.heap.size W w' := by
      intro W v' h hp
      refine (same_any v' va a a W hp (hga.out W h) (by omega) (by omega)).mono ?_
      rintro e w' ⟨B, rfl, hB, hb⟩
      obtain rfl : B = true := hB.2 rfl
      exact ⟨rfl, hb⟩
    simp only [cmpK_neg a b] at hcba
    clear nX nY oka okb hEa hEb hIa hIb hsz hga hgb hea heb
    have hin := cmpK_in a b
    generalize putS a = X at *
    generalize putS b = Y at *
    generalize cmpK a b = C at *
    have tokc : True := trivial
    rcases hin with rfl | rfl | rfl
    · replace l1 : Op.bytesLess X.toList Y.toList = true := l1.trans (by decide)
      replace l2 : Op.bytesLess Y.toList X.toList = false := l2.trans (by decide)
      replace l3 : (X.toList == Y.toList) = false := l3.trans (by decide)
      go_wp2_with (first
        | (go_at_call 15; refine (hnum _ (by omega) _).mono ?_; rintro e wx ⟨rfl, hwx⟩; subst wx)
        | (go_at_call 12; refine (hget _).mono ?_; rintro e w3 ⟨v3, rfl, hp3, hb3⟩; have hB3 := hB2.trans (hb3.mono hB2.size))
        | (go_at_call 19; have _t := tokc; refine (hcab _ hB3).mono ?_; rintro e w4 ⟨rfl, hb4⟩; have hB4 := hB3.trans (hb4.mono hB3.size); clear tokc)
        | (go_at_call 19; refine (hcba _ hB4).mono ?_; rintro e w5 ⟨rfl, hb5⟩; have hB5 := hB4.trans (hb5.mono hB4.size))
        | (go_at_call 20; refine (hrc _ hB5).mono ?_; rintro e w6 ⟨rfl, hb6⟩; have hB6 := hB5.trans (hb6.mono hB5.size); have hp6 := ((hp3.grow hb4).grow hb5).grow hb6)
        | (go_at_call 16; refine (hsame _ _ hB6 hp6).mono ?_; rintro e w7 ⟨rfl, hb7⟩; have hB7 := hB6.trans (hb7.mono hB6.size))
        | (go_at_call 9; refine (hlive _).mono ?_; rintro e w8 ⟨rfl, hb8⟩))
      go_ret
      exact ⟨rfl, hB7.trans (hb8.mono hB7.size)⟩
    · replace l1 : Op.bytesLess X.toList Y.toList = false := l1.trans (by decide)
      replace l2 : Op.bytesLess Y.toList X.toList = false := l2.trans (by decide)
      replace l3 : (X.toList == Y.toList) = true := l3.trans (by decide)
      go_wp2_with (first
        | (go_at_call 15; refine (hnum _ (by omega) _).mono ?_; rintro e wx ⟨rfl, hwx⟩; subst wx)
        | (go_at_call 12; refine (hget _).mono ?_; rintro e w3 ⟨v3, rfl, hp3, hb3⟩; have hB3 := hB2.trans (hb3.mono hB2.size))
        | (go_at_call 19; have _t := tokc; refine (hcab _ hB3).mono ?_; rintro e w4 ⟨rfl, hb4⟩; have hB4 := hB3.trans (hb4.mono hB3.size); clear tokc)
        | (go_at_call 19; refine (hcba _ hB4).mono ?_; rintro e w5 ⟨rfl, hb5⟩; have hB5 := hB4.trans (hb5.mono hB4.size))
        | (go_at_call 20; refine (hrc _ hB5).mono ?_; rintro e w6 ⟨rfl, hb6⟩; have hB6 := hB5.trans (hb6.mono hB5.size); have hp6 := ((hp3.grow hb4).grow hb5).grow hb6)
        | (go_at_call 16; refine (hsame _ _ hB6 hp6).mono ?_; rintro e w7 ⟨rfl, hb7⟩; have hB7 := hB6.trans (hb7.mono hB6.size))
        | (go_at_call 9; refine (hlive _).mono ?_; rintro e w8 ⟨rfl, hb8⟩))
      go_ret
      exact ⟨rfl, hB7.trans (hb8.mono hB7.size)⟩
    · replace l1 : Op.bytesLess X.toList Y.toList = false := l1.trans (by decide)
      replace l2 : Op.bytesLess Y.toList X.toList = true := l2.trans (by decide)
      replace l3 : (X.toList == Y.toList) = false := l3.trans (by decide)
      go_wp2_with (first
        | (go_at_call 15; refine (hnum _ (by omega) _).mono ?_; rintro e wx ⟨rfl, hwx⟩; subst wx)
        | (go_at_call 12; refine (hget _).mono ?_; rintro e w3 ⟨v3, rfl, hp3, hb3⟩; have hB3 := hB2.trans (hb3.mono hB2.size))
        | (go_at_call 19; have _t := tokc; refine (hcab _ hB3).mono ?_; rintro e w4 ⟨rfl, hb4⟩; have hB4 := hB3.trans (hb4.mono hB3.size); clear tokc)
        | (go_at_call 19; refine (hcba _ hB4).mono ?_; rintro e w5 ⟨rfl, hb5⟩; have hB5 := hB4.trans (hb5.mono hB4.size))
        | (go_at_call 20; refine (hrc _ hB5).mono ?_; rintro e w6 ⟨rfl, hb6⟩; have hB6 := hB5.trans (hb6.mono hB5.size); have hp6 := ((hp3.grow hb4).grow hb5).grow hb6)
        | (go_at_call 16; refine (hsame _ _ hB6 hp6).mono ?_; rintro e w7 ⟨rfl, hb7⟩; have hB7 := hB6.trans (hb7.mono hB6.size))
        | (go_at_call 9; refine (hlive _).mono ?_; rintro e w8 ⟨rfl, hb8⟩))
      go_ret
      exact ⟨rfl, hB7.trans (hb8.mono hB7.size)⟩
  · have hXa : Hid (putE a ≠ 0 → putS a = ⟨#[]⟩) := putS_bad
    have hXb : Hid (putE b ≠ 0 → putS b = ⟨#[]⟩) := putS_bad
    clear hIa hIb hga hgb
    generalize putE a = Ea at *
    generalize putE b = Eb at *
    generalize putS a = X at *
    generalize putS b = Y at *
    by_cases hEa : Ea = 0
    · subst hEa
      have hEb : Eb ≠ 0 := fun h => hE ⟨rfl, h⟩
      obtain rfl := hXb.out hEb
      have hbn : (Eb != 0) = true := by simpa using hEb
      have hbn2 : (Eb == 0) = false := by simpa using hEb
      clear hXa hXb hE
      go_wp2_with (first
        | (go_at_call 15; refine (hnum _ (by omega) _).mono ?_; rintro e wx ⟨rfl, hwx⟩; subst wx)
        | (go_at_call 9; refine (hlive _).mono ?_; rintro e w8 ⟨rfl, hb8⟩))
      go_ret
      exact ⟨rfl, hB2.trans (hb8.mono hB2.size)⟩
    · obtain rfl := hXa.out hEa
      have han : (Ea != 0) = true := by simpa using hEa
      have han2 : (Ea == 0) = false := by simpa using hEa
      by_cases hEb : Eb = 0
      · subst hEb
        clear hXa hXb hE
        go_wp2_with (first
          | (go_at_call 15; refine (hnum _ (by omega) _).mono ?_; rintro e wx ⟨rfl, hwx⟩; subst wx)
          | (go_at_call 9; refine (hlive _).mono ?_; rintro e w8 ⟨rfl, hb8⟩))
        go_ret
        exact ⟨rfl, hB2.trans (hb8.mono hB2.size)⟩
      · obtain rfl := hXb.out hEb
        have hbn : (Eb != 0) = true := by simpa using hEb
        have hbn2 : (Eb == 0) = false := by simpa using hEb
        clear hXa hXb hE
        go_wp2_with (first
          | (go_at_call 15; refine (hnum _ (by omega) _).mono ?_; rintro e wx ⟨rfl, hwx⟩; subst wx)
          | (go_at_call 9; refine (hlive _).mono ?_; rintro e w8 ⟨rfl, hb8⟩))
        go_ret
        exact ⟨rfl, hB2.trans (hb8.mono hB2.size)⟩
theorem walk (va : Value) (a : List Pt) (vb : Value) (b : List Pt) (w : World) (hPa : Pts w va a) (hIa : Ins a) (hTa : TxB a) (hLa : a.length ≤ reachBytes) (hPb : Pts w vb b) (hIb : Ins b) (hTb : TxB b) (hLb : b.length ≤ reachBytes) :
    Calls Try.prog 4 #[va, vb] w fun e w' => e = .returned (.bool true) ∧ Below w.heap.size w w' := by
  unfold reachBytes at hLa hLb
  cases h1 : smallB a with
  | false => exact walk_out va vb a b w hPa hTa (by omega) hPb hTb (by omega) (.inl h1)
  | true =>
    cases h2 : smallB b with
    | false => exact walk_out va vb a b w hPa hTa (by omega) hPb hTb (by omega) (.inr ⟨h1, h2⟩)
    | true => exact walk_in va vb a b w hPa hTa hIa hPb hTb hIb h1 h2

/-! ### THE ROW's STEP -/
set_option maxRecDepth 100000 in
theorem lifted (os : Os) (started : os.Started) (H : Type) (enc : TypeId × Value → H) :
    ReturnsInHanded {} Try.checked os 4 .any (Rows.keysOrderSpec.pre6 enc Try.prog Try.f4 Rows.keysOrderRow.domain false) (Rows.keysOrderSpec.post enc Try.prog Try.f4 false true false false) := by
  refine returnsInHanded_of_change_sized (C := Try.checked) own started (by kernel_rfl) Try.func4
    (ChangeSpec.witness6 (enc := enc) (C := Try.checked) false ⟨#[], #[.slice none 0 0, .slice none 0 0], []⟩ 8 (by kernel_rfl) (by kernel_rfl) (by kernel_rfl) (by kernel_rfl)) ?_
  intro W base args ds gs before hval0 hW hcnd hsz0 _
  have hsz : (DataW.weightsEach Try.prog (Try.f4.params.toList ++ Rows.keysOrderSpec.plain.varTypes Try.prog) (ds ++ gs)).all (· ≤ reachBytes) = true := hsz0
  have hval : ∀ (j : Nat) t v, Try.f4.params[j]? = some t → args[j]? = some v → Value.okWide Try.prog W .any base t v := hval0
  have hW' := hW
  obtain ⟨p, q, hA0, hV, rfl, hfz, hnd⟩ := hW
  have hA : DataW.TrodAll enc Try.prog W 0 (fun _ => true) true Try.f4.params.toList args.toList ds p := hA0
  rw [Try.params4] at hA hval hsz
  obtain ⟨v0, vs0, d0, ds0, p0, q0, hargs, rfl, rfl, h0, r0⟩ := trodAll_cons hA
  obtain ⟨v1, vs1, d1, ds1, p1, q1, rfl, rfl, rfl, h1, r1⟩ := trodAll_cons r0
  obtain ⟨rfl, rfl, rfl⟩ := trodAll_nil r1
  obtain rfl : args = #[v0, v1] := by cases args; simp_all
  obtain ⟨rfl, rfl⟩ := trodVars_none hV
  have k0 := h0
  have lt0 : ∀ x ∈ p0, x.block < W.heap.size := by obtain ⟨m, hm⟩ := k0; exact DataW.trod_lt m _ _ _ hm
  obtain ⟨a0, n0, c0, rfl⟩ := okWide_slice Try.underlying22 (hval 0 22 v0 rfl rfl)
  obtain ⟨l0, hP0, hI0, hT0, hL0⟩ : ∃ l, Pts W (.slice a0 n0 c0) l ∧ Ins l ∧ TxB l ∧ l.length ≤ reachBytes := by
    obtain ⟨fuel, hf⟩ := h0
    refine parts_of_trod hf (fun q hq => ?_)
    have := List.all_eq_true.1 hsz _ (DataW.weights_mem_each (j := 0) (t := 22) rfl rfl q hq)
    simpa using this
  have k1 := h1
  have lt1 : ∀ x ∈ p1, x.block < W.heap.size := by obtain ⟨m, hm⟩ := k1; exact DataW.trod_lt m _ _ _ hm
  obtain ⟨a1, n1, c1, rfl⟩ := okWide_slice Try.underlying22 (hval 1 22 v1 rfl rfl)
  obtain ⟨l1, hP1, hI1, hT1, hL1⟩ : ∃ l, Pts W (.slice a1 n1 c1) l ∧ Ins l ∧ TxB l ∧ l.length ≤ reachBytes := by
    obtain ⟨fuel, hf⟩ := h1
    refine parts_of_trod hf (fun q hq => ?_)
    have := List.all_eq_true.1 hsz _ (DataW.weights_mem_each (j := 1) (t := 22) rfl rfl q hq)
    simpa using this
  clear hA0 hval0
  refine (walk (.slice a0 n0 c0) l0 (.slice a1 n1 c1) l1 W hP0 hI0 hT0 hL0 hP1 hI1 hT1 hL1).mono fun e W' ⟨he, bel⟩ => ?_
  subst he
  exact ⟨_, rfl, _, _, _, [], _, [], hW', trodAll_mk1 (shut_bool Try.underlying4 _), (trodAll_cons_mk (Below.trod laidOut (by kernel_rfl) (of_decide_eq_true (by kernel_rfl)) k0 bel lt0) (trodAll_cons_mk (Below.trod laidOut (by kernel_rfl) (of_decide_eq_true (by kernel_rfl)) k1 bel lt1) trodAll_mk0)), rfl, bel.frame _, fun h => by cases h⟩

theorem over : Rows.keysOrderRow.holds Try.pinned (OpenSpec.ofChange Rows.keysOrderSpec) :=
  OpenClaim.holds_of_wide 4 Try.f4 rfl rfl rfl rfl rfl rfl rfl ⟨rfl, rfl, rfl, rfl, rfl⟩ rfl rfl rfl rfl rfl (by kernel_rfl) Try.func4 (by kernel_rfl)
    (of_decide_eq_true (by kernel_rfl)) (by unfold Func.isWrapper; first | (rw [if_pos (by decide +kernel)]; kernel_rfl) | (rw [if_neg (by decide +kernel)]; exact ⟨rfl, rfl⟩))
    (fun os started H enc _ => lifted os started H enc)

end Go.Proofs.Ytkhnhnaefmcngaa.keysOrder
namespace Go.Proofs.Ytkhnhnaefmcngaa
/-- The statement. -/
theorem keysOrder_holds : Rows.KeysOrderSaid := keysOrder.over
#print axioms keysOrder_holds
end Go.Proofs.Ytkhnhnaefmcngaa
