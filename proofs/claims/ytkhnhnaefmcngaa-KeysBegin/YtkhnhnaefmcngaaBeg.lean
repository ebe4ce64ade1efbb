/-
  Proved here: 'klaxonlaw07.KeysBegin' (P7.7), called with any three lists of parts, in any memory, returns true, and its arguments read afterwards as they read before: a key lies in the range of parts just if its parts begin with them. No condition beyond the row's own (each slice and string within the reach that every row states).
-/
import Derived.Test.YtkhnhnaefmcngaaRows
import Derived.WalkKit
import Derived.ProofKit
import Derived.OpenShut
import Derived.ShutString
import Derived.ChangeOld
import Derived.Below
import Derived.SizedLaws
import Derived.Test.YtkhnhnaefmcngaaStr
namespace Go.Proofs.Ytkhnhnaefmcngaa.keysBegin
open Go.ChangeShapes Go.WideShapes Go.ChangeAt Go.RowKit
open Go.ChangeMaps (open_string shut_string)
set_option linter.unusedVariables false

theorem own : ownKnob Try.prog.godebug = none := by kernel_rfl
theorem laidOut : laidOutB Try.prog = true := by kernel_rfl

set_option maxRecDepth 100000 in
set_option maxHeartbeats 4000000 in
theorem walk_out (va vm vr : Value) (a m r : List Pt) (w : World) (hPa : Pts w va a) (hTa : TxB a) (hLa : a.length ≤ 9223372036854775807) (hPm : Pts w vm m) (hTm : TxB m) (hLm : m.length ≤ 9223372036854775807) (hPr : Pts w vr r) (hTr : TxB r) (hLr : r.length ≤ 9223372036854775807)
    (h : smallB a = false ∨ (smallB a = true ∧ smallB m = false) ∨ (smallB a = true ∧ smallB m = true ∧ smallB r = false)) :
    Calls Try.prog 5 #[va, vm, vr] w fun e w' => e = .returned (.bool true) ∧ Below w.heap.size w w' := by
  have hlive := fun W => live_any W
  have h1 := small_any va a w hPa hTa hLa
  have h2 := small_any vm m w hPm hTm hLm
  have h3 := small_any vr r w hPr hTr hLr
  clear hPa hTa hPm hTm hPr hTr
  have tok1 : True := trivial
  have tok2 : True := trivial
  rcases h with h | ⟨h, h'⟩ | ⟨h, h', h''⟩
  · rw [h] at h1
    go_enter Try.func5, Try.ntmps5
    go_wp2_with (first | (go_at_call 8; refine h1.mono ?_; rintro e w1 ⟨rfl, hw1⟩; subst w1) | (go_at_call 9; refine (hlive _).mono ?_; rintro e w1 ⟨rfl, hb1⟩))
    go_ret
    exact ⟨rfl, hb1⟩
  · rw [h] at h1
    rw [h'] at h2
    go_enter Try.func5, Try.ntmps5
    go_wp2_with (first | (go_at_call 8; have _t := tok1; refine h1.mono ?_; rintro e w1 ⟨rfl, hw1⟩; subst w1; clear tok1) | (go_at_call 8; refine h2.mono ?_; rintro e w1 ⟨rfl, hw1⟩; subst w1) | (go_at_call 9; refine (hlive _).mono ?_; rintro e w1 ⟨rfl, hb1⟩))
    go_ret
    exact ⟨rfl, hb1⟩
  · rw [h] at h1
    rw [h'] at h2
    rw [h''] at h3
    go_enter Try.func5, Try.ntmps5
    go_wp2_with (first | (go_at_call 8; have _t := tok1; refine h1.mono ?_; rintro e w1 ⟨rfl, hw1⟩; subst w1; clear tok1) | (go_at_call 8; have _t := tok2; refine h2.mono ?_; rintro e w1 ⟨rfl, hw1⟩; subst w1; clear tok2) | (go_at_call 8; refine h3.mono ?_; rintro e w1 ⟨rfl, hw1⟩; subst w1) | (go_at_call 9; refine (hlive _).mono ?_; rintro e w1 ⟨rfl, hb1⟩))
    go_ret
    exact ⟨rfl, hb1⟩
set_option maxRecDepth 100000 in
set_option maxHeartbeats 4000000 in
theorem walk_in (va vm vr : Value) (a m r : List Pt) (w : World) (hPa : Pts w va a) (hTa : TxB a) (hIa : Ins a) (hPm : Pts w vm m) (hTm : TxB m) (hIm : Ins m) (hPr : Pts w vr r) (hTr : TxB r) (hIr : Ins r)
    (hsa : smallB a = true) (hsm : smallB m = true) (hsr : smallB r = true) :
    Calls Try.prog 5 #[va, vm, vr] w fun e w' => e = .returned (.bool true) ∧ Below w.heap.size w w' := by
  have hlive := fun W => live_any W
  have hla : a.length ≤ 20 := by unfold smallB at hsa; simp at hsa; omega
  have hlm : m.length ≤ 20 := by unfold smallB at hsm; simp at hsm; omega
  have hlr : r.length ≤ 20 := by unfold smallB at hsr; simp at hsr; omega
  have h1 := small_any va a w hPa hTa (by omega)
  have h2 := small_any vm m w hPm hTm (by omega)
  have h3 := small_any vr r w hPr hTr (by omega)
  rw [hsa] at h1
  rw [hsm] at h2
  rw [hsr] at h3
  have hput := put_any va a w hPa hIa (by omega)
  have hrng := fun W (h : Below w.heap.size w W) => range_any vm m W (hPm.grow h) hIm (by omega)
  have hga : Hid (∀ W, Below w.heap.size w W → Pts W va a) := fun W h => hPa.grow h
  have hgm : Hid (∀ W, Below w.heap.size w W → Pts W vm m) := fun W h => hPm.grow h
  have hgr : Hid (∀ W, Below w.heap.size w W → Pts W vr r) := fun W h => hPr.grow h
  have hnum := fun x (hx : -1000 ≤ x ∧ x ≤ 1000) W => num_any x W (by omega) (by omega)
  have hea := putE_in a
  have hem := putE_in m
  have tok1 : True := trivial
  have tok2 : True := trivial
  clear hPa hPm hPr hTa hTm hTr hsa hsm hsr
  go_enter Try.func5, Try.ntmps5
  go_wp2_with (first
    | (go_at_call 8; have _t := tok1; refine h1.mono ?_; rintro e wx ⟨rfl, hwx⟩; subst wx; clear tok1)
    | (go_at_call 8; have _t := tok2; refine h2.mono ?_; rintro e wx ⟨rfl, hwx⟩; subst wx; clear tok2)
    | (go_at_call 8; refine h3.mono ?_; rintro e wx ⟨rfl, hwx⟩; subst wx))
  refine hput.mono ?_
  rintro e w1 ⟨rfl, hb1⟩
  go_wp2_with fail
  refine (hrng _ hb1).mono ?_
  rintro e w2 ⟨rfl, hb2⟩
  have hB2 : Below w.heap.size w w2 := hb1.trans (hb2.mono hb1.size)
  clear hput hrng h1 h2 h3 hb1 hb2
  by_cases hE : putE a = 0 ∧ putE m = 0
  · obtain ⟨hEa, hEm⟩ := hE
    have oka := putE_oks hIa hEa
    have okm := putE_oks hIm hEm
    rw [hEa, hEm]
    have hT : putT m = strOfNums (keyB m ++ [255]) := by rw [putT, if_pos hEm]
    have bm255 : IsBytes (keyB m ++ [255]) := isBytes_append (keyB_bytes okm.2) (fun c hc => by simp at hc; omega)
    have hcmp : ∀ q, Ok q → ∃ b1 b2 : Bool, Op.bytesLess (putS q).toList (putS m).toList = b1 ∧ Op.bytesLess (putS q).toList (putT m).toList = b2 ∧ ((b1 = false ∧ b2 = true) ↔ ∃ t, q = m ++ t) := by
      intro q hq
      refine ⟨_, _, rfl, rfl, ?_⟩
      rw [putS_ok hq, putS_ok okm, hT, less_keys (keyB_bytes hq.2) (keyB_bytes okm.2), less_keys (keyB_bytes hq.2) bm255, ← key_range hq.2 okm.2]
      simp
    obtain ⟨b1, b2, c1, c2, hiff⟩ := hcmp a oka
    have hbe := begins_any va vm a m w2 (hga.out _ hB2) (hgm.out _ hB2) (by omega) (by omega)
    have happ : Hid (putE (m ++ r) = 0 → Op.bytesLess (putS (m ++ r)).toList (putS m).toList = false ∧ Op.bytesLess (putS (m ++ r)).toList (putT m).toList = true) := by
      intro h0
      have hq : Ok (m ++ r) := putE_oks (fun q hq => by
        rcases List.mem_append.1 hq with h | h
        · exact hIm q h
        · exact hIr q h) h0
      obtain ⟨d1, d2, e1, e2, hi2⟩ := hcmp _ hq
      rw [e1, e2]
      exact hi2.2 ⟨r, rfl⟩
    have hIms : Hid (Ins (m ++ r)) := fun q hq => by
        rcases List.mem_append.1 hq with h | h
        · exact hIm q h
        · exact hIr q h
    clear hcmp hT bm255 oka okm hEa hEm hIa hIm hIr hga hea hem
    generalize putS a = X at *
    generalize putS m = F at *
    generalize putT m = T at *
    have hbe2 : Calls Try.prog 21 #[va, vm] w2 fun e w' => e = .returned (.bool (!b1 && b2)) ∧ Below w2.heap.size w2 w' := by
      refine hbe.mono ?_
      rintro e w3 ⟨B, rfl, hB, hb3⟩
      refine ⟨?_, hb3⟩
      have : B = (!b1 && b2) := by
        rw [Bool.eq_iff_iff, hB, ← hiff]
        simp
      rw [this]
    clear hbe hiff
    have hgm2 : Hid (∀ W, Below w2.heap.size w2 W → Pts W vm m) := fun W h => hgm.out W (hB2.trans (h.mono hB2.size))
    have hgr2 : Hid (∀ W, Below w2.heap.size w2 W → Pts W vr r) := fun W h => hgr.out W (hB2.trans (h.mono hB2.size))
    clear hgm hgr
    have hrest : ∀ (w3 w5 : World) (v5 : Value), Below w2.heap.size w2 w3 → Below w3.heap.size w3 w5 → OwnP w5 w3.heap.size v5 (m ++ r) → Calls Try.prog 10 #[v5] w5 fun e w' => e = .returned (.tuple #[.string (putS (m ++ r)), .int .i64 (putE (m ++ r))]) ∧ Below w.heap.size w w' := by
      intro w3 w5 v5 h3 h5 ho5
      refine (put_any v5 (m ++ r) w5 ho5.pts hIms.out (by simp; omega)).mono ?_
      rintro e w6 ⟨rfl, hb6⟩
      have hx : Below w.heap.size w w3 := hB2.trans (h3.mono hB2.size)
      have hy : Below w.heap.size w w5 := hx.trans (h5.mono hx.size)
      exact ⟨rfl, hy.trans (hb6.mono hy.size)⟩
    have hei := putE_in (m ++ r)
    clear hIms
    generalize putE (m ++ r) = E at *
    generalize putS (m ++ r) = Y at *
    have hE2 : E = 0 ∨ E ≠ 0 := by omega
    cases b1 <;> cases b2
    all_goals
      simp only [Bool.not_true, Bool.not_false, Bool.and_true, Bool.and_false] at hbe2
      go_wp2_with (first
        | (go_at_call 15; refine (hnum _ (by omega) _).mono ?_; rintro e wx ⟨rfl, hwx⟩; subst wx)
        | (go_at_call 21; refine hbe2.mono ?_; rintro e w3 ⟨rfl, hb3⟩)
        | (at_builtin; refine appPs rfl (.tmp 61) (.tmp 62) rfl w3.heap.size _ vm [] m rfl rfl (own_empty w3 _ (Nat.le_refl _)) ((hgm2.out _ hb3).grow ((Below.refl _ _).alloc (Nat.le_refl _) _)) (by simp) (by simp; omega) ?_; intro v4 w4 ho4 hg4; rw [List.nil_append] at ho4; have hB4 : Below w3.heap.size w3 w4 := ((Below.refl _ w3).alloc (Nat.le_refl _) _).grown hg4 (by simp) (by intro q hq; cases hq; exact Nat.le_refl _))
        | (at_builtin; refine appPs rfl (.tmp 63) (.tmp 64) rfl w3.heap.size v4 vr m r rfl rfl ho4 (hgr2.out _ (hb3.trans (hB4.mono hb3.size))) hB4.size (by omega) ?_; intro v5 w5 ho5 hg5))
      have hB5 : Below w3.heap.size w3 w5 := hB4.trans (ho4.grows hB4.size hg5)
      refine (hrest w3 w5 v5 hb3 hB5 ho5).mono ?_
      rintro e w6 ⟨rfl, hb6⟩
      clear hrest hB5 hB4 ho5 ho4 hg5 hg4 hgm2 hgr2 hb3 hbe2
      rcases hE2 with hE0 | hE0
      · obtain ⟨d1, d2⟩ := happ.out hE0
        subst hE0
        clear happ
        go_wp2_with (first
          | (go_at_call 15; refine (hnum _ (by omega) _).mono ?_; rintro e wx ⟨rfl, hwx⟩; subst wx)
          | (go_at_call 9; refine (hlive _).mono ?_; rintro e w7 ⟨rfl, hb7⟩))
        go_ret
        exact ⟨rfl, hb6.trans (hb7.mono hb6.size)⟩
      · have hEn : (E != 0) = true := by simpa using hE0
        clear happ
        go_wp2_with (first
          | (go_at_call 15; refine (hnum _ (by omega) _).mono ?_; rintro e wx ⟨rfl, hwx⟩; subst wx)
          | (go_at_call 9; refine (hlive _).mono ?_; rintro e w7 ⟨rfl, hb7⟩))
        go_ret
        exact ⟨rfl, hb6.trans (hb7.mono hb6.size)⟩
  · generalize putE a = Ea at *
    generalize putE m = Em at *
    generalize putS a = X at *
    generalize putS m = F at *
    generalize putT m = T at *
    clear hga hgm hgr hIa hIm hIr
    have h3 : ((Ea != 0) = true) ∨ ((Ea != 0) = false ∧ (Em != 0) = true) := by
      by_cases h : Ea = 0
      · exact .inr ⟨by simpa using h, by simp; exact fun e => hE ⟨h, e⟩⟩
      · exact .inl (by simpa using h)
    clear hE
    rcases h3 with h3 | ⟨h3, h4⟩
    all_goals
      go_wp2_with (first
        | (go_at_call 15; refine (hnum _ (by omega) _).mono ?_; rintro e wx ⟨rfl, hwx⟩; subst wx)
        | (go_at_call 9; refine (hlive _).mono ?_; rintro e w7 ⟨rfl, hb7⟩))
      go_ret
      exact ⟨rfl, hB2.trans (hb7.mono hB2.size)⟩
theorem walk (va : Value) (a : List Pt) (vm : Value) (m : List Pt) (vr : Value) (r : List Pt) (w : World) (hPa : Pts w va a) (hIa : Ins a) (hTa : TxB a) (hLa : a.length ≤ reachBytes) (hPm : Pts w vm m) (hIm : Ins m) (hTm : TxB m) (hLm : m.length ≤ reachBytes) (hPr : Pts w vr r) (hIr : Ins r) (hTr : TxB r) (hLr : r.length ≤ reachBytes) :
    Calls Try.prog 5 #[va, vm, vr] w fun e w' => e = .returned (.bool true) ∧ Below w.heap.size w w' := by
  unfold reachBytes at hLa hLm hLr
  cases h1 : smallB a with
  | false => exact walk_out va vm vr a m r w hPa hTa (by omega) hPm hTm (by omega) hPr hTr (by omega) (.inl h1)
  | true =>
    cases h2 : smallB m with
    | false => exact walk_out va vm vr a m r w hPa hTa (by omega) hPm hTm (by omega) hPr hTr (by omega) (.inr (.inl ⟨h1, h2⟩))
    | true =>
      cases h3 : smallB r with
      | false => exact walk_out va vm vr a m r w hPa hTa (by omega) hPm hTm (by omega) hPr hTr (by omega) (.inr (.inr ⟨h1, h2, h3⟩))
      | true => exact walk_in va vm vr a m r w hPa hTa hIa hPm hTm hIm hPr hTr hIr h1 h2 h3

/-! ### THE ROW's STEP -/
set_option maxRecDepth 100000 in
theorem lifted (os : Os) (started : os.Started) (H : Type) (enc : TypeId × Value → H) :
    ReturnsInHanded {} Try.checked os 5 .any (Rows.keysBeginSpec.pre6 enc Try.prog Try.f5 Rows.keysBeginRow.domain false) (Rows.keysBeginSpec.post enc Try.prog Try.f5 false true false false) := by
  refine returnsInHanded_of_change_sized (C := Try.checked) own started (by kernel_rfl) Try.func5
    (ChangeSpec.witness6 (enc := enc) (C := Try.checked) false ⟨#[], #[.slice none 0 0, .slice none 0 0, .slice none 0 0], []⟩ 8 (by kernel_rfl) (by kernel_rfl) (by kernel_rfl) (by kernel_rfl)) ?_
  intro W base args ds gs before hval0 hW hcnd hsz0 _
  have hsz : (DataW.weightsEach Try.prog (Try.f5.params.toList ++ Rows.keysBeginSpec.plain.varTypes Try.prog) (ds ++ gs)).all (· ≤ reachBytes) = true := hsz0
  have hval : ∀ (j : Nat) t v, Try.f5.params[j]? = some t → args[j]? = some v → Value.okWide Try.prog W .any base t v := hval0
  have hW' := hW
  obtain ⟨p, q, hA0, hV, rfl, hfz, hnd⟩ := hW
  have hA : DataW.TrodAll enc Try.prog W 0 (fun _ => true) true Try.f5.params.toList args.toList ds p := hA0
  rw [Try.params5] at hA hval hsz
  obtain ⟨v0, vs0, d0, ds0, p0, q0, hargs, rfl, rfl, h0, r0⟩ := trodAll_cons hA
  obtain ⟨v1, vs1, d1, ds1, p1, q1, rfl, rfl, rfl, h1, r1⟩ := trodAll_cons r0
  obtain ⟨v2, vs2, d2, ds2, p2, q2, rfl, rfl, rfl, h2, r2⟩ := trodAll_cons r1
  obtain ⟨rfl, rfl, rfl⟩ := trodAll_nil r2
  obtain rfl : args = #[v0, v1, v2] := by cases args; simp_all
  obtain ⟨rfl, rfl⟩ := trodVars_none hV
  have k0 := h0
  have lt0 : ∀ x ∈ p0, x.block < W.heap.size := by obtain ⟨m, hm⟩ := k0; exact DataW.trod_lt m _ _ _ hm
  obtain ⟨a0, n0, c0, rfl⟩ := okWide_slice Try.underlying22 (hval 0 22 v0 rfl rfl)
  obtain ⟨l0, hP0, hI0, hT0, hL0⟩ : ∃ l, Pts W (.slice a0 n0 c0) l ∧ Ins l ∧ TxB l ∧ l.length ≤ reachBytes := by
    obtain ⟨fuel, hf⟩ := h0
    refine parts_of_trod hf (fun q hq => ?_)
    have := List.all_eq_true.1 hsz _ (DataW.weights_mem_each (j := 0) (t := 22) rfl rfl q hq)
    simpa using this
  have k1 := h1
  have lt1 : ∀ x ∈ p1, x.block < W.heap.size := by obtain ⟨m, hm⟩ := k1; exact DataW.trod_lt m _ _ _ hm
  obtain ⟨a1, n1, c1, rfl⟩ := okWide_slice Try.underlying22 (hval 1 22 v1 rfl rfl)
  obtain ⟨l1, hP1, hI1, hT1, hL1⟩ : ∃ l, Pts W (.slice a1 n1 c1) l ∧ Ins l ∧ TxB l ∧ l.length ≤ reachBytes := by
    obtain ⟨fuel, hf⟩ := h1
    refine parts_of_trod hf (fun q hq => ?_)
    have := List.all_eq_true.1 hsz _ (DataW.weights_mem_each (j := 1) (t := 22) rfl rfl q hq)
    simpa using this
  have k2 := h2
  have lt2 : ∀ x ∈ p2, x.block < W.heap.size := by obtain ⟨m, hm⟩ := k2; exact DataW.trod_lt m _ _ _ hm
  obtain ⟨a2, n2, c2, rfl⟩ := okWide_slice Try.underlying22 (hval 2 22 v2 rfl rfl)
  obtain ⟨l2, hP2, hI2, hT2, hL2⟩ : ∃ l, Pts W (.slice a2 n2 c2) l ∧ Ins l ∧ TxB l ∧ l.length ≤ reachBytes := by
    obtain ⟨fuel, hf⟩ := h2
    refine parts_of_trod hf (fun q hq => ?_)
    have := List.all_eq_true.1 hsz _ (DataW.weights_mem_each (j := 2) (t := 22) rfl rfl q hq)
    simpa using this
  clear hA0 hval0
  refine (walk (.slice a0 n0 c0) l0 (.slice a1 n1 c1) l1 (.slice a2 n2 c2) l2 W hP0 hI0 hT0 hL0 hP1 hI1 hT1 hL1 hP2 hI2 hT2 hL2).mono fun e W' ⟨he, bel⟩ => ?_
  subst he
  exact ⟨_, rfl, _, _, _, [], _, [], hW', trodAll_mk1 (shut_bool Try.underlying4 _), (trodAll_cons_mk (Below.trod laidOut (by kernel_rfl) (of_decide_eq_true (by kernel_rfl)) k0 bel lt0) (trodAll_cons_mk (Below.trod laidOut (by kernel_rfl) (of_decide_eq_true (by kernel_rfl)) k1 bel lt1) (trodAll_cons_mk (Below.trod laidOut (by kernel_rfl) (of_decide_eq_true (by kernel_rfl)) k2 bel lt2) trodAll_mk0))), rfl, bel.frame _, fun h => by cases h⟩

theorem over : Rows.keysBeginRow.holds Try.pinned (OpenSpec.ofChange Rows.keysBeginSpec) :=
  OpenClaim.holds_of_wide 5 Try.f5 rfl rfl rfl rfl rfl rfl rfl ⟨rfl, rfl, rfl, rfl, rfl⟩ rfl rfl rfl rfl rfl (by kernel_rfl) Try.func5 (by kernel_rfl)
    (of_decide_eq_true (by kernel_rfl)) (by unfold Func.isWrapper; first | (rw [if_pos (by decide +kernel)]; kernel_rfl) | (rw [if_neg (by decide +kernel)]; exact ⟨rfl, rfl⟩))
    (fun os started H enc _ => lifted os started H enc)

end Go.Proofs.Ytkhnhnaefmcngaa.keysBegin
namespace Go.Proofs.Ytkhnhnaefmcngaa
/-- The statement. -/
theorem keysBegin_holds : Rows.KeysBeginSaid := keysBegin.over
#print axioms keysBegin_holds
end Go.Proofs.Ytkhnhnaefmcngaa
