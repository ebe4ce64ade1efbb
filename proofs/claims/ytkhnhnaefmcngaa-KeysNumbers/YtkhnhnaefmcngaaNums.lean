/-
  Proved here: 'klaxonlaw07.KeysNumbers' (P7.2, P7.6), called with any two numbers, any list of parts and any text, in any memory, returns true, and its arguments read afterwards as they read before: of two numbers the keys are in their order, behind whatever both begin with; a number is ahead of each text. No condition beyond the row's own (each slice and string within the reach that every row states).
-/
import Derived.Test.YtkhnhnaefmcngaaRows
import Derived.WalkKit
import Derived.ProofKit
import Derived.OpenShut
import Derived.ShutString
import Derived.ChangeOld
import Derived.Below
import Derived.SizedLaws
import Derived.Test.YtkhnhnaefmcngaaStr
namespace Go.Proofs.Ytkhnhnaefmcngaa.keysNumbers
open Go.ChangeShapes Go.WideShapes Go.ChangeAt Go.RowKit
open Go.ChangeMaps (open_string shut_string)
set_option linter.unusedVariables false

theorem own : ownKnob Try.prog.godebug = none := by kernel_rfl
theorem laidOut : laidOutB Try.prog = true := by kernel_rfl

set_option maxRecDepth 100000 in
set_option maxHeartbeats 4000000 in
theorem walk_out (a b : Int) (v : Value) (l : List Pt) (s : ByteArray) (w : World) (hs : s.size ≤ 9223372036854775807) (hP : Pts w v l) (hT : TxB l) (hL : l.length ≤ 9223372036854775807)
    (h : smallB l = false ∨ (smallB l = true ∧ 256 < s.size) ∨ (smallB l = true ∧ s.size ≤ 256 ∧ 4 < l.length)) :
    Calls Try.prog 7 #[.int .i64 a, .int .i64 b, v, .string s] w fun e w' => e = .returned (.bool true) ∧ Below w.heap.size w w' := by
  have hlive := fun W => live_any W
  have hsm := small_any v l w hP hT hL
  have hl1 := len_pts hP
  clear hP hT
  generalize hn : l.length = n at *
  replace hn : Hid _ := hn
  rcases h with h | ⟨h, h2⟩ | ⟨h, h2, h3⟩
  · rw [h] at hsm
    go_enter Try.func7, Try.ntmps7
    go_wp2_with (first | (go_at_call 8; refine hsm.mono ?_; rintro e w1 ⟨rfl, hw1⟩; subst w1) | (go_at_call 9; refine (hlive _).mono ?_; rintro e w1 ⟨rfl, hb1⟩))
    go_ret
    exact ⟨rfl, hb1⟩
  · rw [h] at hsm
    have hd : decide ((256 : Int) < (s.size : Int)) = true := by simp; omega
    go_enter Try.func7, Try.ntmps7
    go_wp2_with (first | (go_at_call 8; refine hsm.mono ?_; rintro e w1 ⟨rfl, hw1⟩; subst w1) | (go_at_call 9; refine (hlive _).mono ?_; rintro e w1 ⟨rfl, hb1⟩))
    go_ret
    exact ⟨rfl, hb1⟩
  · rw [h] at hsm
    have hd : decide ((256 : Int) < (s.size : Int)) = false := by simp; omega
    have hd2 : decide ((4 : Int) < (n : Int)) = true := by simp; omega
    go_enter Try.func7, Try.ntmps7
    go_wp2_with (first | (go_at_call 8; refine hsm.mono ?_; rintro e w1 ⟨rfl, hw1⟩; subst w1) | (go_at_call 9; refine (hlive _).mono ?_; rintro e w1 ⟨rfl, hb1⟩))
    go_ret
    exact ⟨rfl, hb1⟩
theorem ins_snoc {l : List Pt} {p : Pt} (h : Ins l) (hp : I64 p.num) : Ins (l ++ [p]) := by
  intro q hq
  rcases List.mem_append.1 hq with h1 | h1
  · exact h q h1
  · rw [List.mem_singleton.1 h1]; exact hp
theorem isBytes_textB (s : ByteArray) : IsBytes (textB s) := by
  intro c hc
  rcases List.mem_cons.1 hc with rfl | hc
  · omega
  · exact groups_bytes _ (numsS_bytes _) c hc
/-- What the three calls of Put tell, and how the keys lie to each other. -/
theorem keys_of (a b : Int) (l : List Pt) (s : ByteArray) (ha : I64 a) (hb : I64 b) (hI : Ins l) (hs : s.size ≤ 256) (hl4 : l.length ≤ 4) :
    ∃ (E : Int) (X Y Z : ByteArray), putE (l ++ [⟨1, a, ⟨#[]⟩⟩]) = E ∧ putE (l ++ [⟨1, b, ⟨#[]⟩⟩]) = E ∧ putE (l ++ [⟨2, 0, s⟩]) = E ∧
      putS (l ++ [⟨1, a, ⟨#[]⟩⟩]) = X ∧ putS (l ++ [⟨1, b, ⟨#[]⟩⟩]) = Y ∧ putS (l ++ [⟨2, 0, s⟩]) = Z ∧ (0 ≤ E ∧ E ≤ 2) ∧
      (E = 0 → Op.bytesLess X.toList Y.toList = decide (a < b) ∧ (X.toList == Y.toList) = (a == b) ∧ Op.bytesLess X.toList Z.toList = true ∧ Op.bytesLess Y.toList Z.toList = true) := by
  have hoA : OkP ⟨1, a, ⟨#[]⟩⟩ := .inl ⟨rfl, rfl, ha⟩
  have hoB : OkP ⟨1, b, ⟨#[]⟩⟩ := .inl ⟨rfl, rfl, hb⟩
  have hoC : OkP ⟨2, 0, s⟩ := .inr ⟨rfl, rfl, hs⟩
  have key : ∀ p, OkP p → putE (l ++ [p]) = firstE l := by
    intro p hp
    rw [putE, if_neg (by simp; omega), firstE_append]
    split
    · next h => rw [h, firstE, if_pos (errP_ok hp), firstE]
    · rfl
  refine ⟨firstE l, _, _, _, key _ hoA, key _ hoB, key _ hoC, rfl, rfl, rfl, firstE_in l, fun h0 => ?_⟩
  have hok : Oks l := firstE_oks hI h0
  have ok1 : ∀ p, OkP p → Ok (l ++ [p]) := fun p hp => ⟨by simp; omega, fun q hq => by
    rcases List.mem_append.1 hq with h | h
    · exact hok q h
    · rw [List.mem_singleton.1 h]; exact hp⟩
  have kb : ∀ p, keyB (l ++ [p]) = keyB l ++ partB p := fun p => by rw [keyB_append]; simp [keyB]
  rw [putS_ok (ok1 _ hoA), putS_ok (ok1 _ hoB), putS_ok (ok1 _ hoC), less_keys (keyB_bytes (ok1 _ hoA).2) (keyB_bytes (ok1 _ hoB).2), same_keys (keyB_bytes (ok1 _ hoA).2) (keyB_bytes (ok1 _ hoB).2), less_keys (keyB_bytes (ok1 _ hoA).2) (keyB_bytes (ok1 _ hoC).2), less_keys (keyB_bytes (ok1 _ hoB).2) (keyB_bytes (ok1 _ hoC).2)]
  rw [kb, kb, kb, cmpL_behind, cmpL_behind, cmpL_behind, partB_num rfl, partB_num rfl, partB_text rfl]
  show _ = _ ∧ _ = _ ∧ _ = _ ∧ _ = _
  simp only []
  rw [numB_cmp ha hb, (num_text a s ha).cmp, (num_text b s hb).cmp]
  refine ⟨?_, ?_, rfl, rfl⟩
  · by_cases h1 : a < b
    · simp [h1]
    · by_cases h2 : a = b
      · simp [h2]
      · simp [h1, h2]
  · by_cases h1 : a < b
    · have : a ≠ b := by omega
      simp [h1, this]
    · by_cases h2 : a = b
      · simp [h2]
      · simp [h1, h2]
set_option maxRecDepth 100000 in
set_option maxHeartbeats 4000000 in
theorem walk_in (a b : Int) (v : Value) (l : List Pt) (s : ByteArray) (w : World) (ha : I64 a) (hb : I64 b) (hP : Pts w v l) (hI : Ins l) (hT : TxB l)
    (hsm0 : smallB l = true) (hs : s.size ≤ 256) (hl4 : l.length ≤ 4) :
    Calls Try.prog 7 #[.int .i64 a, .int .i64 b, v, .string s] w fun e w' => e = .returned (.bool true) ∧ Below w.heap.size w w' := by
  have hlive := fun W => live_any W
  have hsm := small_any v l w hP hT (by omega)
  rw [hsm0] at hsm
  have hl1 := len_pts hP
  have hd : decide ((256 : Int) < (s.size : Int)) = false := by simp; omega
  have hd2 : decide ((4 : Int) < (l.length : Int)) = false := by simp; omega
  have hg : Hid (∀ W, Below w.heap.size w W → Pts W v l) := fun W h => hP.grow h
  have hB0 : Below w.heap.size w w := Below.refl _ _
  have hia := fun W => int_any a W
  have hib := fun W => int_any b W
  have hic := fun W => text_any s W
  have hI1 : Hid (Ins (l ++ [⟨1, a, ⟨#[]⟩⟩])) := ins_snoc hI ha
  have hI2 : Hid (Ins (l ++ [⟨1, b, ⟨#[]⟩⟩])) := ins_snoc hI hb
  have hI3 : Hid (Ins (l ++ [⟨2, 0, s⟩])) := ins_snoc hI (by show I64 0; unfold I64; omega)
  obtain ⟨E, X, Y, Z, e1, e2, e3, p1, p2, p3, hE, hcmp⟩ := keys_of a b l s ha hb hI hs hl4
  have hnum := fun x (hx : -1000 ≤ x ∧ x ≤ 1000) W => num_any x W (by omega) (by omega)
  clear hP hI hT hsm0
  go_enter Try.func7, Try.ntmps7
  go_wp2_with (first
    | (go_at_call 8; refine hsm.mono ?_; rintro e wx ⟨rfl, hwx⟩; subst wx)
    | (at_builtin; refine appPs rfl (.tmp 30) (.tmp 31) rfl w.heap.size _ v [] l rfl rfl (own_empty w _ (Nat.le_refl _)) ((hg.out _ hB0).grow ((Below.refl _ _).alloc (Nat.le_refl _) _)) (by simp) (by simp; omega) ?_; intro v11 w11 ho11 hg11; rw [List.nil_append] at ho11)
    | (go_at_call 17; refine (hia _).mono ?_; rintro e w12 ⟨rfl, hb12⟩; unfold ptV)
    | (at_builtin; refine appPs rfl (.tmp 32) (.tmp 35) rfl w.heap.size v11 _ l [(⟨1, a, ⟨#[]⟩⟩ : Pt)] rfl rfl ((ho11.stay hb12).alloc _) (pts_one w12 (⟨1, a, ⟨#[]⟩⟩ : Pt)) (by have := hb12.size; have := hg11.size; simp at *; omega) (by simp; omega) ?_; intro v13 w13 ho13 hg13))
  have hB11 : Below w.heap.size w w11 := ((Below.refl _ w).alloc (Nat.le_refl _) _).grown hg11 (by simp) (by intro q hq; cases hq; exact Nat.le_refl _)
  have hB12 : Below w.heap.size w w12 := hB11.trans (hb12.mono hB11.size)
  have hB13 : Below w.heap.size w w13 := (hB12.alloc hB12.size _).grown hg13 (by have := hB12.size; simp; omega) (fun q hq => (ho11.lt q hq).1)
  have hput1 := put_any v13 (l ++ [(⟨1, a, ⟨#[]⟩⟩ : Pt)]) w13 ho13.pts hI1.out (by simp; omega)
  rw [p1, e1] at hput1
  refine hput1.mono ?_
  rintro e w1 ⟨rfl, hb14⟩
  have hB1 : Below w.heap.size w w1 := hB0.trans ((hB13.trans (hb14.mono hB13.size)).mono hB0.size)
  clear hput1 hb12 hb14 hB11 hB12 hB13 ho11 ho13 hg11 hg13
  go_wp2_with (first
    | (at_builtin; refine appPs rfl (.tmp 41) (.tmp 42) rfl w1.heap.size _ v [] l rfl rfl (own_empty w1 _ (Nat.le_refl _)) ((hg.out _ hB1).grow ((Below.refl _ _).alloc (Nat.le_refl _) _)) (by simp) (by simp; omega) ?_; intro v21 w21 ho21 hg21; rw [List.nil_append] at ho21)
    | (go_at_call 17; refine (hib _).mono ?_; rintro e w22 ⟨rfl, hb22⟩; unfold ptV)
    | (at_builtin; refine appPs rfl (.tmp 43) (.tmp 46) rfl w1.heap.size v21 _ l [(⟨1, b, ⟨#[]⟩⟩ : Pt)] rfl rfl ((ho21.stay hb22).alloc _) (pts_one w22 (⟨1, b, ⟨#[]⟩⟩ : Pt)) (by have := hb22.size; have := hg21.size; simp at *; omega) (by simp; omega) ?_; intro v23 w23 ho23 hg23))
  have hB21 : Below w1.heap.size w1 w21 := ((Below.refl _ w1).alloc (Nat.le_refl _) _).grown hg21 (by simp) (by intro q hq; cases hq; exact Nat.le_refl _)
  have hB22 : Below w1.heap.size w1 w22 := hB21.trans (hb22.mono hB21.size)
  have hB23 : Below w1.heap.size w1 w23 := (hB22.alloc hB22.size _).grown hg23 (by have := hB22.size; simp; omega) (fun q hq => (ho21.lt q hq).1)
  have hput2 := put_any v23 (l ++ [(⟨1, b, ⟨#[]⟩⟩ : Pt)]) w23 ho23.pts hI2.out (by simp; omega)
  rw [p2, e2] at hput2
  refine hput2.mono ?_
  rintro e w2 ⟨rfl, hb24⟩
  have hB2 : Below w.heap.size w w2 := hB1.trans ((hB23.trans (hb24.mono hB23.size)).mono hB1.size)
  clear hput2 hb22 hb24 hB21 hB22 hB23 ho21 ho23 hg21 hg23
  go_wp2_with (first
    | (at_builtin; refine appPs rfl (.tmp 52) (.tmp 53) rfl w2.heap.size _ v [] l rfl rfl (own_empty w2 _ (Nat.le_refl _)) ((hg.out _ hB2).grow ((Below.refl _ _).alloc (Nat.le_refl _) _)) (by simp) (by simp; omega) ?_; intro v31 w31 ho31 hg31; rw [List.nil_append] at ho31)
    | (go_at_call 18; refine (hic _).mono ?_; rintro e w32 ⟨rfl, hb32⟩; unfold ptV)
    | (at_builtin; refine appPs rfl (.tmp 54) (.tmp 57) rfl w2.heap.size v31 _ l [(⟨2, 0, s⟩ : Pt)] rfl rfl ((ho31.stay hb32).alloc _) (pts_one w32 (⟨2, 0, s⟩ : Pt)) (by have := hb32.size; have := hg31.size; simp at *; omega) (by simp; omega) ?_; intro v33 w33 ho33 hg33))
  have hB31 : Below w2.heap.size w2 w31 := ((Below.refl _ w2).alloc (Nat.le_refl _) _).grown hg31 (by simp) (by intro q hq; cases hq; exact Nat.le_refl _)
  have hB32 : Below w2.heap.size w2 w32 := hB31.trans (hb32.mono hB31.size)
  have hB33 : Below w2.heap.size w2 w33 := (hB32.alloc hB32.size _).grown hg33 (by have := hB32.size; simp; omega) (fun q hq => (ho31.lt q hq).1)
  have hput3 := put_any v33 (l ++ [(⟨2, 0, s⟩ : Pt)]) w33 ho33.pts hI3.out (by simp; omega)
  rw [p3, e3] at hput3
  refine hput3.mono ?_
  rintro e w3 ⟨rfl, hb34⟩
  have hB3 : Below w.heap.size w w3 := hB2.trans ((hB33.trans (hb34.mono hB33.size)).mono hB2.size)
  clear hput3 hb32 hb34 hB31 hB32 hB33 ho31 ho33 hg31 hg33
  clear hia hib hic hI1 hI2 hI3 hg hl1 hsm e1 e2 e3 p1 p2 p3 hB0 hB1 hB2 hd hd2
  by_cases hE0 : E = 0
  · obtain ⟨c1, c2, c3, c4⟩ := hcmp hE0
    subst hE0
    clear hcmp
    go_wp2_with (first | (go_at_call 15; refine (hnum _ (by omega) _).mono ?_; rintro e wx ⟨rfl, hwx⟩; subst wx) | (go_at_call 9; refine (hlive _).mono ?_; rintro e w6 ⟨rfl, hb6⟩))
    go_ret
    exact ⟨rfl, hB3.trans (hb6.mono hB3.size)⟩
  · have hEn : (E == 0) = false := by simpa using hE0
    have hEn2 : (E != 0) = true := by simpa using hE0
    clear hcmp
    go_wp2_with (first | (go_at_call 15; refine (hnum _ (by omega) _).mono ?_; rintro e wx ⟨rfl, hwx⟩; subst wx) | (go_at_call 9; refine (hlive _).mono ?_; rintro e w6 ⟨rfl, hb6⟩))
    go_ret
    exact ⟨rfl, hB3.trans (hb6.mono hB3.size)⟩
theorem walk (a b : Int) (v : Value) (l : List Pt) (s : ByteArray) (w : World) (ha : I64 a) (hb : I64 b) (hP : Pts w v l) (hI : Ins l) (hT : TxB l) (hL : l.length ≤ reachBytes) (hs : s.size ≤ maxLen) :
    Calls Try.prog 7 #[.int .i64 a, .int .i64 b, v, .string s] w fun e w' => e = .returned (.bool true) ∧ Below w.heap.size w w' := by
  unfold maxLen at hs
  unfold reachBytes at hL
  by_cases h : smallB l = true ∧ s.size ≤ 256 ∧ l.length ≤ 4
  · exact walk_in a b v l s w ha hb hP hI hT h.1 h.2.1 h.2.2
  · refine walk_out a b v l s w (by omega) hP hT (by omega) ?_
    cases hb : smallB l with
    | false => exact .inl rfl
    | true =>
      rw [hb] at h
      by_cases h2 : 256 < s.size
      · exact .inr (.inl ⟨rfl, h2⟩)
      · exact .inr (.inr ⟨rfl, by omega, by simp at h; omega⟩)
/-! ### THE ROW's STEP -/
set_option maxRecDepth 100000 in
theorem lifted (os : Os) (started : os.Started) (H : Type) (enc : TypeId × Value → H) :
    ReturnsInHanded {} Try.checked os 7 .any (Rows.keysNumbersSpec.pre6 enc Try.prog Try.f7 Rows.keysNumbersRow.domain false) (Rows.keysNumbersSpec.post enc Try.prog Try.f7 false true false false) := by
  refine returnsInHanded_of_change_sized (C := Try.checked) own started (by kernel_rfl) Try.func7
    (ChangeSpec.witness6 (enc := enc) (C := Try.checked) false ⟨#[], #[.int .i64 0, .int .i64 0, .slice none 0 0, .string ⟨#[]⟩], []⟩ 8 (by kernel_rfl) (by kernel_rfl) (by kernel_rfl) (by kernel_rfl)) ?_
  intro W base args ds gs before hval0 hW hcnd hsz0 _
  have hsz : (DataW.weightsEach Try.prog (Try.f7.params.toList ++ Rows.keysNumbersSpec.plain.varTypes Try.prog) (ds ++ gs)).all (· ≤ reachBytes) = true := hsz0
  have hval : ∀ (j : Nat) t v, Try.f7.params[j]? = some t → args[j]? = some v → Value.okWide Try.prog W .any base t v := hval0
  have hW' := hW
  obtain ⟨p, q, hA0, hV, rfl, hfz, hnd⟩ := hW
  have hA : DataW.TrodAll enc Try.prog W 0 (fun _ => true) true Try.f7.params.toList args.toList ds p := hA0
  rw [Try.params7] at hA hval hsz
  obtain ⟨v0, vs0, d0, ds0, p0, q0, hargs, rfl, rfl, h0, r0⟩ := trodAll_cons hA
  obtain ⟨v1, vs1, d1, ds1, p1, q1, rfl, rfl, rfl, h1, r1⟩ := trodAll_cons r0
  obtain ⟨v2, vs2, d2, ds2, p2, q2, rfl, rfl, rfl, h2, r2⟩ := trodAll_cons r1
  obtain ⟨v3, vs3, d3, ds3, p3, q3, rfl, rfl, rfl, h3, r3⟩ := trodAll_cons r2
  obtain ⟨rfl, rfl, rfl⟩ := trodAll_nil r3
  obtain rfl : args = #[v0, v1, v2, v3] := by cases args; simp_all
  obtain ⟨rfl, rfl⟩ := trodVars_none hV
  obtain ⟨x0, rfl, rfl, rfl, w0⟩ := open_int Try.underlying2 (hval 0 2 v0 rfl rfl) h0
  obtain ⟨x1, rfl, rfl, rfl, w1⟩ := open_int Try.underlying2 (hval 1 2 v1 rfl rfl) h1
  have k2 := h2
  have lt2 : ∀ x ∈ p2, x.block < W.heap.size := by obtain ⟨m, hm⟩ := k2; exact DataW.trod_lt m _ _ _ hm
  obtain ⟨a2, n2, c2, rfl⟩ := okWide_slice Try.underlying22 (hval 2 22 v2 rfl rfl)
  obtain ⟨l2, hP2, hI2, hT2, hL2⟩ : ∃ l, Pts W (.slice a2 n2 c2) l ∧ Ins l ∧ TxB l ∧ l.length ≤ reachBytes := by
    obtain ⟨fuel, hf⟩ := h2
    refine parts_of_trod hf (fun q hq => ?_)
    have := List.all_eq_true.1 hsz _ (DataW.weights_mem_each (j := 2) (t := 22) rfl rfl q hq)
    simpa using this
  obtain ⟨s3, rfl, rfl, rfl, hs3⟩ := open_string Try.underlying9 (hval 3 9 v3 rfl rfl) h3
  clear hA0 hval0
  refine (walk x0 x1 (.slice a2 n2 c2) l2 s3 W (in64_of w0) (in64_of w1) hP2 hI2 hT2 hL2 hs3).mono fun e W' ⟨he, bel⟩ => ?_
  subst he
  exact ⟨_, rfl, _, _, _, [], _, [], hW', trodAll_mk1 (shut_bool Try.underlying4 _), (trodAll_cons_mk (shut_int Try.underlying2 w0) (trodAll_cons_mk (shut_int Try.underlying2 w1) (trodAll_cons_mk (Below.trod laidOut (by kernel_rfl) (of_decide_eq_true (by kernel_rfl)) k2 bel lt2) (trodAll_cons_mk (shut_string Try.underlying9 hs3) trodAll_mk0)))), rfl, bel.frame _, fun h => by cases h⟩

theorem over : Rows.keysNumbersRow.holds Try.pinned (OpenSpec.ofChange Rows.keysNumbersSpec) :=
  OpenClaim.holds_of_wide 7 Try.f7 rfl rfl rfl rfl rfl rfl rfl ⟨rfl, rfl, rfl, rfl, rfl⟩ rfl rfl rfl rfl rfl (by kernel_rfl) Try.func7 (by kernel_rfl)
    (of_decide_eq_true (by kernel_rfl)) (by unfold Func.isWrapper; first | (rw [if_pos (by decide +kernel)]; kernel_rfl) | (rw [if_neg (by decide +kernel)]; exact ⟨rfl, rfl⟩))
    (fun os started H enc _ => lifted os started H enc)

end Go.Proofs.Ytkhnhnaefmcngaa.keysNumbers
namespace Go.Proofs.Ytkhnhnaefmcngaa
/-- The statement. -/
theorem keysNumbers_holds : Rows.KeysNumbersSaid := keysNumbers.over
#print axioms keysNumbers_holds
end Go.Proofs.Ytkhnhnaefmcngaa
