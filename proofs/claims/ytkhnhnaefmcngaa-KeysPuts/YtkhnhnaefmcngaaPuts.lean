/-
  Proved here: 'klaxonlaw07.KeysPuts' (P7.1 to P7.3, P7.5), called with any list of parts, any text and any number, in any memory, returns true, and its arguments read afterwards as they read before: Put, Get and Range answer as the document's own Put and Get do, Int and Text are the parts that they say. No condition beyond the row's own (each slice and string within the reach that every row states).
-/
import Derived.Test.YtkhnhnaefmcngaaRows
import Derived.WalkKit
import Derived.ProofKit
import Derived.OpenShut
import Derived.ShutString
import Derived.ChangeOld
import Derived.Below
import Derived.SizedLaws
import Derived.Test.YtkhnhnaefmcngaaRge
namespace Go.Proofs.Ytkhnhnaefmcngaa.keysPuts
open Go.ChangeShapes Go.WideShapes Go.ChangeAt Go.RowKit
open Go.ChangeMaps (open_string shut_string)
set_option linter.unusedVariables false

theorem own : ownKnob Try.prog.godebug = none := by kernel_rfl
theorem laidOut : laidOutB Try.prog = true := by kernel_rfl

set_option maxRecDepth 100000 in
set_option maxHeartbeats 4000000 in
theorem walk_out (v : Value) (l : List Pt) (s : ByteArray) (x : Int) (w : World) (hs : s.size ≤ 9223372036854775807) (hP : Pts w v l) (hT : TxB l) (hL : l.length ≤ 9223372036854775807)
    (h : smallB l = false ∨ (smallB l = true ∧ 8000 < s.size)) :
    Calls Try.prog 3 #[v, .string s, .int .i64 x] w fun e w' => e = .returned (.bool true) ∧ Below w.heap.size w w' := by
  have hlive := fun W => live_any W
  have hsm := small_any v l w hP hT hL
  clear hP hT
  rcases h with h | ⟨h, h2⟩
  · rw [h] at hsm
    go_enter Try.func3, Try.ntmps3
    go_wp2_with (first | (go_at_call 8; refine hsm.mono ?_; rintro e w1 ⟨rfl, hw1⟩; subst w1) | (go_at_call 9; refine (hlive _).mono ?_; rintro e w1 ⟨rfl, hb1⟩))
    go_ret
    exact ⟨rfl, hb1⟩
  · rw [h] at hsm
    have hd : decide ((8000 : Int) < (s.size : Int)) = true := by simp; omega
    go_enter Try.func3, Try.ntmps3
    go_wp2_with (first | (go_at_call 8; refine hsm.mono ?_; rintro e w1 ⟨rfl, hw1⟩; subst w1) | (go_at_call 9; refine (hlive _).mono ?_; rintro e w1 ⟨rfl, hb1⟩))
    go_ret
    exact ⟨rfl, hb1⟩
/-- What Get answers is settled by the text alone. -/
theorem getQ_one (s : ByteArray) : ∃ (m : List Pt) (G : Int), (0 ≤ G ∧ G ≤ 70) ∧ m.length ≤ 8 ∧
    ∀ (w : World) (e : Ending) (w' : World), GetQ s w e w' → ∃ v, e = .returned (.tuple #[v, .int .i64 G]) ∧ Pts w' v m ∧ Below w.heap.size w w' := by
  by_cases h : ∃ m, Ok m ∧ keyB m = numsS s
  · obtain ⟨m, h1, h2⟩ := h
    refine ⟨m, 0, by omega, h1.1, ?_⟩
    rintro w e w' ⟨ok, v', l, rfl, hp, q1, q2, hb⟩
    cases ok with
    | false => exact absurd h2 ((q2 rfl).2 m h1)
    | true =>
      obtain ⟨q3, q4⟩ := q1 rfl
      have := key_inj q3.2 h1.2 (q4.trans h2.symm)
      subst this
      exact ⟨v', rfl, hp, hb⟩
  · refine ⟨[], 70, by omega, by simp, ?_⟩
    rintro w e w' ⟨ok, v', l, rfl, hp, q1, q2, hb⟩
    cases ok with
    | false =>
      obtain ⟨rfl, _⟩ := q2 rfl
      exact ⟨v', rfl, hp, hb⟩
    | true => exact absurd ⟨l, q1 rfl⟩ h
set_option maxRecDepth 100000 in
set_option maxHeartbeats 8000000 in
theorem walk_in (v : Value) (l : List Pt) (s : ByteArray) (x : Int) (w : World) (hx : I64 x) (hP : Pts w v l) (hI : Ins l) (hT : TxB l)
    (hsm0 : smallB l = true) (hs : s.size ≤ 8000) :
    Calls Try.prog 3 #[v, .string s, .int .i64 x] w fun e w' => e = .returned (.bool true) ∧ Below w.heap.size w w' := by
  have hlive := fun W => live_any W
  have hl : l.length ≤ 20 := by unfold smallB at hsm0; simp at hsm0; omega
  have hsm := small_any v l w hP hT (by omega)
  rw [hsm0] at hsm
  have hd : decide ((8000 : Int) < (s.size : Int)) = false := by simp; omega
  have hg : Hid (∀ W, Below w.heap.size w W → Pts W v l) := fun W h => hP.grow h
  have hB0 : Below w.heap.size w w := Below.refl _ _
  have hnum := fun x (hx : -1000 ≤ x ∧ x ≤ 1000) W => num_any x W (by omega) (by omega)
  have hia := fun W => int_any x W
  have hic := fun W => text_any s W
  obtain ⟨m, G, hG, hm8, hget0⟩ := getQ_one s
  have hget := fun W => (get_any s W (by omega)).mono (hget0 W)
  have hrget := fun W => (rget_any s W (by omega)).mono (hget0 W)
  have hsame : ∀ (W : World) (v1 v2 : Value), Pts W v1 m → Pts W v2 m → Calls Try.prog 16 #[v1, v2] W fun e w' => e = .returned (.bool true) ∧ Below W.heap.size W w' := by
    intro W v1 v2 h1 h2
    refine (same_any v1 v2 m m W h1 h2 (by omega) (by omega)).mono ?_
    rintro e w' ⟨B, rfl, hB, hb⟩
    obtain rfl : B = true := hB.2 rfl
    exact ⟨rfl, hb⟩
  have hput := fun W u (h : Pts W u l) => put_any u l W h hI (by omega)
  have hrput := fun W (h : Below w.heap.size w W) => rput_any v l W (hP.grow h) hI (by omega)
  have hrng := fun W u (h : Pts W u l) => range_any u l W h hI (by omega)
  have hE := putE_in l
  have hT0 : Hid (putE l = 0 → putT l = putS l ++ ⟨#[255]⟩ ∧ (putS l).size ≤ 10000) := by
    intro hE
    have hok := putE_oks hI hE
    refine ⟨by rw [putT, if_pos hE, putS_ok hok, ← strOf_append]; rfl, ?_⟩
    rw [putS_ok hok]
    have h1 := keyB_len hok.2
    have h2 := hok.1
    have : (strOfNums (keyB l)).size = (keyB l).length := by show Array.size _ = _; simp
    omega
  have hT1 : Hid (putE l ≠ 0 → putT l = ⟨#[]⟩ ∧ putS l = ⟨#[]⟩) := fun hE => ⟨by rw [putT, if_neg hE], putS_bad hE⟩
  clear hP hI hT hsm0 hget0
  generalize putE l = E at *
  generalize putS l = P at *
  generalize putT l = T at *
  go_enter Try.func3, Try.ntmps3
  go_wp2_with (first
    | (go_at_call 8; refine hsm.mono ?_; rintro e wx ⟨rfl, hwx⟩; subst wx)
    | (at_builtin; refine appPs rfl (.tmp 29) (.tmp 30) rfl w.heap.size _ v [] l rfl rfl (own_empty w _ (Nat.le_refl _)) ((hg.out _ hB0).grow ((Below.refl _ _).alloc (Nat.le_refl _) _)) (by simp) (by simp; omega) ?_; intro v11 w11 ho11 hg11; rw [List.nil_append] at ho11))
  have hB11 : Below w.heap.size w w11 := ((Below.refl _ w).alloc (Nat.le_refl _) _).grown hg11 (by simp) (by intro q hq; cases hq; exact Nat.le_refl _)
  refine (hput w11 v11 ho11.pts).mono ?_
  rintro e w1 ⟨rfl, hb1⟩
  have hB1 : Below w.heap.size w w1 := hB11.trans (hb1.mono hB11.size)
  clear hput hb1 hB11 ho11 hg11 hsm
  go_wp2_with fail
  refine (hrput w1 hB1).mono ?_
  rintro e w2 ⟨rfl, hb2⟩
  have hB2 : Below w.heap.size w w2 := hB1.trans (hb2.mono hB1.size)
  clear hrput hb2 hB1
  go_wp2_with fail
  refine (hget w2).mono ?_
  rintro e w3 ⟨v3, rfl, hp3, hb3⟩
  have hB3 : Below w.heap.size w w3 := hB2.trans (hb3.mono hB2.size)
  clear hget hb3 hB2
  go_wp2_with fail
  refine (hrget w3).mono ?_
  rintro e w4 ⟨v4, rfl, hp4, hb4⟩
  have hB4 : Below w.heap.size w w4 := hB3.trans (hb4.mono hB3.size)
  replace hp3 := hp3.grow hb4
  clear hrget hb4 hB3
  go_wp2_with (first
    | (at_builtin; refine appPs rfl (.tmp 51) (.tmp 52) rfl w4.heap.size _ v [] l rfl rfl (own_empty w4 _ (Nat.le_refl _)) ((hg.out _ hB4).grow ((Below.refl _ _).alloc (Nat.le_refl _) _)) (by simp) (by simp; omega) ?_; intro v51 w51 ho51 hg51; rw [List.nil_append] at ho51))
  have hB51 : Below w4.heap.size w4 w51 := ((Below.refl _ w4).alloc (Nat.le_refl _) _).grown hg51 (by simp) (by intro q hq; cases hq; exact Nat.le_refl _)
  refine (hrng w51 v51 ho51.pts).mono ?_
  rintro e w5 ⟨rfl, hb5⟩
  have hb45 : Below w4.heap.size w4 w5 := hB51.trans (hb5.mono hB51.size)
  have hB5 : Below w.heap.size w w5 := hB4.trans (hb45.mono hB4.size)
  replace hp3 := hp3.grow hb45
  replace hp4 := hp4.grow hb45
  have hsm5 := hsame w5 v3 v4 hp3 hp4
  clear hrng hb5 hB51 ho51 hg51 hb45 hB4 hg hp3 hp4 hsame hd
  by_cases hE0 : E = 0
  · obtain ⟨rfl, hsz⟩ := hT0.out hE0
    subst hE0
    have hcat : ¬ 9223372036854775807 < P.size + 1 := by omega
    clear hT0 hT1
    go_wp2_with (first
      | (go_at_call 15; refine (hnum _ (by omega) _).mono ?_; rintro e wx ⟨rfl, hwx⟩; subst wx)
      | (go_at_call 16; refine hsm5.mono ?_; rintro e w6 ⟨rfl, hb6⟩)
      | (go_at_call 17; refine (hia _).mono ?_; rintro e w7 ⟨rfl, hb7⟩; unfold ptV)
      | (go_at_call 18; refine (hic _).mono ?_; rintro e w8 ⟨rfl, hb8⟩; unfold ptV)
      | (go_at_call 9; refine (hlive _).mono ?_; rintro e w9 ⟨rfl, hb9⟩))
    go_ret
    have q6 := hB5.trans (hb6.mono hB5.size)
    have q7 := q6.trans (hb7.mono q6.size)
    have q8 := q7.trans (hb8.mono q7.size)
    exact ⟨rfl, q8.trans (hb9.mono q8.size)⟩
  · obtain ⟨rfl, rfl⟩ := hT1.out hE0
    have hEn : (E == 0) = false := by simpa using hE0
    clear hT0 hT1
    go_wp2_with (first
      | (go_at_call 15; refine (hnum _ (by omega) _).mono ?_; rintro e wx ⟨rfl, hwx⟩; subst wx)
      | (go_at_call 16; refine hsm5.mono ?_; rintro e w6 ⟨rfl, hb6⟩)
      | (go_at_call 17; refine (hia _).mono ?_; rintro e w7 ⟨rfl, hb7⟩; unfold ptV)
      | (go_at_call 18; refine (hic _).mono ?_; rintro e w8 ⟨rfl, hb8⟩; unfold ptV)
      | (go_at_call 9; refine (hlive _).mono ?_; rintro e w9 ⟨rfl, hb9⟩))
    go_ret
    have q6 := hB5.trans (hb6.mono hB5.size)
    have q7 := q6.trans (hb7.mono q6.size)
    have q8 := q7.trans (hb8.mono q7.size)
    exact ⟨rfl, q8.trans (hb9.mono q8.size)⟩
theorem walk (v : Value) (l : List Pt) (s : ByteArray) (x : Int) (w : World) (hP : Pts w v l) (hI : Ins l) (hT : TxB l) (hL : l.length ≤ reachBytes) (hs : s.size ≤ maxLen) (hx : I64 x) :
    Calls Try.prog 3 #[v, .string s, .int .i64 x] w fun e w' => e = .returned (.bool true) ∧ Below w.heap.size w w' := by
  unfold maxLen at hs
  unfold reachBytes at hL
  by_cases h : smallB l = true ∧ s.size ≤ 8000
  · exact walk_in v l s x w hx hP hI hT h.1 h.2
  · refine walk_out v l s x w (by omega) hP hT (by omega) ?_
    cases hb : smallB l with
    | false => exact .inl rfl
    | true =>
      rw [hb] at h
      exact .inr ⟨rfl, by simp at h; omega⟩

/-! ### THE ROW's STEP -/
set_option maxRecDepth 100000 in
theorem lifted (os : Os) (started : os.Started) (H : Type) (enc : TypeId × Value → H) :
    ReturnsInHanded {} Try.checked os 3 .any (Rows.keysPutsSpec.pre6 enc Try.prog Try.f3 Rows.keysPutsRow.domain false) (Rows.keysPutsSpec.post enc Try.prog Try.f3 false true false false) := by
  refine returnsInHanded_of_change_sized (C := Try.checked) own started (by kernel_rfl) Try.func3
    (ChangeSpec.witness6 (enc := enc) (C := Try.checked) false ⟨#[], #[.slice none 0 0, .string ⟨#[]⟩, .int .i64 0], []⟩ 8 (by kernel_rfl) (by kernel_rfl) (by kernel_rfl) (by kernel_rfl)) ?_
  intro W base args ds gs before hval0 hW hcnd hsz0 _
  have hsz : (DataW.weightsEach Try.prog (Try.f3.params.toList ++ Rows.keysPutsSpec.plain.varTypes Try.prog) (ds ++ gs)).all (· ≤ reachBytes) = true := hsz0
  have hval : ∀ (j : Nat) t v, Try.f3.params[j]? = some t → args[j]? = some v → Value.okWide Try.prog W .any base t v := hval0
  have hW' := hW
  obtain ⟨p, q, hA0, hV, rfl, hfz, hnd⟩ := hW
  have hA : DataW.TrodAll enc Try.prog W 0 (fun _ => true) true Try.f3.params.toList args.toList ds p := hA0
  rw [Try.params3] at hA hval hsz
  obtain ⟨v0, vs0, d0, ds0, p0, q0, hargs, rfl, rfl, h0, r0⟩ := trodAll_cons hA
  obtain ⟨v1, vs1, d1, ds1, p1, q1, rfl, rfl, rfl, h1, r1⟩ := trodAll_cons r0
  obtain ⟨v2, vs2, d2, ds2, p2, q2, rfl, rfl, rfl, h2, r2⟩ := trodAll_cons r1
  obtain ⟨rfl, rfl, rfl⟩ := trodAll_nil r2
  obtain rfl : args = #[v0, v1, v2] := by cases args; simp_all
  obtain ⟨rfl, rfl⟩ := trodVars_none hV
  have k0 := h0
  have lt0 : ∀ x ∈ p0, x.block < W.heap.size := by obtain ⟨m, hm⟩ := k0; exact DataW.trod_lt m _ _ _ hm
  obtain ⟨a0, n0, c0, rfl⟩ := okWide_slice Try.underlying22 (hval 0 22 v0 rfl rfl)
  obtain ⟨l0, hP0, hI0, hT0, hL0⟩ : ∃ l, Pts W (.slice a0 n0 c0) l ∧ Ins l ∧ TxB l ∧ l.length ≤ reachBytes := by
    obtain ⟨fuel, hf⟩ := h0
    refine parts_of_trod hf (fun q hq => ?_)
    have := List.all_eq_true.1 hsz _ (DataW.weights_mem_each (j := 0) (t := 22) rfl rfl q hq)
    simpa using this
  obtain ⟨s1, rfl, rfl, rfl, hs1⟩ := open_string Try.underlying9 (hval 1 9 v1 rfl rfl) h1
  obtain ⟨x2, rfl, rfl, rfl, w2⟩ := open_int Try.underlying2 (hval 2 2 v2 rfl rfl) h2
  clear hA0 hval0
  refine (walk (.slice a0 n0 c0) l0 s1 x2 W hP0 hI0 hT0 hL0 hs1 (in64_of w2)).mono fun e W' ⟨he, bel⟩ => ?_
  subst he
  exact ⟨_, rfl, _, _, _, [], _, [], hW', trodAll_mk1 (shut_bool Try.underlying4 _), (trodAll_cons_mk (Below.trod laidOut (by kernel_rfl) (of_decide_eq_true (by kernel_rfl)) k0 bel lt0) (trodAll_cons_mk (shut_string Try.underlying9 hs1) (trodAll_cons_mk (shut_int Try.underlying2 w2) trodAll_mk0))), rfl, bel.frame _, fun h => by cases h⟩

theorem over : Rows.keysPutsRow.holds Try.pinned (OpenSpec.ofChange Rows.keysPutsSpec) :=
  OpenClaim.holds_of_wide 3 Try.f3 rfl rfl rfl rfl rfl rfl rfl ⟨rfl, rfl, rfl, rfl, rfl⟩ rfl rfl rfl rfl rfl (by kernel_rfl) Try.func3 (by kernel_rfl)
    (of_decide_eq_true (by kernel_rfl)) (by unfold Func.isWrapper; first | (rw [if_pos (by decide +kernel)]; kernel_rfl) | (rw [if_neg (by decide +kernel)]; exact ⟨rfl, rfl⟩))
    (fun os started H enc _ => lifted os started H enc)

end Go.Proofs.Ytkhnhnaefmcngaa.keysPuts
namespace Go.Proofs.Ytkhnhnaefmcngaa
/-- The statement. -/
theorem keysPuts_holds : Rows.KeysPutsSaid := keysPuts.over
#print axioms keysPuts_holds
end Go.Proofs.Ytkhnhnaefmcngaa
