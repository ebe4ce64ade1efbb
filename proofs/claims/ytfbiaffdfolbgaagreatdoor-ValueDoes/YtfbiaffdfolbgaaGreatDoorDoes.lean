/- ValueDoes: of every operation, and every values, the program's Do tells what the document's tells; so do Check, True, and the values by name. Conditions: none beyond the row's. -/
import Derived.Test.YtfbiaffdfolbgaaGreatDoorXb
import Derived.Test.YtfbiaffdfolbgaaGreatDoorVa4
import Derived.Test.YtfbiaffdfolbgaaGreatDoorTie
import Derived.Test.YtfbiaffdfolbgaaGreatDoorCards
import Derived.SevenTiedAt
import Derived.OpenShut
namespace Go.Proofs.YtfbiaffdfolbgaaGreatDoor.valueDoes
open Go.ChangeShapes Go.WideShapes Go.ChangeAt Go.RowKit Go.Maps Go.ChangeMaps Go.MapKept
set_option linter.unusedVariables false
attribute [local go_sem ↓] Go.wp_at_zero Go.wp_at_succ
set_option maxRecDepth 100000 in
set_option maxHeartbeats 16000000 in
theorem walk (op : ByteArray) (v : Value) (l : List Vl) (n : Int) (w : World) (hG : G w) (hs : op.size ≤ maxLen) (hv : Vls w v l) : Calls Tryz.prog 3 #[.string op, v, .int .i64 n] w fun e w' => e = .returned (.bool true) ∧ Below w.heap.size w w' := by
  have hlv : ∀ W, Below w.heap.size w W → Calls Tryz.prog 9 #[] W fun e w' => e = .returned (.bool true) ∧ Below W.heap.size W w' := fun W h => live_any W (hG.grow h)
  have hen := fun n W => enum_any n W
  unfold maxLen at hs
  obtain ⟨a, c, rfl⟩ := hv.shape
  obtain ⟨m, hm⟩ : ∃ m, Hid (m = l.length) := ⟨_, rfl⟩
  rw [← hm.out] at hv ⊢
  replace hv : Hid (Vls w (.slice a m c) l) := hv
  clear hG
  by_cases hl : m ≤ 100
  case neg =>
    have hli : (100 : Int) < (m : Int) := by omega
    have hl0 := hlv w (Below.refl _ _)
    go_enter Tryz.func3, Tryz.ntmps3
    go_wp2_with (first | (go_at_call 9; refine hl0.mono ?_; rintro e w2 ⟨rfl, hb2⟩))
    go_ret
    exact ⟨rfl, hb2⟩
  case pos =>
    have hli : ¬ (100 : Int) < (m : Int) := by omega
    by_cases ho : op.size ≤ 20000
    case neg =>
      have hoi : (20000 : Int) < (op.size : Int) := by omega
      have hl0 := hlv w (Below.refl _ _)
      go_enter Tryz.func3, Tryz.ntmps3
      go_wp2_with (first | (go_at_call 9; refine hl0.mono ?_; rintro e w2 ⟨rfl, hb2⟩))
      go_ret
      exact ⟨rfl, hb2⟩
    case pos =>
      have hoi : ¬ (20000 : Int) < (op.size : Int) := by omega
      have hd1 : Hid (∀ W u, Vls W u l → Calls Tryz.prog 10 #[.string op, u] W fun e w' => e = .returned (.tuple #[vlV (doV op l), .int .i64 (doE op l)]) ∧ Below W.heap.size W w') := fun W u h => do_any op u l W h (by rw [← hm.out]; omega)
      have hd2 : Hid (∀ W u, Vls W u l → Calls Tryz.prog 11 #[.string op, u] W fun e w' => e = .returned (.tuple #[vlV (doV op l), .int .i64 (doE op l)]) ∧ Below W.heap.size W w') := fun W u h => rdo_any op u l W h (by rw [← hm.out]; omega)
      have hc1 : Hid (∀ W u, Vls W u l → Calls Tryz.prog 16 #[u] W fun e w' => e = .returned (.int .i64 (chkE l)) ∧ Below W.heap.size W w') := fun W u h => check_any u l W h (by rw [← hm.out]; omega)
      have hc2 : Hid (∀ W u, Vls W u l → Calls Tryz.prog 17 #[u] W fun e w' => e = .returned (.int .i64 (chkE l)) ∧ Below W.heap.size W w') := fun W u h => rcheck_any u l W h (by rw [← hm.out]; omega)
      have hn1 : ∀ W, Calls Tryz.prog 18 #[.int .i64 n] W fun e w' => e = .returned (vlV (num n)) ∧ Below W.heap.size W w' := fun W => num_any n W
      have hn2 : ∀ W, Calls Tryz.prog 19 #[.int .i64 n] W fun e w' => e = .returned (vlV (num n)) ∧ Below W.heap.size W w' := fun W => rnum_any n W
      obtain ⟨P, hP⟩ : ∃ P, Hid (P = decide ((0 : Int) < n)) := ⟨_, rfl⟩
      have ht1 : ∀ W, Calls Tryz.prog 20 #[.bool (decide ((0 : Int) < n))] W fun e w' => e = .returned (vlV (tru P)) ∧ Below W.heap.size W w' := fun W => by rw [← hP.out]; exact truth_any P W
      have ht2 : ∀ W, Calls Tryz.prog 21 #[.bool (decide ((0 : Int) < n))] W fun e w' => e = .returned (vlV (tru P)) ∧ Below W.heap.size W w' := fun W => by rw [← hP.out]; exact rtruth_any P W
      have k22 : ∀ W, Calls Tryz.prog 22 #[] W fun e w' => e = .returned (vlV nul) ∧ Below W.heap.size W w' := fun W => null_b W
      have k23 : ∀ W, Calls Tryz.prog 23 #[] W fun e w' => e = .returned (vlV nul) ∧ Below W.heap.size W w' := fun W => rnull_b W
      have k24 : ∀ W, Calls Tryz.prog 24 #[] W fun e w' => e = .returned (vlV nan) ∧ Below W.heap.size W w' := fun W => nan_b W
      have k25 : ∀ W, Calls Tryz.prog 25 #[] W fun e w' => e = .returned (vlV nan) ∧ Below W.heap.size W w' := fun W => rnan_b W
      have k26 : ∀ W, Calls Tryz.prog 26 #[] W fun e w' => e = .returned (vlV pls) ∧ Below W.heap.size W w' := fun W => plus_b W
      have k27 : ∀ W, Calls Tryz.prog 27 #[] W fun e w' => e = .returned (vlV pls) ∧ Below W.heap.size W w' := fun W => rplus_b W
      have k28 : ∀ W, Calls Tryz.prog 28 #[] W fun e w' => e = .returned (vlV mns) ∧ Below W.heap.size W w' := fun W => minus_b W
      have k29 : ∀ W, Calls Tryz.prog 29 #[] W fun e w' => e = .returned (vlV mns) ∧ Below W.heap.size W w' := fun W => rminus_b W
      generalize doV op l = R at *
      generalize doE op l = E at *
      generalize chkE l = CH at *
      generalize num n = NU at *
      generalize tru P = TP at *
      generalize nul = V1 at *
      generalize nan = V2 at *
      generalize pls = V3 at *
      generalize mns = V4 at *
      unfold vlV at *
      have hvk : Hid (∀ W, Below w.heap.size w W → Vls W (.slice a m c) l) := fun W h => Vls.grow hv.out h
      have hge : (w.alloc (.cells #[] 25)).heap[w.heap.size]? = some (.cells #[] 25 (0, 0)) := by show (w.heap.push _)[w.heap.size]? = _; simp
      have hve := hvk.out _ (bW0 w (.cells #[] 25))
      have hlm : l.length ≤ 1000 := by rw [← hm.out]; omega
      go_enter Tryz.func3, Tryz.ntmps3
      go_wp2_with (first
        | (at_builtin; refine copyV rfl (.tmp 23) (.tmp 24) rfl w.heap.size w.heap.size (Nat.le_refl _) rfl hge _ l rfl hve hlm ?_; intro v5 w5 hv5 hb5; have hB5 := (bW0 w (.cells #[] 25)).trans hb5; have hz1 := hd1.out w5 v5 hv5)
        | (go_at_call 10; refine hz1.mono ?_; rintro e w6 ⟨rfl, hb6⟩; have hB6 := hB5.trans (hb6.mono hB5.size); have hB7 := hB6.alloc hB6.size (.cells #[.int .i64 R.kind, .int .i64 R.n] 25); have hr7 : VlAt (w6.alloc (.cells #[.int .i64 R.kind, .int .i64 R.n] 25)) w6.heap.size R := vlNew w6 R; have hz2 := hd2.out _ _ (hvk.out _ hB7))
        | (go_at_call 11; refine hz2.mono ?_; rintro e w8 ⟨rfl, hb8⟩; have hB8 := hB7.trans (hb8.mono hB7.size); have hB9 := hB8.alloc hB8.size (.cells #[.int .i64 R.kind, .int .i64 R.n] 25); have hr9 := (hr7.grow hb8).alloc (.cells #[.int .i64 R.kind, .int .i64 R.n] 25); have hs9 : VlAt (w8.alloc (.cells #[.int .i64 R.kind, .int .i64 R.n] 25)) w8.heap.size R := vlNew w8 R))
      generalize w8.alloc (.cells #[.int .i64 R.kind, .int .i64 R.n] 25) = U at *
      generalize w6.heap.size = b6 at *
      generalize w8.heap.size = b8 at *
      clear hz1 hz2 hb5 hb6 hb8 hB5 hB6 hB7 hB8 hr7 hv5 hge hve
      replace hr9 : Hid (VlAt U b6 R) := hr9
      replace hs9 : Hid (VlAt U b8 R) := hs9
      replace hB9 : Hid (Below w.heap.size w U) := hB9
      go_loopw [11] (fun i wr => ∃ k : Nat, k ≤ m ∧ i = .int .i64 k ∧ Hid (Below U.heap.size U wr)) (fun i _ => m - (intOf i).toNat)
      case atStart => exact ⟨0, Nat.zero_le _, rfl, Below.refl _ _⟩
      case round =>
        obtain ⟨k, hk, rfl, hB⟩ := hrel
        have hBd := hB.out
        have hBw := hB9.out.trans (hBd.mono hB9.out.size)
        by_cases hlt : k < m
        · have hki : (k : Int) < (m : Int) := by omega
          have hkl : k < l.length := by rw [← hm.out]; exact hlt
          obtain ⟨g, o, rfl, hcs⟩ := vls_at (hvk.out wr hBw) (by omega)
          obtain ⟨x0, x1⟩ := hcs k hkl
          generalize l.getD k zer = x at *
          have c0 : ∀ p : Bel wr, p.W.cell? ⟨g, o + k * 2, none⟩ = some (.int .i64 x.kind) := fun p => p.cell x0
          have c1' : ∀ p : Bel wr, p.W.cell? ⟨g, o + k * 2 + 1, none⟩ = some (.int .i64 x.n) := fun p => p.cell x1
          have hi : ∀ p : Bel wr, Calls Tryz.prog 12 #[.agg #[.int .i64 x.kind, .int .i64 x.n]] p.W fun e w' => e = .returned (.bool (isB x)) ∧ Below p.W.heap.size p.W w' := fun p => ris_any x p.W
          clear hcs x0 x1
          cases hix : isB x with
          | false =>
            rw [hix] at hi
            go_wp2
            refine wp_region_bel (by kernel_rfl) (by kernel_rfl) ?_
            repeat (go_big_quiet_step (exact Calls.bel (hi _)))
            refine wpQuiet_nil ?_
            rintro W ⟨p, rfl⟩
            go_wp2
            refine ⟨⟨k + 1, by omega, by go_num, hBd.trans (p.h.mono hBd.size)⟩, ?_⟩
            simp [intOf]; omega
          | true =>
            rw [hix] at hi
            have hvx : IsV x := of_decide_eq_true hix
            have h13 : ∀ p : Bel wr, Calls Tryz.prog 13 #[.agg #[.int .i64 x.kind, .int .i64 x.n]] p.W fun e w' => e = .returned (.bool (truB x)) ∧ Below p.W.heap.size p.W w' := fun p => true_any x hvx p.W
            have h14 : ∀ p : Bel wr, Calls Tryz.prog 14 #[.agg #[.int .i64 x.kind, .int .i64 x.n]] p.W fun e w' => e = .returned (.bool (truB x)) ∧ Below p.W.heap.size p.W w' := fun p => rtrue_any x p.W
            clear hvx
            cases hT : truB x
            all_goals
              rw [hT] at h13 h14
              go_wp2
              refine wp_region_bel (by kernel_rfl) (by kernel_rfl) ?_
              repeat (go_big_quiet_step (first | with_reducible exact Calls.bel (hi _) | with_reducible exact Calls.bel (h13 _) | with_reducible exact Calls.bel (h14 _)))
              refine wpQuiet_nil ?_
              rintro W ⟨p, rfl⟩
              go_wp2
              refine ⟨⟨k + 1, by omega, by go_num, hBd.trans (p.h.mono hBd.size)⟩, ?_⟩
              simp [intOf]; omega
        · obtain rfl : k = m := by omega
          have hki : ¬ (k : Int) < (k : Int) := by omega
          obtain ⟨r0, r1⟩ := (VlAt.grow hr9.out hBd).cells
          obtain ⟨s0, s1⟩ := (VlAt.grow hs9.out hBd).cells
          have hW := hBw
          have tok1 := True.intro
          go_wp2_with (first
            | (go_at_call 15; have _t := tok1; clear tok1; refine (hen E _).mono ?_; rintro e w10 ⟨rfl, hq⟩; replace hW := hW.trans (hq.mono hW.size); have hge : (w10.alloc (.cells #[] 25)).heap[w10.heap.size]? = some (.cells #[] 25 (0, 0)) := (by show (w10.heap.push _)[w10.heap.size]? = _; simp); have hb0 := hW.alloc hW.size (.cells #[] 25); have hve := hvk.out _ hb0; have hws := hW.size)
            | (at_builtin; refine copyV rfl (.tmp 69) (.tmp 70) rfl w10.heap.size w.heap.size hws rfl hge _ l rfl hve hlm ?_; intro v5 w11 hv5 hb5; have hW2 := hb0.trans hb5; replace hW := hW2; have hz1 := hc1.out w11 v5 hv5)
            | (go_at_call 16; refine hz1.mono ?_; rintro e w12 ⟨rfl, hq⟩; replace hW := hW.trans (hq.mono hW.size))
            | (go_at_call 15; refine (hen CH _).mono ?_; rintro e w13 ⟨rfl, hq⟩; replace hW := hW.trans (hq.mono hW.size); have hz2 := hc2.out w13 _ (hvk.out _ hW))
            | (go_at_call 17; refine hz2.mono ?_; rintro e w14 ⟨rfl, hq⟩; replace hW := hW.trans (hq.mono hW.size))
            | (go_at_call 18; (with_reducible refine (hn1 _).mono ?_); rintro e w15 ⟨rfl, hq⟩; replace hW := hW.trans (hq.mono hW.size))
            | (go_at_call 19; (with_reducible refine (hn2 _).mono ?_); rintro e w16 ⟨rfl, hq⟩; replace hW := hW.trans (hq.mono hW.size))
            | (go_at_call 20; (with_reducible refine (ht1 _).mono ?_); rintro e w17 ⟨rfl, hq⟩; replace hW := hW.trans (hq.mono hW.size))
            | (go_at_call 21; (with_reducible refine (ht2 _).mono ?_); rintro e w18 ⟨rfl, hq⟩; replace hW := hW.trans (hq.mono hW.size))
            | (go_at_call 22; (with_reducible refine (k22 _).mono ?_); rintro e w19 ⟨rfl, hq⟩; replace hW := hW.trans (hq.mono hW.size))
            | (go_at_call 23; (with_reducible refine (k23 _).mono ?_); rintro e w20 ⟨rfl, hq⟩; replace hW := hW.trans (hq.mono hW.size))
            | (go_at_call 24; (with_reducible refine (k24 _).mono ?_); rintro e w21 ⟨rfl, hq⟩; replace hW := hW.trans (hq.mono hW.size))
            | (go_at_call 25; (with_reducible refine (k25 _).mono ?_); rintro e w22 ⟨rfl, hq⟩; replace hW := hW.trans (hq.mono hW.size))
            | (go_at_call 26; (with_reducible refine (k26 _).mono ?_); rintro e w23 ⟨rfl, hq⟩; replace hW := hW.trans (hq.mono hW.size))
            | (go_at_call 27; (with_reducible refine (k27 _).mono ?_); rintro e w24 ⟨rfl, hq⟩; replace hW := hW.trans (hq.mono hW.size))
            | (go_at_call 28; (with_reducible refine (k28 _).mono ?_); rintro e w25 ⟨rfl, hq⟩; replace hW := hW.trans (hq.mono hW.size))
            | (go_at_call 29; (with_reducible refine (k29 _).mono ?_); rintro e w26 ⟨rfl, hq⟩; replace hW := hW.trans (hq.mono hW.size))
            | (go_at_call 9; refine (hlv _ hW).mono ?_; rintro e w27 ⟨rfl, hq⟩; replace hW := hW.trans (hq.mono hW.size)))
          go_ret
          exact ⟨rfl, hW⟩
/-! ### THE ROW's STEP -/
set_option maxRecDepth 100000 in
theorem lifted (os : Os) (started : os.Started) (H : Type) (enc : TypeId × Value → H) :
    ReturnsInHanded {} Tryz.checked os 3 .any (fun w args => (Rows.valueDoesSpec.pre enc Tryz.prog Tryz.f3 [] false w args ∧ laidMetH Tryz.prog laidV w) ∧ sizedMet enc Tryz.prog Tryz.f3 (OpenSpec.ofChange Rows.valueDoesSpec) false w args)
      (Rows.valueDoesSpec.post enc Tryz.prog Tryz.f3 false true false false) := by
  refine wrap (C := Tryz.checked) (X := fun w _ => laidMetH Tryz.prog laidV w) (fun _ _ _ hh h => h.of_heap hh) own started (by kernel_rfl) Tryz.func3
    (ChangeSpec.witness_shaped (enc := enc) (C := Tryz.checked) (os := os) (X := fun w _ => laidMetH Tryz.prog laidV w) false (World.laidAll Tryz.prog os laidV) #[.string ⟨#[]⟩, .slice none 0 0, .int .i64 0] 8 (World.laidAll_os _ _ _)
      (World.shaped_of_ZipB (by kernel_rfl) (by kernel_rfl)) (by kernel_rfl) (by kernel_rfl) (by kernel_rfl) (laidV_ok os _)) ?_
  intro W base args ds gs before hval0 hW _ hsz0 hL hsh
  have hG := G_of hL hsh
  have hval : ∀ (j : Nat) t v, Tryz.f3.params[j]? = some t → args[j]? = some v → Value.okWide Tryz.prog W .any base t v := hval0
  have hW' := hW
  obtain ⟨p, q, hA0, hV, rfl, _, _⟩ := hW
  have hA : DataW.TrodAll enc Tryz.prog W 0 (fun _ => true) true Tryz.f3.params.toList args.toList ds p := hA0
  rw [Tryz.params3] at hA hval
  obtain ⟨v0, vs0, d0, ds0, p0, q0, hargs, rfl, rfl, h0, r0⟩ := trodAll_cons hA
  obtain ⟨v1, vs1, d1, ds1, p1, q1, rfl, rfl, rfl, h1, r1⟩ := trodAll_cons r0
  obtain ⟨v2, vs2, d2, ds2, p2, q2, rfl, rfl, rfl, h2, r2⟩ := trodAll_cons r1
  obtain ⟨rfl, rfl, rfl⟩ := trodAll_nil r2
  obtain rfl : args = #[v0, v1, v2] := by cases args; simp_all
  obtain ⟨rfl, rfl⟩ := trodVars_none hV
  obtain ⟨a0, rfl, rfl, rfl, w0⟩ := open_string Tryz.underlying9 (hval 0 9 v0 rfl rfl) h0
  obtain ⟨a1, len1, cap1, rfl⟩ := okWide_slice Tryz.underlying22 (hval 1 22 v1 rfl rfl)
  have k1 := h1
  have lt1 : ∀ x ∈ p1, x.block < W.heap.size := by obtain ⟨m, hm⟩ := k1; exact DataW.trod_lt m _ _ _ hm
  obtain ⟨l1, hl1⟩ : ∃ l, Vls W (.slice a1 len1 cap1) l := by
    obtain ⟨fuel, hf⟩ := h1
    exact vals_of_trod hf
  obtain ⟨a2, rfl, rfl, rfl, w2⟩ := open_int Tryz.underlying2 (hval 2 2 v2 rfl rfl) h2
  clear hA0 hval0 hL hsz0 hsh
  refine (walk a0 (.slice a1 len1 cap1) l1 a2 W hG w0 hl1).mono fun e W' ⟨he, bel⟩ => ?_
  subst he
  exact ⟨_, rfl, _, _, _, [], _, [], hW', trodAll_mk1 (shut_bool Tryz.underlying4 _), (trodAll_cons_mk (shut_string Tryz.underlying9 w0) (trodAll_cons_mk (Below.trod laidOut (by kernel_rfl) (of_decide_eq_true (by kernel_rfl)) k1 bel lt1) (trodAll_cons_mk (shut_int Tryz.underlying2 w2) trodAll_mk0))), rfl, bel.frame _, fun h => by cases h⟩

theorem over : Rows.ValueDoesSaid :=
  OpenClaim.holds_of_wide 3 Tryz.f3 rfl rfl rfl rfl rfl rfl rfl ⟨rfl, rfl, rfl, rfl, rfl⟩ rfl rfl rfl rfl rfl (by kernel_rfl) Tryz.func3 (by kernel_rfl)
    (of_decide_eq_true (by kernel_rfl)) (by unfold Func.isWrapper; first | (rw [if_pos (by decide +kernel)]; kernel_rfl) | (rw [if_neg (by decide +kernel)]; exact ⟨rfl, rfl⟩))
    (fun os started H enc _ => lifted os started H enc)
end Go.Proofs.YtfbiaffdfolbgaaGreatDoor.valueDoes
namespace Go.Proofs.YtfbiaffdfolbgaaGreatDoor
open Go
/-- The card. -/
theorem valueDoes_card : Rows.ValueDoesCardSaid :=
  Claim7.holds_tied_plain_at .later [] [.data, .data, .data, .data, .sentinel, .sentinel, .pinned] true (true, "fa61cd251fadc37448c3489831ed32965a94f864c56d0be9077b6351e5f678b1") true valueDoes.over (fun _ h => by cases h) (by kernel_rfl) (fun _ h => by cases h) valueDoes_row_tie rfl ⟨rfl, rfl⟩ (by kernel_rfl) rfl
    (fun f fn hf hfn => by
      obtain rfl : f = 3 := Option.some.inj ((show Tryz.prog.funcNamed "klaxon/klaxonlaw08.ValueDoes" = some 3 by kernel_rfl).symm.trans hf) |>.symm
      obtain rfl : fn = Tryz.f3 := (Option.some.inj (Tryz.func3.symm.trans hfn)).symm
      exact ⟨by kernel_rfl, fun j t ht => by
        rw [Tryz.params3] at ht
        have hm : t ∈ [9, 22, 2] := by simpa using Array.mem_of_getElem? ht
        have hall : ([9, 22, 2].all fun u => !Tryz.prog.wantsStandIn u) = true := by kernel_rfl
        exact (show Tryz.prog.wantsStandIn t = false by simpa using List.all_eq_true.1 hall t hm)⟩)
    (by kernel_rfl)
#print axioms valueDoes_card
end Go.Proofs.YtfbiaffdfolbgaaGreatDoor
