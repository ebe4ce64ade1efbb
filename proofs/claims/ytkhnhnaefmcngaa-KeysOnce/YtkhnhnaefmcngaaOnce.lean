/-
  Proved here: 'klaxonlaw07.KeysOnce' (P7.3), called with any text and any number, in any memory, returns true, and its arguments read afterwards as they read before: every text that is a key is the key of its parts; cut off, it is another one, or none. No condition beyond the row's own.
-/
import Derived.Test.YtkhnhnaefmcngaaRows
import Derived.WalkKit
import Derived.ProofKit
import Derived.OpenShut
import Derived.ShutString
import Derived.ChangeOld
import Derived.Below
import Derived.SizedLaws
import Derived.Test.YtkhnhnaefmcngaaArg
namespace Go.Proofs.Ytkhnhnaefmcngaa.keysOnce
open Go.ChangeShapes Go.WideShapes Go.ChangeAt Go.RowKit
open Go.ChangeMaps (open_string shut_string)
set_option linter.unusedVariables false

theorem own : ownKnob Try.prog.godebug = none := by kernel_rfl
theorem laidOut : laidOutB Try.prog = true := by kernel_rfl

set_option maxRecDepth 100000 in
set_option maxHeartbeats 4000000 in
theorem walk (s : ByteArray) (cut : Int) (w : World) (hs : s.size ≤ maxLen) (hc : I64 cut) : Calls Try.prog 6 #[.string s, .int .i64 cut] w fun e w' => e = .returned (.bool true) ∧ Below w.heap.size w w' := by
  unfold maxLen at hs
  have hlive := fun W => live_any W
  by_cases hbig : 8000 < s.size
  · have hd : (8000 : Int) < (s.size : Int) := by omega
    go_enter Try.func6, Try.ntmps6
    go_wp2_with (go_at_call 9; refine (hlive _).mono ?_; rintro e w1 ⟨rfl, hb1⟩)
    go_ret
    exact ⟨rfl, hb1⟩
  · have hd : ¬ (8000 : Int) < (s.size : Int) := by omega
    have hg := fun W => get_any s W (by omega)
    go_enter Try.func6, Try.ntmps6
    go_wp2_with fail
    refine (hg _).mono ?_
    rintro e w1 ⟨ok, v, l, rfl, hp, h1, h2, hb1⟩
    have hz1 := hb1.size
    clear hg
    have hnum := fun x (hx : -1000 ≤ x ∧ x ≤ 1000) W => num_any x W (by omega) (by omega)
    cases ok with
    | false =>
      obtain ⟨rfl, _⟩ := h2 rfl
      clear h1 h2
      obtain ⟨a, c, rfl⟩ := hp.shape
      clear hp
      go_wp2_with (first | (go_at_call 15; refine (hnum _ (by omega) _).mono ?_; rintro e w2 ⟨rfl, hw2⟩; subst w2) | (go_at_call 9; refine (hlive _).mono ?_; rintro e w2 ⟨rfl, hb2⟩))
      go_ret
      exact ⟨rfl, hb1.trans (hb2.mono hz1)⟩
    | true =>
      obtain ⟨hok, hkey⟩ := h1 rfl
      clear h1 h2
      have hput := put_any v l w1 hp (ins_of hok.2) (by have := hok.1; omega)
      have hps : putS l = s := by rw [putS_ok hok, hkey, strOf_numsS]
      rw [hps, putE_ok hok] at hput
      clear hps
      by_cases hcut : cut < 0 ∨ (s.size : Int) ≤ cut
      · have hcd : (decide (cut < 0) = true) ∨ (decide (cut < 0) = false ∧ decide ((s.size : Int) ≤ cut) = true) := by
          by_cases h : cut < 0
          · exact .inl (by simpa using h)
          · exact .inr ⟨by simpa using h, by simp; omega⟩
        clear hcut
        rcases hcd with hcd | ⟨hcd, hcd2⟩
        all_goals
          go_wp2_with (first | (go_at_call 15; refine (hnum _ (by omega) _).mono ?_; rintro e w2 ⟨rfl, hw2⟩; subst w2) | (go_at_call 10; refine hput.mono ?_; rintro e w3 ⟨rfl, hb3⟩) | (go_at_call 9; refine (hlive _).mono ?_; rintro e w4 ⟨rfl, hb4⟩))
          go_ret
          exact ⟨rfl, (hb1.trans (hb3.mono hz1)).trans (hb4.mono (hb1.trans (hb3.mono hz1)).size)⟩
      · obtain ⟨k, rfl⟩ : ∃ k : Nat, cut = k := ⟨cut.toNat, by omega⟩
        have hk : k < s.size := by omega
        have hsl : ∀ W : World, (Instr.slice 9 (.string s) none (some (.int .i64 (k : Int))) none).run Try.prog W = .ok (.string (s.extract 0 k)) W := by
          intro W
          have := run_slice_string_h W 9 s Try.underlying9 .i64 (k : Int) (by omega) (by omega)
          rwa [Int.toNat_natCast] at this
        have hex : numsS (s.extract 0 k) = (numsS s).take k := by rw [numsS_extract]; simp
        have hesz : (s.extract 0 k).size ≤ 1000000 := by rw [← numsS_length, hex, List.length_take, numsS_length]; omega
        have hg2 := fun W => get_any (s.extract 0 k) W hesz
        have hcd : decide ((k : Int) < 0) = false := by simp
        have hcd2 : decide ((s.size : Int) ≤ (k : Int)) = false := by simp; omega
        have hbeg : Hid (∀ m, Ok m → keyB m = numsS (s.extract 0 k) → m.length < l.length ∧ ∃ r, l = m ++ r) := by
          intro m hm e
          rw [hex] at e
          have hnl := numsS_length s
          have e2 : keyB l = keyB m ++ (numsS s)[k]'(by omega) :: (numsS s).drop (k + 1) := by
            rw [e, hkey, List.getElem_cons_drop, List.take_append_drop]
          obtain ⟨q, t, rfl⟩ := key_begins hok.2 hm.2 e2
          exact ⟨by simp, q :: t, rfl⟩
        clear hex hesz hkey hcut
        generalize s.extract 0 k = S at *
        go_wp2_with (first | (go_at_call 15; refine (hnum _ (by omega) _).mono ?_; rintro e w2 ⟨rfl, hw2⟩; subst w2) | (go_at_call 10; refine hput.mono ?_; rintro e w3 ⟨rfl, hb3⟩))
        refine (hg2 _).mono ?_
        rintro e w4 ⟨ok, u, m, rfl, hp4, h1, h2, hb4⟩
        have hz3 := hb3.size
        have hz4 := hb4.size
        have hB4 : Below w.heap.size w w4 := (hb1.trans (hb3.mono hz1)).trans (hb4.mono (by omega))
        have hpl : Pts w4 v l := (hp.grow hb3).grow hb4
        clear hg2 hp hput hb1 hb3 hb4
        cases ok with
        | false =>
          obtain ⟨rfl, _⟩ := h2 rfl
          clear h1 h2
          go_wp2_with (first | (go_at_call 15; refine (hnum _ (by omega) _).mono ?_; rintro e w2 ⟨rfl, hw2⟩; subst w2) | (go_at_call 9; refine (hlive _).mono ?_; rintro e w5 ⟨rfl, hb5⟩))
          go_ret
          exact ⟨rfl, hB4.trans (hb5.mono hB4.size)⟩
        | true =>
          obtain ⟨hokm, hkm⟩ := h1 rfl
          obtain ⟨hlt, hbg⟩ := hbeg.out m hokm hkm
          have hbe := begins_any v u l m w4 hpl hp4 (by have := hok.1; omega) (by have := hokm.1; omega)
          have hl1 := len_pts hpl
          have hl2 := len_pts hp4
          have hdm : decide ((m.length : Int) < (l.length : Int)) = true := by simp; omega
          replace hbg : Hid _ := hbg
          clear h1 h2 hpl hp4 hkm hbeg hok hokm
          generalize hn : l.length = n at *
          generalize hm2 : m.length = n2 at *
          replace hn : Hid _ := hn
          replace hm2 : Hid _ := hm2
          go_wp2_with (first | (go_at_call 15; refine (hnum _ (by omega) _).mono ?_; rintro e w2 ⟨rfl, hw2⟩; subst w2) | (go_at_call 21; refine hbe.mono ?_; rintro e w5 ⟨B, rfl, hB, hb5⟩; obtain rfl : B = true := hB.2 hbg.out) | (go_at_call 9; refine (hlive _).mono ?_; rintro e w6 ⟨rfl, hb6⟩))
          go_ret
          have hB5 := hB4.trans (hb5.mono hB4.size)
          exact ⟨rfl, hB5.trans (hb6.mono hB5.size)⟩

/-! ### THE ROW's STEP -/
set_option maxRecDepth 100000 in
theorem lifted (os : Os) (started : os.Started) (H : Type) (enc : TypeId × Value → H) :
    ReturnsInHanded {} Try.checked os 6 .any (Rows.keysOnceSpec.pre6 enc Try.prog Try.f6 Rows.keysOnceRow.domain false) (Rows.keysOnceSpec.post enc Try.prog Try.f6 false true false false) := by
  refine returnsInHanded_of_change_sized (C := Try.checked) own started (by kernel_rfl) Try.func6
    (ChangeSpec.witness6 (enc := enc) (C := Try.checked) false ⟨#[], #[.string ⟨#[]⟩, .int .i64 0], []⟩ 8 (by kernel_rfl) (by kernel_rfl) (by kernel_rfl) (by kernel_rfl)) ?_
  intro W base args ds gs before hval0 hW hcnd hsz0 _
  have hsz : (DataW.weightsEach Try.prog (Try.f6.params.toList ++ Rows.keysOnceSpec.plain.varTypes Try.prog) (ds ++ gs)).all (· ≤ reachBytes) = true := hsz0
  have hval : ∀ (j : Nat) t v, Try.f6.params[j]? = some t → args[j]? = some v → Value.okWide Try.prog W .any base t v := hval0
  have hW' := hW
  obtain ⟨p, q, hA0, hV, rfl, hfz, hnd⟩ := hW
  have hA : DataW.TrodAll enc Try.prog W 0 (fun _ => true) true Try.f6.params.toList args.toList ds p := hA0
  rw [Try.params6] at hA hval hsz
  obtain ⟨v0, vs0, d0, ds0, p0, q0, hargs, rfl, rfl, h0, r0⟩ := trodAll_cons hA
  obtain ⟨v1, vs1, d1, ds1, p1, q1, rfl, rfl, rfl, h1, r1⟩ := trodAll_cons r0
  obtain ⟨rfl, rfl, rfl⟩ := trodAll_nil r1
  obtain rfl : args = #[v0, v1] := by cases args; simp_all
  obtain ⟨rfl, rfl⟩ := trodVars_none hV
  obtain ⟨s0, rfl, rfl, rfl, hs0⟩ := open_string Try.underlying9 (hval 0 9 v0 rfl rfl) h0
  obtain ⟨x1, rfl, rfl, rfl, w1⟩ := open_int Try.underlying3 (hval 1 3 v1 rfl rfl) h1
  clear hA0 hval0
  simp only [List.append_nil] at hW'
  refine (walk s0 x1 W hs0 (in64_of w1)).mono fun e W' ⟨he, bel⟩ => ?_
  subst he
  exact ⟨_, rfl, _, _, _, [], _, [], hW', trodAll_mk1 (shut_bool Try.underlying4 _), (trodAll_cons_mk (shut_string Try.underlying9 hs0) (trodAll_cons_mk (shut_int Try.underlying3 w1) trodAll_mk0)), rfl, bel.frame _, fun h => by cases h⟩

theorem over : Rows.keysOnceRow.holds Try.pinned (OpenSpec.ofChange Rows.keysOnceSpec) :=
  OpenClaim.holds_of_wide 6 Try.f6 rfl rfl rfl rfl rfl rfl rfl ⟨rfl, rfl, rfl, rfl, rfl⟩ rfl rfl rfl rfl rfl (by kernel_rfl) Try.func6 (by kernel_rfl)
    (of_decide_eq_true (by kernel_rfl)) (by unfold Func.isWrapper; first | (rw [if_pos (by decide +kernel)]; kernel_rfl) | (rw [if_neg (by decide +kernel)]; exact ⟨rfl, rfl⟩))
    (fun os started H enc _ => lifted os started H enc)

end Go.Proofs.Ytkhnhnaefmcngaa.keysOnce
namespace Go.Proofs.Ytkhnhnaefmcngaa
/-- The statement. -/
theorem keysOnce_holds : Rows.KeysOnceSaid := keysOnce.over
#print axioms keysOnce_holds
end Go.Proofs.Ytkhnhnaefmcngaa
