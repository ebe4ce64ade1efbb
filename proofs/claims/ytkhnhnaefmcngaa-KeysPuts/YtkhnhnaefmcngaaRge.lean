/- The contract of the document's Get. -/
import Derived.Test.YtkhnhnaefmcngaaRpt
namespace Go.Proofs.Ytkhnhnaefmcngaa
set_option linter.unusedVariables false
open Go.RowKit
set_option maxRecDepth 100000 in
set_option maxHeartbeats 4000000 in
theorem rget_any (s : ByteArray) (w : World) (hs : s.size ≤ 1000000) : Calls Try.prog 13 #[.string s] w fun e w' => GetQ s w e w' := by
  have hno : Hid (∀ w2 : World, Below w.heap.size w w2 → (∀ L, Ok L → keyB L ≠ numsS s) → GetQ s w (.returned (.tuple #[.slice none 0 0, .int .i64 70])) w2) := fun w2 hb h => ⟨false, _, [], rfl, pts_nil _, (fun h => by cases h), fun _ => ⟨rfl, h⟩, hb⟩
  have hrp := fun S W h1 h2 => rpart_any S W h1 h2
  replace hrp : Hid _ := hrp
  have hnl : Hid ((numsS s).length = s.size) := numsS_length s
  go_enter Try.func13, Try.ntmps13
  go_wp2
  go_loopw [4, 5] (fun u i wr => ∃ (I : Nat) (l : List Pt), i = .int .i64 (I : Int) ∧ I ≤ s.size ∧ l.length ≤ I ∧ OwnP wr w.heap.size u l ∧ Hid (Ins l) ∧ Hid (PrI (numsS s) l ((numsS s).drop I)) ∧ Below w.heap.size w wr)
    (fun _ i _ => s.size - (intOf i).toNat)
  case atStart => exact ⟨0, [], rfl, Nat.zero_le _, by simp, World.ownsRow_nil _ _ _ _, (fun p hp => by cases hp), (fun L hL e => ⟨L, rfl, by rw [List.drop_zero]; exact e⟩), Below.refl _ _⟩
  case round =>
    obtain ⟨I, l, rfl, hI, hlI, ho, hin, hpr, hb⟩ := hrel
    have hz := hb.size
    obtain ⟨av, cv, hv⟩ := ho.shape
    subst hv
    obtain ⟨n, hn⟩ : ∃ n, Hid (n = l.length) := ⟨_, rfl⟩
    rw [← hn.out] at hlI ho ⊢
    by_cases hlt : I < s.size
    · have hIi : (I : Int) < (s.size : Int) := by omega
      have hsl : ∀ W : World, (Instr.slice 9 (.string s) (some (.int .i64 (I : Int))) none none).run Try.prog W = .ok (.string (s.extract I s.size)) W := by
        intro W
        have := run_slice_string_l W 9 s Try.underlying9 .i64 (I : Int) (by omega) (by omega)
        rwa [Int.toNat_natCast] at this
      have hex : numsS (s.extract I s.size) = (numsS s).drop I := by rw [numsS_extract, List.take_of_length_le (by rw [hnl.out]; omega)]
      have hesz : (s.extract I s.size).size = s.size - I := by rw [← numsS_length, hex, List.length_drop, hnl.out]
      have hcall := fun W => hrp.out (s.extract I s.size) W (by omega) (by omega)
      rw [hex] at hcall
      have hne : (numsS s).drop I ≠ [] := fun e => by have := congrArg List.length e; rw [List.length_drop, hnl.out] at this; simp at this; omega
      have hstep := fun p m => prI_step (p := p) (n := m) hpr.out hne
      clear hex hesz
      generalize s.extract I s.size = S at *
      go_wp2_with fail
      refine (hcall _).mono ?_
      rintro e w2 ⟨p, m, rfl, hrd, hb2⟩
      obtain ⟨hs1, hs2⟩ := hstep p m hrd
      rw [List.drop_drop] at hs2
      replace hs1 : Hid _ := hs1
      replace hs2 : Hid _ := hs2
      have hrd1 : m ≤ s.size - I := by have := hrd.1; rw [List.length_drop, hnl.out] at this; exact this
      have hrd2 : Hid (I64 p.num) := hrd.2.1
      clear hrd hstep hcall hne hpr
      have ho2 := ho.stay hb2
      have hz2 := hb2.size
      have hp1 := pts_one (w2.alloc (.cells #[.int .i64 p.kind, .int .i64 p.num, .string p.text] 39)) p
      rw [World.size_alloc] at hp1
      by_cases hm0 : m = 0
      · subst hm0
        have hres : Hid (∀ L, Ok L → keyB L ≠ numsS s) := fun L hL e => absurd rfl (hs1.out L hL e.symm)
        clear hs1 hs2 hrd1 hp1
        unfold ptV
        go_wp2
        go_ret2
        exact hno.out _ ((hb.trans (hb2.mono (by omega))).alloc (by omega) _) hres.out
      · have hm1 : ((m : Int) == 0) = false := by simp; omega
        have hin2 : Hid (Ins (l ++ [p])) := by
          intro q hq
          rcases List.mem_append.1 hq with h | h
          · exact hin.out q h
          · rw [List.mem_singleton.1 h]; exact hrd2.out
        unfold ptV
        clear hs1 hin hrd2
        go_wp2_with (first
          | (at_builtin; go_must (refine appPs rfl (.tmp 23) (.tmp 25) rfl w.heap.size (.slice av n cv) _ l [p] rfl rfl ((ho2.alloc _).alloc _) hp1 (by simp; omega) (by rw [← hn.out]; simp; omega) ?_); intro v3 w3 ho3 hg3))
        have hb3 : Below w.heap.size w2 w3 := (((Below.refl _ w2).alloc (by omega) _).alloc (by simp; omega) _).grown hg3 (by simp; omega) (fun k hk => (ho2.lt k hk).1)
        refine ⟨⟨I + m, l ++ [p], by go_num, by omega, by rw [List.length_append, ← hn.out]; simp; omega, ho3, hin2, hs2, (hb.trans (hb2.mono (by omega))).trans hb3⟩, ?_⟩
        simp [intOf]; omega
    · obtain rfl : I = s.size := by omega
      have hIi : ¬ (s.size : Int) < (s.size : Int) := by omega
      have hrd : Hid (RdL (numsS s) l true) := by
        intro L hL e
        obtain ⟨R, e1, e2⟩ := hpr.out L hL e
        have : R = [] := by
          cases R with
          | nil => rfl
          | cons q R =>
            obtain ⟨c, r, ec, _⟩ := keyB_head (l := q :: R) (fun x hx => hL.2 x (by rw [e1]; simp at hx ⊢; exact .inr hx)) (by simp)
            rw [List.drop_eq_nil_of_le (by rw [hnl.out]; omega), ec] at e2
            cases e2
        rw [this, List.append_nil] at e1
        exact ⟨rfl, e1⟩
      have hput := rput_any (.slice av n cv) l wr ho.pts hin.out (by have := hn.out; omega)
      have hpe := putE_in l
      have hbad : Hid (putE l ≠ 0 ∨ putS l ≠ s → ∀ L, Ok L → keyB L ≠ numsS s) := by
        intro h L hL e
        obtain ⟨_, rfl⟩ := hrd.out L hL e.symm
        rcases h with h | h
        · exact h (putE_ok hL)
        · apply h
          rw [putS_ok hL, e, strOf_numsS]
      have hgood : Hid (putE l = 0 → putS l = s → Ok l ∧ keyB l = numsS s) := by
        intro h1 h2
        have hL := putE_oks hin.out h1
        refine ⟨hL, ?_⟩
        have h3 := congrArg numsS h2
        rw [putS_ok hL, numsS_strOf _ (keyB_bytes hL.2)] at h3
        exact h3
      have hpg : Hid (∀ w3 : World, Below wr.heap.size wr w3 → Pts w3 (.slice av n cv) l) := fun w3 h => ho.pts.grow h
      clear hrd hpr hin ho hrp
      generalize putE l = E at *
      generalize putS l = P at *
      by_cases hE : E = 0
      · subst hE
        cases hs2 : (P.toList == s.toList) with
        | true =>
          have hPs := toList_eq hs2
          have hgood2 : Hid (P = s → Ok l ∧ keyB l = numsS s) := hgood.out (by first | trivial | rfl)
          go_wp2_with (go_at_call 11; refine hput.mono ?_; rintro e w3 ⟨rfl, hb3⟩)
          go_ret2
          exact ⟨true, _, l, rfl, hpg.out _ hb3, fun _ => hgood2.out hPs, (fun h => by cases h), hb.trans (hb3.mono (by omega))⟩
        | false =>
          have hPs : P ≠ s := fun e => by rw [e] at hs2; simp at hs2
          go_wp2_with (go_at_call 11; refine hput.mono ?_; rintro e w3 ⟨rfl, hb3⟩)
          go_ret2
          exact hno.out _ (hb.trans (hb3.mono (by omega))) (hbad.out (.inr hPs))
      · have hEn : (E != 0) = true := by simpa using hE
        go_wp2_with (go_at_call 11; refine hput.mono ?_; rintro e w3 ⟨rfl, hb3⟩)
        go_ret2
        exact hno.out _ (hb.trans (hb3.mono (by omega))) (hbad.out (.inl hE))
end Go.Proofs.Ytkhnhnaefmcngaa
