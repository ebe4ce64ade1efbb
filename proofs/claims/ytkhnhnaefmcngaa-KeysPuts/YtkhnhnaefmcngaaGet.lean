/- The contracts of readParts and Get. -/
import Derived.Test.YtkhnhnaefmcngaaOwp
namespace Go.Proofs.Ytkhnhnaefmcngaa
set_option linter.unusedVariables false
open Go.RowKit
/-- What readers of parts know between two parts: l are read, rest is left. -/
def PrI (bs : List Int) (l : List Pt) (rest : List Int) : Prop := ∀ L, Ok L → bs = keyB L → ∃ R, L = l ++ R ∧ rest = keyB R
theorem prI_step {bs rest : List Int} {l : List Pt} {p : Pt} {n : Nat} (h : PrI bs l rest) (hne : rest ≠ []) (hr : RdP rest p n) : (∀ L, Ok L → bs = keyB L → n ≠ 0) ∧ PrI bs (l ++ [p]) (rest.drop n) := by
  have key : ∀ L, Ok L → bs = keyB L → n ≠ 0 ∧ ∃ R, L = (l ++ [p]) ++ R ∧ rest.drop n = keyB R := by
    intro L hL e
    obtain ⟨R, e1, e2⟩ := h L hL e
    cases R with
    | nil => exact absurd e2 hne
    | cons q R =>
      have hq : OkP q := hL.2 q (by rw [e1]; simp)
      rw [keyB_cons] at e2
      obtain ⟨rfl, hn⟩ := hr.2.2.2 q (keyB R) hq e2
      obtain ⟨c, r, ec, _⟩ := partB_head hq
      refine ⟨by rw [hn, ec]; simp, R, by rw [e1]; simp, ?_⟩
      rw [e2, hn, List.drop_left]
  exact ⟨fun L hL e => (key L hL e).1, fun L hL e => (key L hL e).2⟩
/-- What readParts tells. -/
def RdL (bs : List Int) (l : List Pt) (ok : Bool) : Prop := ∀ L, Ok L → bs = keyB L → ok = true ∧ L = l
def PartsQ (s : ByteArray) (w : World) (e : Ending) (w' : World) : Prop := ∃ v l ok, e = .returned (.tuple #[v, .bool ok]) ∧ (ok = true → Pts w' v l ∧ Ins l ∧ l.length ≤ 9) ∧ RdL (numsS s) l ok ∧ Below w.heap.size w w'
set_option maxRecDepth 100000 in
set_option maxHeartbeats 4000000 in
theorem readParts_any (s : ByteArray) (w : World) (hs : s.size ≤ 1000000) : Calls Try.prog 26 #[.string s] w fun e w' => PartsQ s w e w' := by
  have hrp := fun S W h1 h2 => readPart_any S W h1 h2
  replace hrp : Hid _ := hrp
  go_enter Try.func26, Try.ntmps26
  go_wp2
  go_loopw [0, 4] (fun t u wr => ∃ (S : ByteArray) (l : List Pt), t = .string S ∧ S.size ≤ s.size ∧ l.length ≤ 9 ∧ OwnP wr w.heap.size u l ∧ Hid (Ins l) ∧ Hid (PrI (numsS s) l (numsS S)) ∧ Below w.heap.size w wr)
    (fun t _ _ => match t with | .string T => T.size | _ => 0)
  case atStart => exact ⟨s, [], rfl, Nat.le_refl _, by simp, World.ownsRow_nil _ _ _ _, (fun p hp => by cases hp), (fun L hL e => ⟨L, rfl, e⟩), Below.refl _ _⟩
  case round =>
    obtain ⟨S, l, rfl, hS, hl9, ho, hin, hpr, hb⟩ := hrel
    have hz := hb.size
    have hnl : Hid ((numsS S).length = S.size) := numsS_length S
    obtain ⟨av, cv, hv⟩ := ho.shape
    subst hv
    obtain ⟨n, hn⟩ : ∃ n, Hid (n = l.length) := ⟨_, rfl⟩
    rw [← hn.out] at hl9 ho ⊢
    by_cases h0 : S.size = 0
    · have he : S.toList.isEmpty = true := by rw [empty_iff]; simpa using h0
      have hres : Hid (RdL (numsS s) l true) := by
        intro L hL e
        obtain ⟨R, e1, e2⟩ := hpr.out L hL e
        have : R = [] := by
          cases R with
          | nil => rfl
          | cons q R =>
            obtain ⟨c, r, ec, _⟩ := keyB_head (l := q :: R) (fun x hx => hL.2 x (by rw [e1]; simp at hx ⊢; exact .inr hx)) (by simp)
            have hl0 := congrArg List.length e2
            rw [hnl.out, h0, ec] at hl0
            simp at hl0
        rw [this, List.append_nil] at e1
        exact ⟨rfl, e1⟩
      have hpts := ho.pts
      go_wp2
      go_ret2
      exact ⟨_, l, true, rfl, fun _ => ⟨hpts, hin.out, by have := hn.out; omega⟩, hres.out, hb⟩
    · have he : S.toList.isEmpty = false := by rw [empty_iff]; simpa using h0
      by_cases h8 : n ≤ 8
      · have h8i : (n : Int) ≤ 8 := by omega
        have hne : numsS S ≠ [] := fun e => by have := hnl.out; rw [e] at this; simp at this; omega
        have hcall := fun W => hrp.out S W (by omega) (by omega)
        have hstep := fun p m => prI_step (p := p) (n := m) hpr.out hne
        go_wp2_with fail
        refine (hcall _).mono ?_
        rintro e w2 ⟨p, m, rfl, hrd, hb2⟩
        obtain ⟨hs1, hs2⟩ := hstep p m hrd
        replace hs1 : Hid _ := hs1
        replace hs2 : Hid _ := hs2
        have hrd1 : m ≤ S.size := by have := hrd.1; rw [hnl.out] at this; exact this
        have hrd2 : Hid (I64 p.num) := hrd.2.1
        clear hrd hstep hcall hne
        have ho2 := ho.stay hb2
        have hz2 := hb2.size
        have hp1 := pts_one (w2.alloc (.cells #[.int .i64 p.kind, .int .i64 p.num, .string p.text] 39)) p
        rw [World.size_alloc] at hp1
        have hex := numsS_extract S m S.size
        rw [List.take_of_length_le (by rw [hnl.out]; omega)] at hex
        have hesz : (S.extract m S.size).size = S.size - m := by rw [← numsS_length, hex, List.length_drop, hnl.out]
        rw [← hex] at hs2
        clear hex
        have hsp : p = ⟨p.kind, p.num, p.text⟩ := rfl
        by_cases hm0 : m = 0
        · subst hm0
          have hres : Hid (RdL (numsS s) l false) := fun L hL e => absurd rfl (hs1.out L hL e)
          clear hs1 hs2 hesz hrd1 hp1
          unfold ptV
          go_wp2
          go_ret2
          exact ⟨_, l, false, rfl, (fun h => by cases h), hres.out, (hb.trans (hb2.mono (by omega))).alloc (by omega) _⟩
        · have hm1 : ((m : Int) == 0) = false := by simp; omega
          have hsl : ∀ W : World, (Instr.slice 9 (.string S) (some (.int .i64 (m : Int))) none none).run Try.prog W = .ok (.string (S.extract m S.size)) W := by
            intro W
            have := run_slice_string_l W 9 S Try.underlying9 .i64 (m : Int) (by omega) (by omega)
            rwa [Int.toNat_natCast] at this
          generalize S.extract m S.size = S2 at *
          have hin2 : Hid (Ins (l ++ [p])) := by
            intro q hq
            rcases List.mem_append.1 hq with h | h
            · exact hin.out q h
            · rw [List.mem_singleton.1 h]; exact hrd2.out
          unfold ptV
          clear hs1 hin hrd2
          go_wp2_with (first
            | (at_builtin; go_must (refine appPs rfl (.tmp 21) (.tmp 23) rfl w.heap.size (.slice av n cv) _ l [p] rfl rfl ((ho2.alloc _).alloc _) hp1 (by simp; omega) (by rw [← hn.out]; simp; omega) ?_); intro v3 w3 ho3 hg3))
          have hb3 : Below w.heap.size w2 w3 := (((Below.refl _ w2).alloc (by omega) _).alloc (by simp; omega) _).grown hg3 (by simp; omega) (fun k hk => (ho2.lt k hk).1)
          refine ⟨⟨S2, l ++ [p], rfl, by omega, by rw [List.length_append, ← hn.out]; simp; omega, ho3, hin2, hs2, (hb.trans (hb2.mono (by omega))).trans hb3⟩, ?_⟩
          simp only []
          omega
      · have h8i : ¬ (n : Int) ≤ 8 := by omega
        have hres : Hid (RdL (numsS s) l true) := by
          intro L hL e
          exfalso
          obtain ⟨R, e1, e2⟩ := hpr.out L hL e
          have := congrArg List.length e1
          have h9 := hL.1
          have := hn.out
          simp at *
          omega
        have hpts := ho.pts
        have hd : decide ((n : Int) ≤ 8) = false := by simpa using h8i
        go_wp2
        go_ret2
        exact ⟨_, l, true, rfl, fun _ => ⟨hpts, hin.out, by have := hn.out; omega⟩, hres.out, hb⟩
theorem numsS_strOf (xs : List Int) (h : IsBytes xs) : numsS (strOfNums xs) = xs := by
  unfold numsS strOfNums
  simp only [List.map_map]
  conv => rhs; rw [← List.map_id xs]
  refine List.map_congr_left fun c hc => ?_
  have := h c hc
  simp only [Function.comp, id]
  rw [UInt8.toNat_ofNat_of_lt' (by show _ < 256; omega)]
  omega
theorem toList_eq {a b : ByteArray} (h : (a.toList == b.toList) = true) : a = b := by
  have h1 : a.toList = b.toList := by simpa using h
  rw [Lib.toList_data, Lib.toList_data] at h1
  cases a; cases b
  rw [ByteArray.mk.injEq]
  exact Array.toList_inj.1 h1
/-- What Get tells: the parts whose key s is, or that there are none. -/
def GetQ (s : ByteArray) (w : World) (e : Ending) (w' : World) : Prop := ∃ (ok : Bool) (v : Value) (l : List Pt), e = .returned (.tuple #[v, .int .i64 (if ok = true then 0 else 70)]) ∧ Pts w' v l ∧ (ok = true → Ok l ∧ keyB l = numsS s) ∧ (ok = false → l = [] ∧ ∀ L, Ok L → keyB L ≠ numsS s) ∧ Below w.heap.size w w'
theorem pts_nil (w : World) : Pts w (.slice none 0 0) [] := ⟨none, 0, rfl, ⟨fun _ => rfl, Nat.le_refl _⟩, .inl rfl⟩
set_option maxRecDepth 100000 in
set_option maxHeartbeats 2000000 in
theorem get_any (s : ByteArray) (w : World) (hs : s.size ≤ 1000000) : Calls Try.prog 12 #[.string s] w fun e w' => GetQ s w e w' := by
  have hno : Hid (∀ w2 : World, Below w.heap.size w w2 → (∀ L, Ok L → keyB L ≠ numsS s) → GetQ s w (.returned (.tuple #[.slice none 0 0, .int .i64 70])) w2) := fun w2 hb h => ⟨false, _, [], rfl, pts_nil _, (fun h => by cases h), fun _ => ⟨rfl, h⟩, hb⟩
  go_enter Try.func12, Try.ntmps12
  go_wp2_with fail
  refine (readParts_any s w hs).mono ?_
  rintro e w2 ⟨v, l, ok, rfl, hok, hrd, hb2⟩
  cases ok with
  | false =>
    go_wp2
    go_ret2
    exact hno.out _ hb2 (fun L hL e => by have := (hrd L hL e.symm).1; cases this)
  | true =>
    obtain ⟨hp, hi, hl⟩ := hok rfl
    have hput := put_any v l w2 hp hi (by omega)
    have hpe := putE_in l
    have hz := hb2.size
    have hbad : Hid (putE l ≠ 0 ∨ putS l ≠ s → ∀ L, Ok L → keyB L ≠ numsS s) := by
      intro h L hL e
      obtain ⟨_, rfl⟩ := hrd L hL e.symm
      rcases h with h | h
      · exact h (putE_ok hL)
      · apply h
        rw [putS_ok hL, e, strOf_numsS]
    have hgood : Hid (putE l = 0 → putS l = s → Ok l ∧ keyB l = numsS s) := by
      intro h1 h2
      have hL := putE_oks hi h1
      refine ⟨hL, ?_⟩
      rw [← h2, putS_ok hL, numsS_strOf _ (keyB_bytes hL.2)]
    have hpg : Hid (∀ w3 : World, Below w2.heap.size w2 w3 → Pts w3 v l) := fun w3 h => hp.grow h
    clear hrd hok hi hp
    generalize putE l = E at *
    generalize putS l = P at *
    by_cases hE : E = 0
    · subst hE
      cases hs2 : (P.toList == s.toList) with
      | true =>
        have hPs := toList_eq hs2
        have hgood2 : Hid (P = s → Ok l ∧ keyB l = numsS s) := hgood.out (by first | trivial | rfl)
        go_wp2_with (go_at_call 10; refine hput.mono ?_; rintro e w3 ⟨rfl, hb3⟩)
        go_ret2
        exact ⟨true, v, l, rfl, hpg.out _ hb3, fun _ => hgood2.out hPs, (fun h => by cases h), hb2.trans (hb3.mono (by omega))⟩
      | false =>
        have hPs : P ≠ s := fun e => by rw [e] at hs2; simp at hs2
        go_wp2_with (go_at_call 10; refine hput.mono ?_; rintro e w3 ⟨rfl, hb3⟩)
        go_ret2
        exact hno.out _ (hb2.trans (hb3.mono (by omega))) (hbad.out (.inr hPs))
    · have hEn : (E != 0) = true := by simpa using hE
      go_wp2_with (go_at_call 10; refine hput.mono ?_; rintro e w3 ⟨rfl, hb3⟩)
      go_ret2
      exact hno.out _ (hb2.trans (hb3.mono (by omega))) (hbad.out (.inl hE))
end Go.Proofs.Ytkhnhnaefmcngaa
