/- live(): the first line of every statement of this stage answers true. -/
import Derived.Test.YtkhnhnaefmcngaaGet
namespace Go.Proofs.Ytkhnhnaefmcngaa
set_option linter.unusedVariables false
open Go.RowKit
def pA : Pt := ⟨1, 300, ⟨#[]⟩⟩
def pB : Pt := ⟨1, -300, ⟨#[]⟩⟩
def pC : Pt := ⟨2, 0, ⟨#[97]⟩⟩
theorem needs_big (m : Nat) (h : m ≠ 0) : needs m = 1 + needs (m / 256) := by rw [needs, dif_neg h]
theorem needs_zero : needs 0 = 0 := by rw [needs, dif_pos rfl]
theorem needs_300 : needs 300 = 2 := by
  rw [needs_big 300 (by decide), needs_big (300 / 256) (by decide), show 300 / 256 / 256 = 0 by decide, needs_zero]
theorem needs_299 : needs 299 = 2 := by
  rw [needs_big 299 (by decide), needs_big (299 / 256) (by decide), show 299 / 256 / 256 = 0 by decide, needs_zero]
theorem key_pA : partB pA = [130, 1, 44] := by
  have e : mag 300 = 300 := by decide
  show numB 300 = _
  rw [numB, headN, if_neg (by decide), e, needs_300]
  decide
theorem key_pB : partB pB = [125, 254, 212] := by
  have e : mag (-300) = 299 := by decide
  show numB (-300) = _
  rw [numB, headN, if_pos (by decide), e, needs_299]
  decide
theorem key_pC : partB pC = [160, 97, 0, 0, 0, 0, 0, 0, 0, 1] := by
  have e : numsS ⟨#[97]⟩ = [97] := rfl
  show textB ⟨#[97]⟩ = _
  rw [textB, e, groups_last _ (by decide)]
  rfl
theorem ok_pA : OkP pA := .inl ⟨rfl, rfl, by show I64 300; unfold I64; omega⟩
theorem ok_pB : OkP pB := .inl ⟨rfl, rfl, by show I64 (-300); unfold I64; omega⟩
theorem ok_pC : OkP pC := .inr ⟨rfl, rfl, by decide⟩
theorem ok_AB : Ok [pA, pB] := ⟨by simp, fun p hp => by
  simp at hp
  rcases hp with rfl | rfl
  · exact ok_pA
  · exact ok_pB⟩
theorem ok_C : Ok [pC] := ⟨by simp, fun p hp => by
  simp at hp
  subst hp
  exact ok_pC⟩
theorem ok_ABC : Ok [pA, pB, pC] := ⟨by simp, fun p hp => by
  simp at hp
  rcases hp with rfl | rfl | rfl
  · exact ok_pA
  · exact ok_pB
  · exact ok_pC⟩
theorem ins_of {l : List Pt} (h : Oks l) : Ins l := fun p hp => (h p hp).in64
theorem put_AB : putS [pA, pB] = ⟨#[130, 1, 44, 125, 254, 212]⟩ ∧ putE [pA, pB] = 0 := by
  refine ⟨?_, putE_ok ok_AB⟩
  rw [putS_ok ok_AB, keyB_cons, keyB_cons, keyB_nil, key_pA, key_pB]
  rfl
theorem put_C : putS [pC] = ⟨#[160, 97, 0, 0, 0, 0, 0, 0, 0, 1]⟩ ∧ putE [pC] = 0 := by
  refine ⟨?_, putE_ok ok_C⟩
  rw [putS_ok ok_C, keyB_cons, keyB_nil, key_pC]
  rfl
/-- Get of the key of A, B, C. -/
theorem get_ABC {w w' : World} {e : Ending} (h : GetQ ⟨#[130, 1, 44, 125, 254, 212, 160, 97, 0, 0, 0, 0, 0, 0, 0, 1]⟩ w e w') : ∃ v, e = .returned (.tuple #[v, .int .i64 0]) ∧ Pts w' v [pA, pB, pC] ∧ Below w.heap.size w w' := by
  obtain ⟨ok, v, l, rfl, hp, h1, h2, hb⟩ := h
  have hk : keyB [pA, pB, pC] = numsS ⟨#[130, 1, 44, 125, 254, 212, 160, 97, 0, 0, 0, 0, 0, 0, 0, 1]⟩ := by
    rw [keyB_cons, keyB_cons, keyB_cons, keyB_nil, key_pA, key_pB, key_pC]
    rfl
  cases ok with
  | false => exact absurd hk ((h2 rfl).2 _ ok_ABC)
  | true =>
    obtain ⟨h3, h4⟩ := h1 rfl
    have := key_inj h3.2 ok_ABC.2 (h4.trans hk.symm)
    subst this
    exact ⟨v, rfl, hp, hb⟩
theorem get_bad {w w' : World} {e : Ending} (h : GetQ ⟨#[160, 97]⟩ w e w') : ∃ v, e = .returned (.tuple #[v, .int .i64 70]) ∧ Below w.heap.size w w' := by
  obtain ⟨ok, v, l, rfl, hp, h1, h2, hb⟩ := h
  cases ok with
  | false => exact ⟨v, rfl, hb⟩
  | true =>
    exfalso
    obtain ⟨h3, h4⟩ := h1 rfl
    have e : numsS ⟨#[160, 97]⟩ = [160, 97] := rfl
    rw [e] at h4
    cases l with
    | nil => simp [keyB] at h4
    | cons p r =>
      rw [keyB_cons] at h4
      rcases h3.2 p (by simp) with ⟨k1, k2, k3⟩ | ⟨k1, k2, k3⟩
      · rw [partB_num k1, numB] at h4
        have := headN_in k3
        simp at h4
        omega
      · rw [partB_text k1, textB] at h4
        have h9 := groups_len9 (numsS p.text)
        have := congrArg List.length h4
        simp at this
        omega
theorem pts_two (w : World) (p q : Pt) : Pts (w.alloc (.cells #[.int .i64 p.kind, .int .i64 p.num, .string p.text, .int .i64 q.kind, .int .i64 q.num, .string q.text] 39)) (.slice (some ⟨w.heap.size, 0, none⟩) 2 2) [p, q] := by
  refine ⟨_, 2, rfl, ⟨(fun e => by cases e), Nat.le_refl _⟩, .inr ⟨w.heap.size, 0, rfl, fun t ht => ?_⟩⟩
  have : t = 0 ∨ t = 1 := by simp at ht; omega
  rcases this with rfl | rfl
  · refine ⟨?_, ?_, ?_⟩ <;> simp
  · refine ⟨?_, ?_, ?_⟩ <;> simp
set_option maxRecDepth 100000 in
set_option maxHeartbeats 4000000 in
theorem live_any (w : World) : Calls Try.prog 9 #[] w fun e w' => e = .returned (.bool true) ∧ Below w.heap.size w w' := by
  go_enter Try.func9, Try.ntmps9
  go_wp2_with fail
  refine (int_any 300 _).mono ?_
  rintro e w1 ⟨rfl, hb1⟩
  go_wp2_with fail
  refine (int_any (-300) _).mono ?_
  rintro e w2 ⟨rfl, hb2⟩
  unfold ptV
  go_wp2_with fail
  have hp := put_any _ [pA, pB] _ (pts_two w2 pA pB) (ins_of ok_AB.2) (by simp)
  rw [put_AB.1, put_AB.2] at hp
  refine hp.mono ?_
  rintro e w3 ⟨rfl, hb3⟩
  clear hp
  go_wp2_with fail
  refine (text_any ⟨#[97]⟩ _).mono ?_
  rintro e w4 ⟨rfl, hb4⟩
  unfold ptV
  go_wp2_with fail
  have hp := put_any _ [pC] _ (pts_one w4 pC) (ins_of ok_C.2) (by simp)
  rw [put_C.1, put_C.2] at hp
  refine hp.mono ?_
  rintro e w5 ⟨rfl, hb5⟩
  clear hp
  have hB5 : Below w.heap.size w w5 := by
    have s1 := hb1.size
    have s2 := hb2.size
    have s3 := hb3.size
    have s4 := hb4.size
    rw [World.size_alloc] at s3
    have q2 : Below w.heap.size w w2 := hb1.trans (hb2.mono s1)
    have q3 : Below w.heap.size w w3 := (q2.alloc (by omega) _).trans (hb3.mono (by rw [World.size_alloc]; omega))
    have q4 : Below w.heap.size w w4 := q3.trans (hb4.mono (by omega))
    exact (q4.alloc (by omega) _).trans (hb5.mono (by rw [World.size_alloc]; omega))
  clear hb1 hb2 hb3 hb4 hb5
  go_wp2_with fail
  have hcat : ({ data := #[130, 1, 44, 125, 254, 212] } ++ { data := #[160, 97, 0, 0, 0, 0, 0, 0, 0, 1] } : ByteArray) = ⟨#[130, 1, 44, 125, 254, 212, 160, 97, 0, 0, 0, 0, 0, 0, 0, 1]⟩ := by decide +kernel
  rw [hcat]
  clear hcat
  refine (get_any _ w5 (by decide)).mono ?_
  intro e w6 hq6
  obtain ⟨v6, rfl, hp6, hb6⟩ := get_ABC hq6
  clear hq6
  go_wp2_with fail
  refine (get_any ⟨#[160, 97]⟩ w6 (by decide)).mono ?_
  intro e w7 hq7
  obtain ⟨v7, rfl, hb7⟩ := get_bad hq7
  clear hq7
  have hB7 : Below w.heap.size w w7 := (hB5.trans (hb6.mono hB5.size)).trans (hb7.mono (hB5.trans (hb6.mono hB5.size)).size)
  have hp7 := hp6.grow hb7
  clear hp6 hb6 hb7
  obtain ⟨av, cv, rfl, _, h⟩ := hp7
  rcases h with h | ⟨b, o, rfl, h⟩
  · cases h
  have c1 : w7.cell? ⟨b, o + 3 + 1, none⟩ = some (.int .i64 (-300)) := (h 1 (by simp)).2.1
  clear h
  go_wp2_with (go_at_call 15; refine (num_any _ _ (by omega) (by omega)).mono ?_; rintro e w9 ⟨rfl, hw9⟩; subst w9)
  go_ret
  exact ⟨rfl, hB7⟩
end Go.Proofs.Ytkhnhnaefmcngaa
