/- symMerge, whole, on lists in parts: the mathematics. -/
import Derived.Test.YtnbhnnjgnojgbaaX4
namespace Go.Proofs.Ytnbhnnjgnojgbaa
set_option linter.unusedVariables false
/-- Where the halves are parted: i of A, k of B go to the lower half. -/
theorem stS_ok (L A B R : List Jb) (hA : 2 ≤ A.length) (hB : 2 ≤ B.length) : ∃ i k, stS (L ++ A ++ B ++ R) L.length (L.length + A.length) (L.length + A.length + B.length) = L.length + i ∧ i ≤ A.length ∧ k ≤ B.length ∧
    midS L.length (L.length + A.length + B.length) = L.length + i + k ∧ (k = B.length ∨ i = 0 ∨ cmpJ (A.getD (i - 1) jb0) (B.getD k jb0) ≤ 0) ∧ (k = 0 ∨ i = A.length ∨ cmpJ (B.getD (k - 1) jb0) (A.getD i jb0) < 0) := by
  obtain ⟨D, hD⟩ : ∃ D, D = L ++ A ++ B ++ R := ⟨_, rfl⟩
  have ga : ∀ t, t < A.length → D.getD (L.length + t) jb0 = A.getD t jb0 := fun t ht => by
    rw [hD, show L ++ A ++ B ++ R = L ++ (A ++ (B ++ R)) by simp, getD_b, getD_a _ _ _ ht]
  have gb : ∀ t, t < B.length → D.getD (L.length + A.length + t) jb0 = B.getD t jb0 := fun t ht => by
    rw [hD, show L ++ A ++ B ++ R = (L ++ A) ++ (B ++ R) by simp, show L.length + A.length + t = (L ++ A).length + t by simp, getD_b, getD_a _ _ _ ht]
  rw [← hD]
  obtain ⟨a, ha⟩ : ∃ a, a = L.length := ⟨_, rfl⟩
  obtain ⟨p, hp⟩ : ∃ p, p = A.length := ⟨_, rfl⟩
  obtain ⟨q, hq⟩ : ∃ q, q = B.length := ⟨_, rfl⟩
  rw [← ha, ← hp, ← hq]
  rw [← ha, ← hp] at gb
  rw [← ha, ← hp] at ga
  rw [← hq] at gb
  rw [← hp] at hA
  rw [← hq] at hB
  obtain ⟨md, hmd⟩ : ∃ md, md = midS a (a + p + q) := ⟨_, rfl⟩
  have hm2 : md = (a + (a + p + q)) / 2 := hmd
  unfold stS
  rw [← hmd]
  by_cases hbig : md < a + p
  · rw [if_pos hbig]
    have s := lowS_ok (fun c => !decide (cmpJ (D.getD (md + (a + p) - 1 - c) jb0) (D.getD c jb0) < 0)) (md - (md + (a + p) - (a + p + q))) (md + (a + p) - (a + p + q)) md (by omega) (by omega)
    have si := lowS_in (fun c => !decide (cmpJ (D.getD (md + (a + p) - 1 - c) jb0) (D.getD c jb0) < 0)) (md - (md + (a + p) - (a + p + q))) (md + (a + p) - (a + p + q)) md (by omega)
    generalize lowS _ (md - (md + (a + p) - (a + p + q))) (md + (a + p) - (a + p + q)) md = st at *
    have hst : a ≤ st := by omega
    refine ⟨st - a, md - st, by omega, by omega, by omega, by omega, ?_, ?_⟩
    · by_cases h0 : st = md + (a + p) - (a + p + q)
      · left; omega
      · right; right
        have h := s.1.resolve_left h0
        simp only [Bool.not_eq_true', decide_eq_false_iff_not] at h
        rw [show md + (a + p) - 1 - (st - 1) = a + p + (md - st) by omega, gb _ (by omega), show st - 1 = a + (st - a - 1) by omega, ga _ (by omega)] at h
        have := cJ_neg (B.getD (md - st) jb0) (A.getD (st - a - 1) jb0)
        omega
    · by_cases h0 : st = md
      · left; omega
      · right; right
        have h := s.2.resolve_left h0
        simp only [Bool.not_eq_false', decide_eq_true_eq] at h
        rw [show md + (a + p) - 1 - st = a + p + (md - st - 1) by omega, gb _ (by omega)] at h
        have e := ga (st - a) (by omega)
        rw [show a + (st - a) = st by omega] at e
        rw [e] at h
        exact h
  · rw [if_neg hbig]
    have s := lowS_ok (fun c => !decide (cmpJ (D.getD (md + (a + p) - 1 - c) jb0) (D.getD c jb0) < 0)) (a + p - a) a (a + p) (by omega) (by omega)
    have si := lowS_in (fun c => !decide (cmpJ (D.getD (md + (a + p) - 1 - c) jb0) (D.getD c jb0) < 0)) (a + p - a) a (a + p) (by omega)
    generalize lowS _ (a + p - a) a (a + p) = st at *
    refine ⟨st - a, md - st, by omega, by omega, by omega, by omega, ?_, ?_⟩
    · by_cases h0 : st = a
      · right; left; omega
      · right; right
        have h := s.1.resolve_left h0
        simp only [Bool.not_eq_true', decide_eq_false_iff_not] at h
        rw [show md + (a + p) - 1 - (st - 1) = a + p + (md - st) by omega, gb _ (by omega), show st - 1 = a + (st - a - 1) by omega, ga _ (by omega)] at h
        have := cJ_neg (B.getD (md - st) jb0) (A.getD (st - a - 1) jb0)
        omega
    · by_cases h0 : st = a + p
      · right; left; omega
      · right; right
        have h := s.2.resolve_left h0
        simp only [Bool.not_eq_false', decide_eq_true_eq] at h
        rw [show md + (a + p) - 1 - st = a + p + (md - st - 1) by omega, gb _ (by omega)] at h
        have e := ga (st - a) (by omega)
        rw [show a + (st - a) = st by omega] at e
        rw [e] at h
        exact h
theorem mrgC (f : Nat) (ih : ∀ L A B R : List Jb, 0 < A.length → 0 < B.length → Srt A → Srt B → A.length + B.length ≤ f → MrgQ (symF f (L ++ A ++ B ++ R) L.length (L.length + A.length) (L.length + A.length + B.length)) L A B R)
    (L A B R : List Jb) (h1 : 2 ≤ A.length) (h2 : 2 ≤ B.length) (hA : Srt A) (hB : Srt B) (hf : A.length + B.length ≤ f + 1) : MrgQ (symF (f + 1) (L ++ A ++ B ++ R) L.length (L.length + A.length) (L.length + A.length + B.length)) L A B R := by
  obtain ⟨i, k, hst, hi, hk, hmd, c1, c2⟩ := stS_ok L A B R h1 h2
  rw [symF, if_neg (by omega), if_neg (by omega)]
  simp only
  have hms : midS L.length (L.length + A.length + B.length) = (L.length + (L.length + A.length + B.length)) / 2 := rfl
  have hf1 : i + k ≤ f := by omega
  have hf2 : A.length + B.length ≤ f + (i + k) := by omega
  rw [hst, hmd]
  rw [show L.length + i + k + (L.length + A.length) - (L.length + i) = L.length + A.length + k by omega]
  have hA1 : (A.take i).length = i := by rw [List.length_take]; omega
  have hA2 : (A.drop i).length = A.length - i := List.length_drop
  have hB1 : (B.take k).length = k := by rw [List.length_take]; omega
  have hB2 : (B.drop k).length = B.length - k := List.length_drop
  have eA := List.take_append_drop i A
  have eB := List.take_append_drop k B
  have sA1 := hA.take i
  have sA2 := hA.drop i
  have sB1 := hB.take k
  have sB2 := hB.drop k
  have lAA : ∀ x ∈ A.take i, ∀ y ∈ A.drop i, cmpJ x y ≤ 0 := (srt_app.1 (show Srt (A.take i ++ A.drop i) by rw [eA]; exact hA)).2.2
  have lBB : ∀ x ∈ B.take k, ∀ y ∈ B.drop k, cmpJ x y ≤ 0 := (srt_app.1 (show Srt (B.take k ++ B.drop k) by rw [eB]; exact hB)).2.2
  have lAB : ∀ x ∈ A.take i, ∀ y ∈ B.drop k, cmpJ x y ≤ 0 := fun x hx y hy => by
    obtain ⟨t, t1, t2, rfl⟩ := mem_take_getD hx
    obtain ⟨u, u1, u2, rfl⟩ := mem_drop_getD hy
    rcases c1 with c | c | c
    · omega
    · omega
    · exact cJ_le_trans (cJ_le_trans (srt_le hA (show t ≤ i - 1 by omega) (by omega)) c) (srt_le hB u1 u2)
  have lBA : ∀ x ∈ B.take k, ∀ y ∈ A.drop i, cmpJ x y < 0 := fun x hx y hy => by
    obtain ⟨t, t1, t2, rfl⟩ := mem_take_getD hx
    obtain ⟨u, u1, u2, rfl⟩ := mem_drop_getD hy
    rcases c2 with c | c | c
    · omega
    · omega
    · exact cJ_lt_le (cJ_le_lt (srt_le hB (show t ≤ k - 1 by omega) (by omega)) c) (srt_le hA u1 u2)
  generalize hgA1 : A.take i = A1 at *
  generalize hgA2 : A.drop i = A2 at *
  generalize hgB1 : B.take k = B1 at *
  generalize hgB2 : B.drop k = B2 at *
  clear hgA1 hgA2 hgB1 hgB2 c1 c2 hst hmd hms
  subst eA eB
  simp only [List.length_append] at *
  have hD1 : (if L.length + i < L.length + (A1.length + A2.length) ∧ L.length + (A1.length + A2.length) < L.length + (A1.length + A2.length) + k then rotD (L ++ (A1 ++ A2) ++ (B1 ++ B2) ++ R) (L.length + i) (L.length + (A1.length + A2.length)) (L.length + (A1.length + A2.length) + k) else L ++ (A1 ++ A2) ++ (B1 ++ B2) ++ R) = L ++ A1 ++ B1 ++ (A2 ++ B2 ++ R) := by
    split
    · rename_i hc
      have := rotD_ok (L ++ A1) A2 B1 (B2 ++ R) (by omega) (by omega)
      rw [show (L ++ A1).length = L.length + i by simp [hA1]] at this
      rw [show L ++ (A1 ++ A2) ++ (B1 ++ B2) ++ R = (L ++ A1) ++ A2 ++ B1 ++ (B2 ++ R) by simp, show L.length + (A1.length + A2.length) + k = L.length + i + A2.length + B1.length by omega, show L.length + (A1.length + A2.length) = L.length + i + A2.length by omega, this]
      simp
    · rename_i hc
      by_cases h0 : A2 = []
      · subst h0; simp
      · have : 0 < A2.length := List.length_pos_iff.2 h0
        have hb0 : B1 = [] := List.length_eq_zero_iff.1 (by omega)
        subst hb0; simp
  rw [hD1]
  obtain ⟨M1, hM1, s1, t1⟩ : ∃ M1, (if L.length < L.length + i ∧ L.length + i < L.length + i + k then symF f (L ++ A1 ++ B1 ++ (A2 ++ B2 ++ R)) L.length (L.length + i) (L.length + i + k) else L ++ A1 ++ B1 ++ (A2 ++ B2 ++ R)) = L ++ M1 ++ (A2 ++ B2 ++ R) ∧ Srt M1 ∧ Stb M1 (A1 ++ B1) := by
    split
    · rename_i hc
      obtain ⟨M, m1, m2, m3⟩ := ih L A1 B1 (A2 ++ B2 ++ R) (by omega) (by omega) sA1 sB1 (by omega)
      rw [hA1, hB1] at m1
      exact ⟨M, m1, m2, m3⟩
    · rename_i hc
      refine ⟨A1 ++ B1, by simp, ?_, Stb.refl _⟩
      by_cases h0 : i = 0
      · have : A1 = [] := List.length_eq_zero_iff.1 (by omega)
        subst this; exact sB1
      · have : B1 = [] := List.length_eq_zero_iff.1 (by omega)
        subst this; rw [List.append_nil]; exact sA1
  rw [hM1]
  have hMl : M1.length = i + k := by
    have := congrArg List.length hM1
    have e2 : (if L.length < L.length + i ∧ L.length + i < L.length + i + k then symF f (L ++ A1 ++ B1 ++ (A2 ++ B2 ++ R)) L.length (L.length + i) (L.length + i + k) else L ++ A1 ++ B1 ++ (A2 ++ B2 ++ R)).length = (L ++ A1 ++ B1 ++ (A2 ++ B2 ++ R)).length := by
      split
      · exact symF_len _ _ _ _ _
      · rfl
    rw [e2] at this
    simp at this
    omega
  obtain ⟨M2, hM2, s2, t2⟩ : ∃ M2, (if L.length + i + k < L.length + (A1.length + A2.length) + k ∧ L.length + (A1.length + A2.length) + k < L.length + (A1.length + A2.length) + (B1.length + B2.length) then symF f (L ++ M1 ++ (A2 ++ B2 ++ R)) (L.length + i + k) (L.length + (A1.length + A2.length) + k) (L.length + (A1.length + A2.length) + (B1.length + B2.length)) else L ++ M1 ++ (A2 ++ B2 ++ R)) = L ++ M1 ++ M2 ++ R ∧ Srt M2 ∧ Stb M2 (A2 ++ B2) := by
    split
    · rename_i hc
      obtain ⟨M, m1, m2, m3⟩ := ih (L ++ M1) A2 B2 R (by omega) (by omega) sA2 sB2 (by omega)
      rw [show (L ++ M1).length = L.length + i + k by simp [hMl]; omega] at m1
      rw [show L ++ M1 ++ (A2 ++ B2 ++ R) = L ++ M1 ++ A2 ++ B2 ++ R by simp, show L.length + (A1.length + A2.length) + k = L.length + i + k + A2.length by omega, show L.length + (A1.length + A2.length) + (B1.length + B2.length) = L.length + i + k + A2.length + B2.length by omega]
      exact ⟨M, m1, m2, m3⟩
    · rename_i hc
      refine ⟨A2 ++ B2, by simp, ?_, Stb.refl _⟩
      by_cases h0 : A2.length = 0
      · have : A2 = [] := List.length_eq_zero_iff.1 h0
        subst this; exact sB2
      · have : B2 = [] := List.length_eq_zero_iff.1 (by omega)
        subst this; rw [List.append_nil]; exact sA2
  refine ⟨M1 ++ M2, by rw [hM2]; simp, srt_app.2 ⟨s1, s2, fun x hx y hy => ?_⟩, ?_⟩
  · have hx' := t1.mem hx
    have hy' := t2.mem hy
    rcases List.mem_append.1 hx' with hx' | hx' <;> rcases List.mem_append.1 hy' with hy' | hy'
    · exact lAA x hx' y hy'
    · exact lAB x hx' y hy'
    · have := lBA x hx' y hy'; omega
    · exact lBB x hx' y hy'
  · refine (t1.app t2).trans ?_
    have e1 : A1 ++ B1 ++ (A2 ++ B2) = A1 ++ (B1 ++ A2) ++ B2 := by simp
    have e2 : A1 ++ A2 ++ (B1 ++ B2) = A1 ++ (A2 ++ B1) ++ B2 := by simp
    rw [e1, e2]
    exact ((Stb.refl _).app (Stb.turn fun a ha b hb => by have := lBA a ha b hb; omega)).app (Stb.refl _)
theorem symF_ok : ∀ (f : Nat) (L A B R : List Jb), 0 < A.length → 0 < B.length → Srt A → Srt B → A.length + B.length ≤ f → MrgQ (symF f (L ++ A ++ B ++ R) L.length (L.length + A.length) (L.length + A.length + B.length)) L A B R
  | 0, L, A, B, R, h1, h2, _, _, hf => by omega
  | f + 1, L, A, B, R, h1, h2, hA, hB, hf => by
    by_cases c1 : A.length = 1
    · obtain ⟨x, rfl⟩ := List.length_eq_one_iff.1 c1
      have := mrgA L B R x hB
      rw [symF, if_pos (by simp)]
      exact this
    · by_cases c2 : B.length = 1
      · obtain ⟨y, rfl⟩ := List.length_eq_one_iff.1 c2
        have := mrgB L A R y hA
        rw [symF, if_neg (by omega), if_pos (by simp)]
        exact this
      · exact mrgC f (symF_ok f) L A B R (by omega) (by omega) hA hB hf
end Go.Proofs.Ytnbhnnjgnojgbaa
