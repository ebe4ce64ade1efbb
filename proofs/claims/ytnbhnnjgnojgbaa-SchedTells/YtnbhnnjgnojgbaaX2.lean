/- Exchanges, insertion, shifts, searches on lists in parts: the mathematics. -/
import Derived.Test.YtnbhnnjgnojgbaaX1
namespace Go.Proofs.Ytnbhnnjgnojgbaa
set_option linter.unusedVariables false
theorem nil_or_snoc (P : List Jb) : P = [] ∨ ∃ P' y, P = P' ++ [y] := by
  rcases List.eq_nil_or_concat P with h | ⟨a, b, h⟩
  · exact .inl h
  · exact .inr ⟨a, b, by rw [h, List.concat_eq_append]⟩
theorem getD_mid (L R : List Jb) (x : Jb) : (L ++ x :: R).getD L.length jb0 = x := by simp
theorem getD_mid1 (L R : List Jb) (x y : Jb) : (L ++ x :: y :: R).getD (L.length + 1) jb0 = y := by simp
theorem set_mid (L R : List Jb) (x z : Jb) : (L ++ x :: R).set L.length z = L ++ z :: R := by simp
theorem set_mid1 (L R : List Jb) (x y z : Jb) : (L ++ x :: y :: R).set (L.length + 1) z = L ++ x :: z :: R := by simp
theorem swp_up (L R : List Jb) (x y : Jb) : swp (L ++ x :: y :: R) L.length (L.length + 1) = L ++ y :: x :: R := by
  unfold swp; rw [getD_mid, getD_mid1, set_mid, set_mid1]
theorem swp_dn (L R : List Jb) (x y : Jb) : swp (L ++ x :: y :: R) (L.length + 1) L.length = L ++ y :: x :: R := by
  unfold swp; rw [getD_mid, getD_mid1, set_mid1, set_mid]
/-! ### Insertion -/
theorem insI_ok (L : List Jb) (x : Jb) : ∀ (n : Nat) (P R : List Jb), P.length = n → ∃ P1 P2, P = P1 ++ P2 ∧ insI L.length (L.length + n) (L ++ P ++ x :: R) = L ++ P1 ++ x :: (P2 ++ R) ∧ (∀ y ∈ P2, cmpJ x y < 0) ∧ (∀ Q y, P1 = Q ++ [y] → ¬ cmpJ x y < 0)
  | 0, P, R, hP => by
    have : P = [] := List.length_eq_zero_iff.1 hP
    subst this
    refine ⟨[], [], rfl, ?_, by simp, fun Q y h => by simp at h⟩
    rw [insI_stop (.inl (by omega))]
    simp
  | n + 1, P, R, hP => by
    obtain ⟨P', y, rfl⟩ : ∃ P' y, P = P' ++ [y] := by
      rcases nil_or_snoc P with h | ⟨P', y, h⟩
      · subst h; simp at hP
      · exact ⟨P', y, h⟩
    have hP' : P'.length = n := by simpa using hP
    have e : L ++ (P' ++ [y]) ++ x :: R = (L ++ P') ++ y :: x :: R := by simp
    have hl : L.length + (n + 1) = (L ++ P').length + 1 := by simp [hP']; omega
    have g1 : ((L ++ P') ++ y :: x :: R).getD (L.length + (n + 1)) jb0 = x := by rw [hl]; exact getD_mid1 _ _ _ _
    have g2 : ((L ++ P') ++ y :: x :: R).getD (L.length + (n + 1) - 1) jb0 = y := by rw [hl, Nat.add_sub_cancel]; exact getD_mid _ _ _
    rw [e]
    by_cases hc : cmpJ x y < 0
    · rw [insI_go (by omega) (by rw [g1, g2]; exact hc)]
      have e2 : swp ((L ++ P') ++ y :: x :: R) (L.length + (n + 1)) (L.length + (n + 1) - 1) = L ++ P' ++ x :: (y :: R) := by
        rw [hl, Nat.add_sub_cancel]; exact swp_dn _ _ _ _
      rw [e2, show L.length + (n + 1) - 1 = L.length + n by omega]
      obtain ⟨P1, P2, h1, h2, h3, h4⟩ := insI_ok L x n P' (y :: R) hP'
      refine ⟨P1, P2 ++ [y], by rw [h1]; simp, by rw [h2]; simp, fun z hz => ?_, h4⟩
      rcases List.mem_append.1 hz with hz | hz
      · exact h3 z hz
      · rw [List.mem_singleton.1 hz]; exact hc
    · rw [insI_stop (.inr (by rw [g1, g2]; exact hc))]
      refine ⟨P' ++ [y], [], by simp, by simp, by simp, fun Q z h => ?_⟩
      have := List.append_inj_right' h rfl
      rw [← (List.cons.inj this).1]; exact hc
theorem insO_ok (L : List Jb) : ∀ (Q P R : List Jb), Srt P → ∃ M, insO L.length Q.length (L.length + P.length) (L ++ P ++ Q ++ R) = L ++ M ++ R ∧ Srt M ∧ Stb M (P ++ Q)
  | [], P, R, h => ⟨P, by simp [insO], h, by rw [List.append_nil]; exact Stb.refl _⟩
  | x :: Q, P, R, h => by
    obtain ⟨P1, P2, h1, h2, h3, h4⟩ := insI_ok L x P.length P (Q ++ R) rfl
    have hs : Srt (P1 ++ x :: P2) := by
      rw [h1] at h
      obtain ⟨s1, s2, s3⟩ := srt_app.1 h
      refine srt_app.2 ⟨s1, List.pairwise_cons.2 ⟨fun b hb => by have := h3 b hb; omega, s2⟩, fun a ha b hb => ?_⟩
      rcases List.mem_cons.1 hb with rfl | hb
      · rcases nil_or_snoc P1 with r | ⟨P', y, r⟩
        · subst r; cases ha
        · have hy := h4 P' y r
          have := cJ_neg b y
          have hay : cmpJ a y ≤ 0 := by
            rw [r] at s1 ha
            rcases List.mem_append.1 ha with ha | ha
            · exact (srt_app.1 s1).2.2 a ha y (by simp)
            · rw [List.mem_singleton.1 ha, cJ_self]; exact Int.le_refl _
          exact cJ_le_trans hay (by omega)
      · exact s3 a ha b hb
    have hst : Stb (P1 ++ x :: P2) (P ++ [x]) := by
      rw [h1, List.append_assoc]
      refine (Stb.refl _).app ?_
      show Stb ([x] ++ P2) (P2 ++ [x])
      refine Stb.turn fun a ha b hb => ?_
      rw [List.mem_singleton.1 ha]
      have := h3 b hb; omega
    have hlen : (P1 ++ x :: P2).length = P.length + 1 := by rw [h1]; simp; omega
    obtain ⟨M, m1, m2, m3⟩ := insO_ok L Q (P1 ++ x :: P2) R hs
    refine ⟨M, ?_, m2, m3.trans ?_⟩
    · rw [List.length_cons, insO]
      have e : L ++ P ++ x :: Q ++ R = L ++ P ++ x :: (Q ++ R) := by simp
      rw [e, h2]
      have e2 : L ++ P1 ++ x :: (P2 ++ (Q ++ R)) = L ++ (P1 ++ x :: P2) ++ Q ++ R := by simp
      rw [e2, show L.length + P.length + 1 = L.length + (P1 ++ x :: P2).length by rw [hlen]; omega]
      exact m1
    · have e : P ++ x :: Q = (P ++ [x]) ++ Q := by simp
      rw [e]
      exact hst.app (Stb.refl _)
theorem srt_nil : Srt [] := List.Pairwise.nil
theorem srt_one1 (x : Jb) : Srt [x] := List.pairwise_singleton _ _
theorem insF_ok (L M R : List Jb) : ∃ M', insF (L ++ M ++ R) L.length (L.length + M.length) = L ++ M' ++ R ∧ Srt M' ∧ Stb M' M := by
  unfold insF
  cases M with
  | nil => exact ⟨[], by simp [insO, show L.length - (L.length + 1) = 0 by omega], srt_nil, Stb.refl _⟩
  | cons x Q =>
    obtain ⟨M', h1, h2, h3⟩ := insO_ok L Q [x] R (srt_one1 x)
    refine ⟨M', ?_, h2, h3⟩
    have e : L ++ x :: Q ++ R = L ++ [x] ++ Q ++ R := by simp
    rw [e, show L.length + (x :: Q).length - (L.length + 1) = Q.length by simp; omega]
    exact h1
/-! ### Shifts -/
theorem shU_ok : ∀ (Y L R : List Jb) (x : Jb), shU Y.length (L ++ x :: (Y ++ R)) L.length = L ++ Y ++ x :: R
  | [], L, R, x => by simp [shU]
  | y :: Y, L, R, x => by
    rw [List.length_cons, shU]
    have e : L ++ x :: (y :: Y ++ R) = L ++ x :: y :: (Y ++ R) := by simp
    rw [e, swp_up]
    have e2 : L ++ y :: x :: (Y ++ R) = (L ++ [y]) ++ x :: (Y ++ R) := by simp
    rw [e2, show L.length + 1 = (L ++ [y]).length by simp, shU_ok Y (L ++ [y]) R x]
    simp
theorem shD_ok (L : List Jb) (x : Jb) : ∀ (n : Nat) (Y R : List Jb), Y.length = n → shD n (L ++ Y ++ x :: R) (L.length + n) = L ++ x :: (Y ++ R)
  | 0, Y, R, h => by
    have : Y = [] := List.length_eq_zero_iff.1 h
    subst this; simp [shD]
  | n + 1, Y, R, h => by
    obtain ⟨Y', y, rfl⟩ : ∃ Y' y, Y = Y' ++ [y] := by
      rcases nil_or_snoc Y with r | ⟨Y', y, r⟩
      · subst r; simp at h
      · exact ⟨Y', y, r⟩
    have hY : Y'.length = n := by simpa using h
    have hl : L.length + (n + 1) = (L ++ Y').length + 1 := by simp [hY]; omega
    rw [shD]
    have e : L ++ (Y' ++ [y]) ++ x :: R = (L ++ Y') ++ y :: x :: R := by simp
    rw [e, hl, Nat.add_sub_cancel, swp_dn]
    have e2 : L ++ Y' ++ x :: y :: R = L ++ Y' ++ x :: (y :: R) := rfl
    rw [e2, show (L ++ Y').length = L.length + n by simp [hY], shD_ok L x n Y' (y :: R) hY]
    simp
/-! ### Searches -/
theorem lowS_ok (p : Nat → Bool) : ∀ (k i j : Nat), i ≤ j → j - i ≤ k → (lowS p k i j = i ∨ p (lowS p k i j - 1) = true) ∧ (lowS p k i j = j ∨ p (lowS p k i j) = false)
  | 0, i, j, h, hk => by
    have : i = j := by omega
    subst this
    exact ⟨.inl rfl, .inl rfl⟩
  | k + 1, i, j, h, hk => by
    unfold lowS
    split
    · split
      · rename_i hlt hp
        have ih := lowS_ok p k ((i + j) / 2 + 1) j (by omega) (by omega)
        refine ⟨.inr ?_, ih.2⟩
        rcases ih.1 with h1 | h1
        · rw [h1, Nat.add_sub_cancel]; exact hp
        · exact h1
      · rename_i hlt hp
        have ih := lowS_ok p k i ((i + j) / 2) (by omega) (by omega)
        refine ⟨ih.1, .inr ?_⟩
        rcases ih.2 with h1 | h1
        · rw [h1]; simpa using hp
        · exact h1
    · exact ⟨.inl rfl, .inl (by omega)⟩
end Go.Proofs.Ytnbhnnjgnojgbaa
