/- Rotations on lists in parts: the mathematics. -/
import Derived.Test.YtnbhnnjgnojgbaaX2
import Derived.Test.YtnbhnnjgnojgbaaMd
namespace Go.Proofs.Ytnbhnnjgnojgbaa
set_option linter.unusedVariables false
theorem swp_far (L M R : List Jb) (x y : Jb) : swp (L ++ x :: (M ++ y :: R)) L.length (L.length + 1 + M.length) = L ++ y :: (M ++ x :: R) := by
  unfold swp
  have e : L ++ x :: (M ++ y :: R) = (L ++ x :: M) ++ y :: R := by simp
  have h1 : (L ++ x :: (M ++ y :: R)).getD (L.length + 1 + M.length) jb0 = y := by
    rw [e, show L.length + 1 + M.length = (L ++ x :: M).length by simp; omega]; exact getD_mid _ _ _
  rw [h1, getD_mid, set_mid]
  have e2 : L ++ y :: (M ++ y :: R) = (L ++ y :: M) ++ y :: R := by simp
  rw [e2, show L.length + 1 + M.length = (L ++ y :: M).length by simp; omega, set_mid]
  simp
/-- Two parts of one length exchanged. -/
theorem swR_ok : ∀ (n : Nat) (L X M Y R : List Jb), X.length = n → Y.length = n → swR (L ++ X ++ M ++ Y ++ R) L.length (L.length + n + M.length) n = L ++ Y ++ M ++ X ++ R
  | 0, L, X, M, Y, R, hX, hY => by
    have e1 : X = [] := List.length_eq_zero_iff.1 hX
    have e2 : Y = [] := List.length_eq_zero_iff.1 hY
    subst e1 e2; rfl
  | n + 1, L, X, M, Y, R, hX, hY => by
    obtain ⟨X', x, rfl⟩ : ∃ X' x, X = X' ++ [x] := by
      rcases nil_or_snoc X with h | h
      · subst h; simp at hX
      · exact h
    obtain ⟨Y', y, rfl⟩ : ∃ Y' y, Y = Y' ++ [y] := by
      rcases nil_or_snoc Y with h | h
      · subst h; simp at hY
      · exact h
    have hX' : X'.length = n := by simpa using hX
    have hY' : Y'.length = n := by simpa using hY
    have e : L ++ (X' ++ [x]) ++ M ++ (Y' ++ [y]) ++ R = L ++ X' ++ (x :: M) ++ Y' ++ (y :: R) := by simp
    have ih := swR_ok n L X' (x :: M) Y' (y :: R) hX' hY'
    rw [swR, e]
    have hb : L.length + (n + 1) + M.length = L.length + n + (x :: M).length := by simp; omega
    rw [hb, ih]
    have e2 : L ++ Y' ++ (x :: M) ++ X' ++ (y :: R) = (L ++ Y') ++ x :: ((M ++ X') ++ y :: R) := by simp
    rw [e2, show L.length + n = (L ++ Y').length by simp [hY'], show (L ++ Y').length + (x :: M).length + n = (L ++ Y').length + 1 + (M ++ X').length by simp [hX']; omega]
    rw [swp_far]
    simp
theorem rotF_ok : ∀ (k : Nat) (L X Y R : List Jb), 0 < X.length → 0 < Y.length → X.length + Y.length ≤ k →
    (let r := rotF k (L ++ X ++ Y ++ R) (L.length + X.length) X.length Y.length; swR r.1 (L.length + X.length - r.2) (L.length + X.length) r.2) = L ++ Y ++ X ++ R
  | 0, L, X, Y, R, h1, h2, hk => by omega
  | k + 1, L, X, Y, R, h1, h2, hk => by
    simp only
    unfold rotF
    by_cases he : X.length = Y.length
    · rw [if_pos he]
      simp only
      have := swR_ok X.length L X [] Y R rfl he.symm
      simp only [List.append_nil, List.length_nil, Nat.add_zero] at this
      rw [show L.length + X.length - X.length = L.length by omega]
      exact this
    · rw [if_neg he]
      by_cases hlt : Y.length < X.length
      · rw [if_pos hlt]
        obtain ⟨P, Q, rfl, hP⟩ : ∃ P Q, X = P ++ Q ∧ P.length = Y.length := ⟨X.take Y.length, X.drop Y.length, (List.take_append_drop _ _).symm, by rw [List.length_take]; omega⟩
        have hXl : (P ++ Q).length = Y.length + Q.length := by rw [List.length_append, hP]
        have s := swR_ok Y.length L P Q Y R hP rfl
        have e : L ++ (P ++ Q) ++ Y ++ R = L ++ P ++ Q ++ Y ++ R := by simp
        rw [e, hXl, show L.length + (Y.length + Q.length) - (Y.length + Q.length) = L.length by omega, show L.length + (Y.length + Q.length) = L.length + Y.length + Q.length by omega, s]
        have ih := rotF_ok k (L ++ Y) Q P R (by omega) (by omega) (by omega)
        simp only at ih
        have e2 : L ++ Y ++ Q ++ P ++ R = (L ++ Y) ++ Q ++ P ++ R := rfl
        rw [show (L ++ Y).length = L.length + Y.length by simp, hP] at ih
        rw [show Y.length + Q.length - Y.length = Q.length by omega, ih]
        simp
      · rw [if_neg hlt]
        obtain ⟨P, Q, rfl, hQ⟩ : ∃ P Q, Y = P ++ Q ∧ Q.length = X.length := ⟨Y.take (Y.length - X.length), Y.drop (Y.length - X.length), (List.take_append_drop _ _).symm, by rw [List.length_drop]; omega⟩
        have hYl : (P ++ Q).length = P.length + X.length := by rw [List.length_append, hQ]
        have s := swR_ok X.length L X P Q R rfl hQ
        have e : L ++ X ++ (P ++ Q) ++ R = L ++ X ++ P ++ Q ++ R := by simp
        rw [e, hYl, show L.length + X.length - X.length = L.length by omega, show L.length + X.length + (P.length + X.length) - X.length = L.length + X.length + P.length by omega, s]
        have ih := rotF_ok k L Q P (X ++ R) (by omega) (by omega) (by omega)
        simp only at ih
        have e2 : L ++ Q ++ P ++ X ++ R = L ++ Q ++ P ++ (X ++ R) := by simp
        rw [e2, show P.length + X.length - X.length = P.length by omega]
        rw [hQ] at ih
        rw [ih]
        simp
theorem rotD_ok (L X Y R : List Jb) (h1 : 0 < X.length) (h2 : 0 < Y.length) : rotD (L ++ X ++ Y ++ R) L.length (L.length + X.length) (L.length + X.length + Y.length) = L ++ Y ++ X ++ R := by
  have := rotF_ok (X.length + Y.length) L X Y R h1 h2 (Nat.le_refl _)
  simp only at this
  unfold rotD
  rw [show L.length + X.length + Y.length - L.length = X.length + Y.length by omega, show L.length + X.length - L.length = X.length by omega, show L.length + X.length + Y.length - (L.length + X.length) = Y.length by omega]
  exact this
end Go.Proofs.Ytnbhnnjgnojgbaa
