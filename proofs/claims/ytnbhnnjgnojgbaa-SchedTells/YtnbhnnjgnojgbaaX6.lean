import Derived.Test.YtnbhnnjgnojgbaaX5
import Derived.Test.YtnbhnnjgnojgbaaMg
namespace Go.Proofs.Ytnbhnnjgnojgbaa
/-- Blocks of n, each sorted; the last one may be shorter. -/
inductive Bk (n : Nat) : List Jb → Prop
  | last (B : List Jb) : B.length ≤ n → Srt B → Bk n B
  | more (B D : List Jb) : B.length = n → Srt B → Bk n D → Bk n (B ++ D)
theorem Bk.srt {n : Nat} {M : List Jb} (h : Bk n M) (hl : M.length ≤ n) : Srt M := by
  cases h with
  | last _ _ h => exact h
  | more B D h1 h2 _ =>
    rw [List.length_append] at hl
    have : D = [] := List.length_eq_zero_iff.1 (by omega)
    subst this
    rw [List.append_nil]
    exact h2
theorem Bk.cut {n : Nat} {M : List Jb} (h : Bk n M) (hl : n ≤ M.length) : ∃ B D, M = B ++ D ∧ B.length = n ∧ Srt B ∧ Bk n D := by
  cases h with
  | last _ h1 h2 => exact ⟨M, [], by simp, by omega, h2, .last _ (by simp) srt_nil⟩
  | more B D h1 h2 h3 => exact ⟨B, D, rfl, h1, h2, h3⟩
theorem ins_ok (L M R : List Jb) (a b : Nat) (ha : a = L.length) (hb : b = L.length + M.length) : ∃ M', insF (L ++ M ++ R) a b = L ++ M' ++ R ∧ Srt M' ∧ Stb M' M ∧ M'.length = M.length := by
  subst ha hb
  obtain ⟨M', h1, h2, h3⟩ := insF_ok L M R
  have := congrArg List.length h1
  rw [insF_len] at this
  simp only [List.length_append] at this
  exact ⟨M', h1, h2, h3, by omega⟩
theorem sym_ok (f : Nat) (L A B R : List Jb) (a b c : Nat) (hA : 0 < A.length) (hB : 0 < B.length) (sA : Srt A) (sB : Srt B) (hf : A.length + B.length ≤ f) (ha : a = L.length) (hb : b = L.length + A.length) (hc : c = L.length + A.length + B.length) :
    ∃ M, symF f (L ++ A ++ B ++ R) a b c = L ++ M ++ R ∧ Srt M ∧ Stb M (A ++ B) ∧ M.length = A.length + B.length := by
  subst ha hb hc
  obtain ⟨M', h1, h2, h3⟩ := symF_ok f L A B R hA hB sA sB hf
  have := congrArg List.length h1
  rw [symF_len] at this
  simp only [List.length_append] at this
  exact ⟨M', h1, h2, h3, by omega⟩
theorem blk_ok (n : Nat) (hn : 0 < n) : ∀ (k : Nat) (L M : List Jb), n * k ≤ M.length → M.length < n * k + n → ∃ M', insF (blkF n k L.length (L ++ M)) (L.length + n * k) (L.length + M.length) = L ++ M' ∧ Bk n M' ∧ Stb M' M
  | 0, L, M, h1, h2 => by
    obtain ⟨M', e, s, t, l⟩ := ins_ok L M [] (L.length + n * 0) (L.length + M.length) (by simp) rfl
    simp only [List.append_nil] at e
    exact ⟨M', e, .last _ (by omega) s, t⟩
  | k + 1, L, M, h1, h2 => by
    have hk : n * (k + 1) = n * k + n := Nat.mul_succ n k
    obtain ⟨B, D, rfl, hB⟩ : ∃ B D, M = B ++ D ∧ B.length = n := ⟨M.take n, M.drop n, (List.take_append_drop n M).symm, by rw [List.length_take]; omega⟩
    rw [List.length_append] at h1 h2
    obtain ⟨B', e, s, t, l⟩ := ins_ok L B D L.length (L.length + n) rfl (by omega)
    obtain ⟨D', e2, b2, t2⟩ := blk_ok n hn k (L ++ B') D (by omega) (by omega)
    refine ⟨B' ++ D', ?_, .more B' D' (by omega) s b2, t.app t2⟩
    rw [blkF, show L ++ (B ++ D) = L ++ B ++ D by simp, e]
    simp only [List.length_append] at e2 ⊢
    rw [show L.length + n = L.length + B'.length by omega, show L.length + n * (k + 1) = L.length + B'.length + n * k by omega, show L.length + (B.length + D.length) = L.length + B'.length + D.length by omega, e2]
    simp
theorem rnd_ok (n : Nat) (hn : 0 < n) : ∀ (k : Nat) (L M : List Jb), k * (2 * n) ≤ M.length → M.length < k * (2 * n) + 2 * n → Bk n M → ∃ M', (if L.length + k * (2 * n) + n < L.length + M.length then symF (L.length + M.length - (L.length + k * (2 * n))) (prsF n k L.length (L ++ M)) (L.length + k * (2 * n)) (L.length + k * (2 * n) + n) (L.length + M.length) else prsF n k L.length (L ++ M)) = L ++ M' ∧ Bk (2 * n) M' ∧ Stb M' M
  | 0, L, M, h1, h2, hb => by
    simp only [Nat.zero_mul, Nat.add_zero, prsF] at *
    split
    · rename_i hc
      obtain ⟨B, D, rfl, hB, sB, bD⟩ := hb.cut (by omega)
      rw [List.length_append] at h1 h2 hc ⊢
      obtain ⟨M', e, s, t, l⟩ := sym_ok (L.length + (B.length + D.length) - L.length) L B D [] L.length (L.length + n) (L.length + (B.length + D.length)) (by omega) (by omega) sB (bD.srt (by omega)) (by omega) rfl (by omega) (by omega)
      rw [List.append_nil, List.append_nil] at e
      exact ⟨M', by rw [← e]; simp, .last _ (by omega) s, t⟩
    · rename_i hc
      exact ⟨M, rfl, .last _ (by omega) (hb.srt (by omega)), Stb.refl _⟩
  | k + 1, L, M, h1, h2, hb => by
    have hk : (k + 1) * (2 * n) = k * (2 * n) + 2 * n := Nat.succ_mul k (2 * n)
    obtain ⟨A, D, rfl, hA, sA, bD⟩ := hb.cut (by omega)
    rw [List.length_append] at h1 h2
    obtain ⟨B, C, rfl, hB, sB, bC⟩ := bD.cut (by omega)
    rw [List.length_append] at h1 h2
    obtain ⟨M', e, s, t, l⟩ := sym_ok (2 * n) L A B C L.length (L.length + n) (L.length + 2 * n) (by omega) (by omega) sA sB (by omega) rfl (by omega) (by omega)
    obtain ⟨C', e2, b2, t2⟩ := rnd_ok n hn k (L ++ M') C (by omega) (by omega) bC
    refine ⟨M' ++ C', ?_, .more M' C' (by omega) s b2, ?_⟩
    · rw [prsF, show L ++ (A ++ (B ++ C)) = L ++ A ++ B ++ C by simp, e]
      simp only [List.length_append] at e2 ⊢
      rw [show L.length + (k + 1) * (2 * n) = L.length + M'.length + k * (2 * n) by omega, show L.length + (A.length + (B.length + C.length)) = L.length + M'.length + C.length by omega, show L.length + 2 * n = L.length + M'.length by omega, e2]
      simp
    · rw [show A ++ (B ++ C) = (A ++ B) ++ C by simp]
      exact t.app t2
theorem rndF_ok {n : Nat} (hn : 0 < n) {D : List Jb} (h : Bk n D) : Bk (2 * n) (rndF n D) ∧ Stb (rndF n D) D := by
  have h1 : D.length / (2 * n) * (2 * n) ≤ D.length := Nat.div_mul_le_self _ _
  have h2 : D.length < D.length / (2 * n) * (2 * n) + 2 * n := by
    have := Nat.lt_div_mul_add (a := D.length) (b := 2 * n) (by omega)
    exact this
  obtain ⟨M', e, b, t⟩ := rnd_ok n hn (D.length / (2 * n)) [] D h1 h2 h
  simp only [List.length_nil, Nat.zero_add, List.nil_append] at e
  have : rndF n D = M' := by rw [← e]; rfl
  rw [this]
  exact ⟨b, t⟩
theorem rdsF_ok : ∀ (k n : Nat) (D : List Jb), 0 < n → D.length ≤ k + n → Bk n D → Srt (rdsF k n D) ∧ Stb (rdsF k n D) D
  | 0, n, D, hn, hl, h => by
    rw [rdsF]
    exact ⟨h.srt (by omega), Stb.refl _⟩
  | k + 1, n, D, hn, hl, h => by
    rw [rdsF]
    split
    · rename_i hc
      obtain ⟨b, t⟩ := rndF_ok hn h
      obtain ⟨s, u⟩ := rdsF_ok k (2 * n) (rndF n D) (by omega) (by rw [rndF_len]; omega) b
      exact ⟨s, u.trans t⟩
    · exact ⟨h.srt (by omega), Stb.refl _⟩
theorem stbF_ok (D : List Jb) : Srt (stbF D) ∧ Stb (stbF D) D := by
  obtain ⟨M', e, b, t⟩ := blk_ok 20 (by omega) (D.length / 20) [] D (by omega) (by omega)
  simp only [List.length_nil, Nat.zero_add, List.nil_append] at e
  have he : stbF D = rdsF D.length 20 M' := by rw [← e]; rfl
  have hl : M'.length = D.length := by
    have := congrArg List.length e
    rw [insF_len, blkF_len] at this
    exact this.symm
  obtain ⟨s, u⟩ := rdsF_ok D.length 20 M' (by omega) (by omega) b
  rw [he]
  exact ⟨s, u.trans t⟩
theorem stb_one (D : List Jb) : stbF D = D.foldl insD [] := by
  obtain ⟨s, t⟩ := stbF_ok D
  obtain ⟨s2, t2⟩ := insL_ok D [] srt_nil
  rw [List.nil_append] at t2
  exact srt_one s s2 (t.trans t2.symm)
end Go.Proofs.Ytnbhnnjgnojgbaa
