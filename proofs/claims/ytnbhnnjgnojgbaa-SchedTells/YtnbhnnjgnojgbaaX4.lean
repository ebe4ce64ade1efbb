/- symMerge on lists in parts: the mathematics. -/
import Derived.Test.YtnbhnnjgnojgbaaX3
namespace Go.Proofs.Ytnbhnnjgnojgbaa
set_option linter.unusedVariables false
theorem getD_a (L M : List Jb) (t : Nat) (h : t < L.length) : (L ++ M).getD t jb0 = L.getD t jb0 := by
  rw [List.getD_eq_getElem?_getD, List.getElem?_append_left h, List.getD_eq_getElem?_getD]
theorem getD_b (L M : List Jb) (t : Nat) : (L ++ M).getD (L.length + t) jb0 = M.getD t jb0 := by
  rw [List.getD_eq_getElem?_getD, List.getElem?_append_right (by omega), List.getD_eq_getElem?_getD]
  congr 2; omega
/-- All ahead of place r are so if the last is; all from r on are not so if the first is not. -/
theorem srt_lt_take {B : List Jb} {x : Jb} (h : Srt B) {r : Nat} (hr : r ≤ B.length) (hc : r = 0 ∨ cmpJ (B.getD (r - 1) jb0) x < 0) : ∀ b ∈ B.take r, cmpJ b x < 0 := fun b hb => by
  obtain ⟨t, h1, h2, rfl⟩ := mem_take_getD hb
  rcases hc with hc | hc
  · omega
  · exact cJ_le_lt (srt_le h (show t ≤ r - 1 by omega) (by omega)) hc
theorem srt_le_take {B : List Jb} {x : Jb} (h : Srt B) {r : Nat} (hr : r ≤ B.length) (hc : r = 0 ∨ cmpJ (B.getD (r - 1) jb0) x ≤ 0) : ∀ b ∈ B.take r, cmpJ b x ≤ 0 := fun b hb => by
  obtain ⟨t, h1, h2, rfl⟩ := mem_take_getD hb
  rcases hc with hc | hc
  · omega
  · exact cJ_le_trans (srt_le h (show t ≤ r - 1 by omega) (by omega)) hc
theorem srt_ge_drop {B : List Jb} {x : Jb} (h : Srt B) {r : Nat} (hc : r = B.length ∨ cmpJ x (B.getD r jb0) ≤ 0) : ∀ b ∈ B.drop r, cmpJ x b ≤ 0 := fun b hb => by
  obtain ⟨t, h1, h2, rfl⟩ := mem_drop_getD hb
  rcases hc with hc | hc
  · omega
  · exact cJ_le_trans hc (srt_le h h1 h2)
theorem srt_gt_drop {B : List Jb} {x : Jb} (h : Srt B) {r : Nat} (hc : r = B.length ∨ cmpJ x (B.getD r jb0) < 0) : ∀ b ∈ B.drop r, cmpJ x b < 0 := fun b hb => by
  obtain ⟨t, h1, h2, rfl⟩ := mem_drop_getD hb
  rcases hc with hc | hc
  · omega
  · exact cJ_lt_le hc (srt_le h h1 h2)
theorem Srt.take {B : List Jb} (h : Srt B) (r : Nat) : Srt (B.take r) := List.Pairwise.sublist (List.take_sublist _ _) h
theorem Srt.drop {B : List Jb} (h : Srt B) (r : Nat) : Srt (B.drop r) := List.Pairwise.sublist (List.drop_sublist _ _) h
/-- What a merge leaves. -/
def MrgQ (D : List Jb) (L A B R : List Jb) : Prop := ∃ M, D = L ++ M ++ R ∧ Srt M ∧ Stb M (A ++ B)
theorem mrgA (L B R : List Jb) (x : Jb) (hB : Srt B) : MrgQ (shU (loA (L ++ [x] ++ B ++ R) L.length (L.length + 1) (L.length + 1 + B.length) - 1 - L.length) (L ++ [x] ++ B ++ R) L.length) L [x] B R := by
  have hx : (L ++ [x] ++ B ++ R).getD L.length jb0 = x := by
    rw [show L ++ [x] ++ B ++ R = L ++ x :: (B ++ R) by simp]; exact getD_mid _ _ _
  have hb : ∀ t, t < B.length → (L ++ [x] ++ B ++ R).getD (L.length + 1 + t) jb0 = B.getD t jb0 := fun t ht => by
    rw [show L ++ [x] ++ B ++ R = (L ++ [x]) ++ (B ++ R) by simp, show L.length + 1 + t = (L ++ [x]).length + t by simp, getD_b, getD_a _ _ _ ht]
  have s := lowS_ok (fun h => decide (cmpJ ((L ++ [x] ++ B ++ R).getD h jb0) ((L ++ [x] ++ B ++ R).getD L.length jb0) < 0)) (L.length + 1 + B.length - (L.length + 1)) (L.length + 1) (L.length + 1 + B.length) (by omega) (by omega)
  have si := lowS_in (fun h => decide (cmpJ ((L ++ [x] ++ B ++ R).getD h jb0) ((L ++ [x] ++ B ++ R).getD L.length jb0) < 0)) (L.length + 1 + B.length - (L.length + 1)) (L.length + 1) (L.length + 1 + B.length) (by omega)
  unfold loA
  generalize lowS _ (L.length + 1 + B.length - (L.length + 1)) (L.length + 1) (L.length + 1 + B.length) = lo at *
  obtain ⟨r, rfl⟩ : ∃ r, lo = L.length + 1 + r := ⟨lo - (L.length + 1), by omega⟩
  have hr : r ≤ B.length := by omega
  rw [hx] at s
  have g1 : r = 0 ∨ cmpJ (B.getD (r - 1) jb0) x < 0 := by
    by_cases h0 : r = 0
    · exact .inl h0
    · rcases s.1 with h | h
      · omega
      · rw [show L.length + 1 + r - 1 = L.length + 1 + (r - 1) by omega] at h
        simp only [decide_eq_true_eq] at h
        rw [hb _ (by omega)] at h
        exact .inr h
  have g2 : r = B.length ∨ cmpJ x (B.getD r jb0) ≤ 0 := by
    by_cases h0 : r = B.length
    · exact .inl h0
    · rcases s.2 with h | h
      · omega
      · simp only [decide_eq_false_iff_not] at h
        rw [hb _ (by omega)] at h
        have := cJ_neg (B.getD r jb0) x
        exact .inr (by omega)
  have p1 := srt_lt_take hB hr g1
  have p2 := srt_ge_drop hB g2
  have hY : (B.take r).length = r := by rw [List.length_take]; omega
  have e : L ++ [x] ++ B ++ R = L ++ x :: (B.take r ++ (B.drop r ++ R)) := by
    rw [← List.append_assoc (B.take r), List.take_append_drop]; simp
  refine ⟨B.take r ++ x :: B.drop r, ?_, ?_, ?_⟩
  · rw [show L.length + 1 + r - 1 - L.length = (B.take r).length by omega, e, shU_ok]
    simp
  · refine srt_app.2 ⟨hB.take r, List.pairwise_cons.2 ⟨fun b hb => p2 b hb, hB.drop r⟩, fun a ha b hb => ?_⟩
    rcases List.mem_cons.1 hb with rfl | hb
    · have := p1 a ha; omega
    · have := p1 a ha
      have := cJ_lt_le this (p2 b hb)
      omega
  · have e2 : [x] ++ B = ([x] ++ B.take r) ++ B.drop r := by rw [List.append_assoc, List.take_append_drop]
    have e3 : B.take r ++ x :: B.drop r = (B.take r ++ [x]) ++ B.drop r := by simp
    rw [e2, e3]
    refine Stb.app (Stb.turn fun a ha b hb => ?_) (Stb.refl _)
    rw [List.mem_singleton.1 hb]
    have := p1 a ha; omega
theorem mrgB (L A R : List Jb) (y : Jb) (hA : Srt A) : MrgQ (shD (L.length + A.length - loB (L ++ A ++ [y] ++ R) L.length (L.length + A.length)) (L ++ A ++ [y] ++ R) (L.length + A.length)) L A [y] R := by
  have hy : (L ++ A ++ [y] ++ R).getD (L.length + A.length) jb0 = y := by
    rw [show L ++ A ++ [y] ++ R = (L ++ A) ++ y :: R by simp, show L.length + A.length = (L ++ A).length by simp]; exact getD_mid _ _ _
  have ha : ∀ t, t < A.length → (L ++ A ++ [y] ++ R).getD (L.length + t) jb0 = A.getD t jb0 := fun t ht => by
    rw [show L ++ A ++ [y] ++ R = L ++ (A ++ ([y] ++ R)) by simp, getD_b, getD_a _ _ _ ht]
  have s := lowS_ok (fun h => !decide (cmpJ ((L ++ A ++ [y] ++ R).getD (L.length + A.length) jb0) ((L ++ A ++ [y] ++ R).getD h jb0) < 0)) (L.length + A.length - L.length) L.length (L.length + A.length) (by omega) (by omega)
  have si := lowS_in (fun h => !decide (cmpJ ((L ++ A ++ [y] ++ R).getD (L.length + A.length) jb0) ((L ++ A ++ [y] ++ R).getD h jb0) < 0)) (L.length + A.length - L.length) L.length (L.length + A.length) (by omega)
  unfold loB
  generalize lowS _ (L.length + A.length - L.length) L.length (L.length + A.length) = lo at *
  obtain ⟨r, rfl⟩ : ∃ r, lo = L.length + r := ⟨lo - L.length, by omega⟩
  have hr : r ≤ A.length := by omega
  rw [hy] at s
  have g1 : r = 0 ∨ cmpJ (A.getD (r - 1) jb0) y ≤ 0 := by
    by_cases h0 : r = 0
    · exact .inl h0
    · rcases s.1 with h | h
      · omega
      · rw [show L.length + r - 1 = L.length + (r - 1) by omega] at h
        simp only [Bool.not_eq_true', decide_eq_false_iff_not] at h
        rw [ha _ (by omega)] at h
        have := cJ_neg y (A.getD (r - 1) jb0)
        exact .inr (by omega)
  have g2 : r = A.length ∨ cmpJ y (A.getD r jb0) < 0 := by
    by_cases h0 : r = A.length
    · exact .inl h0
    · rcases s.2 with h | h
      · omega
      · simp only [Bool.not_eq_false', decide_eq_true_eq] at h
        rw [ha _ (by omega)] at h
        exact .inr h
  have p1 := srt_le_take hA hr g1
  have p2 := srt_gt_drop hA g2
  have hY : (A.drop r).length = A.length - r := by rw [List.length_drop]
  have hT : (A.take r).length = r := by rw [List.length_take]; omega
  have e : L ++ A ++ [y] ++ R = (L ++ A.take r) ++ A.drop r ++ y :: R := by
    rw [List.append_assoc L (A.take r), List.take_append_drop]; simp
  refine ⟨A.take r ++ y :: A.drop r, ?_, ?_, ?_⟩
  · rw [show L.length + A.length - (L.length + r) = A.length - r by omega, e, show L.length + A.length = (L ++ A.take r).length + (A.length - r) by rw [List.length_append, hT]; omega, shD_ok (L ++ A.take r) y (A.length - r) (A.drop r) R hY]
    simp
  · refine srt_app.2 ⟨hA.take r, List.pairwise_cons.2 ⟨fun b hb => by have := p2 b hb; omega, hA.drop r⟩, fun a ha' b hb => ?_⟩
    rcases List.mem_cons.1 hb with rfl | hb
    · exact p1 a ha'
    · have := cJ_le_lt (p1 a ha') (p2 b hb)
      omega
  · have e2 : A ++ [y] = A.take r ++ (A.drop r ++ [y]) := by rw [← List.append_assoc, List.take_append_drop]
    rw [e2]
    refine (Stb.refl _).app ?_
    show Stb ([y] ++ A.drop r) (A.drop r ++ [y])
    refine Stb.turn fun a ha' b hb => ?_
    rw [List.mem_singleton.1 ha']
    have := p2 b hb; omega
end Go.Proofs.Ytnbhnnjgnojgbaa
