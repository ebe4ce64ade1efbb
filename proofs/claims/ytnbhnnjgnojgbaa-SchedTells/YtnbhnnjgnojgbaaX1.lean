/- The order of jobs; stable sorts are one: the mathematics. -/
import Derived.Test.YtnbhnnjgnojgbaaDd
namespace Go.Proofs.Ytnbhnnjgnojgbaa
set_option linter.unusedVariables false
theorem cb_neg : ∀ x y : List UInt8, Lib.compareBytes y x = -Lib.compareBytes x y
  | [], [] => by simp [Lib.compareBytes]
  | [], _ :: _ => by simp [Lib.compareBytes]
  | _ :: _, [] => by simp [Lib.compareBytes]
  | a :: x, b :: y => by
    rw [Lib.compareBytes, Lib.compareBytes]
    by_cases h1 : a < b
    · have h2 : ¬ b < a := fun h => UInt8.lt_irrefl _ (UInt8.lt_trans h1 h)
      rw [if_pos h1, if_neg h2, if_pos h1]; rfl
    · rw [if_neg h1]
      by_cases h2 : b < a
      · rw [if_pos h2, if_pos h2, if_neg h1]
      · rw [if_neg h2, if_neg h2, if_neg h1]; exact cb_neg x y
theorem cb_trans : ∀ {x y z : List UInt8}, Lib.compareBytes x y < 0 → Lib.compareBytes y z < 0 → Lib.compareBytes x z < 0
  | [], [], _, h, _ => by simp [Lib.compareBytes] at h
  | [], _ :: _, [], _, g => by simp [Lib.compareBytes] at g
  | [], _ :: _, _ :: _, _, _ => by simp [Lib.compareBytes]
  | _ :: _, [], _, h, _ => by simp [Lib.compareBytes] at h
  | _ :: _, _ :: _, [], _, g => by simp [Lib.compareBytes] at g
  | a :: x, b :: y, c :: z, h, g => by
    rw [Lib.compareBytes] at h g ⊢
    have ha := UInt8.lt_iff_toNat_lt (a := a) (b := b)
    have hb := UInt8.lt_iff_toNat_lt (a := b) (b := a)
    have hc := UInt8.lt_iff_toNat_lt (a := b) (b := c)
    have hd := UInt8.lt_iff_toNat_lt (a := c) (b := b)
    have he := UInt8.lt_iff_toNat_lt (a := a) (b := c)
    have hf := UInt8.lt_iff_toNat_lt (a := c) (b := a)
    by_cases h1 : a < b
    · by_cases h2 : b < c
      · rw [if_pos (he.2 (by have := ha.1 h1; have := hc.1 h2; omega))]; decide
      · rw [if_neg h2] at g
        by_cases h3 : c < b
        · rw [if_pos h3] at g; exact absurd g (by decide)
        · rw [if_pos (he.2 (by have := ha.1 h1; have := mt hc.2 h2; have := mt hd.2 h3; omega))]; decide
    · rw [if_neg h1] at h
      by_cases h2 : b < a
      · rw [if_pos h2] at h; exact absurd h (by decide)
      · rw [if_neg h2] at h
        have e1 : a.toNat = b.toNat := by have := mt ha.2 h1; have := mt hb.2 h2; omega
        by_cases h3 : b < c
        · rw [if_pos (he.2 (by have := hc.1 h3; omega))]; decide
        · rw [if_neg h3] at g
          by_cases h4 : c < b
          · rw [if_pos h4] at g; exact absurd g (by decide)
          · rw [if_neg h4] at g
            rw [if_neg (fun h => h3 (hc.2 (by have := he.1 h; omega))), if_neg (fun h => h4 (hd.2 (by have := hf.1 h; omega)))]
            exact cb_trans h g
theorem cS_neg (a b : ByteArray) : cS b a = -cS a b := cb_neg _ _
theorem cI_neg (x y : Int) : cI y x = -cI x y := by unfold cI; (repeat' split) <;> omega
theorem cI_zero {x y : Int} : cI x y = 0 ↔ x = y := by unfold cI; (repeat' split) <;> omega
theorem cJ_neg (x y : Jb) : cmpJ y x = -cmpJ x y := by
  unfold cmpJ orI
  rw [cS_neg x.fo y.fo, cS_neg x.gr y.gr, cI_neg x.id y.id]
  (repeat' split) <;> omega
theorem cJ_zero {x y : Jb} : cmpJ x y = 0 ↔ x.fo = y.fo ∧ x.gr = y.gr ∧ x.id = y.id := by
  unfold cmpJ orI
  rw [← cS_zero (a := x.fo), ← cS_zero (a := x.gr), ← cI_zero (x := x.id)]
  (repeat' split) <;> simp_all
theorem cJ_self (x : Jb) : cmpJ x x = 0 := cJ_zero.2 ⟨rfl, rfl, rfl⟩
theorem cJ_eq {x y : Jb} (h : cmpJ x y = 0) (z : Jb) : cmpJ x z = cmpJ y z := by
  obtain ⟨h1, h2, h3⟩ := cJ_zero.1 h
  unfold cmpJ
  rw [h1, h2, h3]
theorem cJ_eq' {x y : Jb} (h : cmpJ x y = 0) (z : Jb) : cmpJ z x = cmpJ z y := by
  rw [cJ_neg x z, cJ_neg y z, cJ_eq h z]
theorem cJ_trans {x y z : Jb} (h : cmpJ x y < 0) (g : cmpJ y z < 0) : cmpJ x z < 0 := by
  unfold cmpJ orI at *
  by_cases h1 : cS x.fo y.fo = 0
  · rw [if_pos h1] at h
    have e1 := cS_zero.1 h1
    rw [e1]
    by_cases g1 : cS y.fo z.fo = 0
    · rw [if_pos g1] at g ⊢
      by_cases h2 : cS x.gr y.gr = 0
      · rw [if_pos h2] at h
        rw [cS_zero.1 h2]
        by_cases g2 : cS y.gr z.gr = 0
        · rw [if_pos g2] at g ⊢
          unfold cI at *
          split at h <;> split at g <;> (repeat' split) <;> omega
        · rw [if_neg g2] at g ⊢; exact g
      · rw [if_neg h2] at h
        by_cases g2 : cS y.gr z.gr = 0
        · rw [← cS_zero.1 g2, if_neg h2]; exact h
        · rw [if_neg g2] at g
          have := cb_trans h g
          rw [if_neg (by show ¬ cS x.gr z.gr = 0; unfold cS; omega)]; exact this
    · rw [if_neg g1] at g ⊢; exact g
  · rw [if_neg h1] at h
    by_cases g1 : cS y.fo z.fo = 0
    · rw [← cS_zero.1 g1, if_neg h1]; exact h
    · rw [if_neg g1] at g
      have := cb_trans h g
      rw [if_neg (by show ¬ cS x.fo z.fo = 0; unfold cS; omega)]; exact this
theorem cJ_le_trans {x y z : Jb} (h : cmpJ x y ≤ 0) (g : cmpJ y z ≤ 0) : cmpJ x z ≤ 0 := by
  by_cases h1 : cmpJ x y = 0
  · rw [cJ_eq h1]; exact g
  · by_cases g1 : cmpJ y z = 0
    · rw [← cJ_eq' g1]; exact h
    · have := cJ_trans (x := x) (y := y) (z := z) (by omega) (by omega); omega
theorem cJ_lt_le {x y z : Jb} (h : cmpJ x y < 0) (g : cmpJ y z ≤ 0) : cmpJ x z < 0 := by
  by_cases g1 : cmpJ y z = 0
  · rw [← cJ_eq' g1]; exact h
  · exact cJ_trans h (by omega)
theorem cJ_le_lt {x y z : Jb} (h : cmpJ x y ≤ 0) (g : cmpJ y z < 0) : cmpJ x z < 0 := by
  by_cases h1 : cmpJ x y = 0
  · rw [cJ_eq h1]; exact g
  · exact cJ_trans (by omega) g
/-- Those like x, in their order. -/
def fil (x : Jb) (D : List Jb) : List Jb := D.filter fun y => decide (cmpJ x y = 0)
theorem fil_app (x : Jb) (A B : List Jb) : fil x (A ++ B) = fil x A ++ fil x B := List.filter_append _ _
/-- The same but for the order of those that are unlike. -/
def Stb (D E : List Jb) : Prop := ∀ x, fil x D = fil x E
theorem Stb.refl (D : List Jb) : Stb D D := fun _ => rfl
theorem Stb.symm {D E : List Jb} (h : Stb D E) : Stb E D := fun x => (h x).symm
theorem Stb.trans {D E F : List Jb} (h : Stb D E) (g : Stb E F) : Stb D F := fun x => (h x).trans (g x)
theorem Stb.app {A B C D : List Jb} (h : Stb A B) (g : Stb C D) : Stb (A ++ C) (B ++ D) := fun x => by rw [fil_app, fil_app, h x, g x]
theorem Stb.mem {D E : List Jb} (h : Stb D E) {x : Jb} (hx : x ∈ D) : x ∈ E := by
  have : x ∈ fil x D := List.mem_filter.2 ⟨hx, by simp [cJ_self]⟩
  rw [h x] at this
  exact (List.mem_filter.1 this).1
theorem Stb.turn {A B : List Jb} (h : ∀ a ∈ A, ∀ b ∈ B, cmpJ a b ≠ 0) : Stb (A ++ B) (B ++ A) := fun x => by
  rw [fil_app, fil_app]
  by_cases h1 : fil x A = []
  · rw [h1]; simp
  · have h2 : fil x B = [] := by
      obtain ⟨a, ha⟩ := List.exists_mem_of_ne_nil _ h1
      obtain ⟨ha1, ha2⟩ := List.mem_filter.1 ha
      rw [fil, List.filter_eq_nil_iff]
      intro b hb hx
      refine h a ha1 b hb ?_
      simp only [decide_eq_true_eq] at ha2 hx
      rw [← cJ_eq ha2]; exact hx
    rw [h2]; simp
def Srt (D : List Jb) : Prop := D.Pairwise fun a b => cmpJ a b ≤ 0
theorem srt_app {A B : List Jb} : Srt (A ++ B) ↔ Srt A ∧ Srt B ∧ ∀ a ∈ A, ∀ b ∈ B, cmpJ a b ≤ 0 := List.pairwise_append
/-- Sorted lists that are the same but for the order of those that are unlike are one. -/
theorem srt_one : ∀ {D E : List Jb}, Srt D → Srt E → Stb D E → D = E
  | [], [], _, _, _ => rfl
  | [], e :: E, _, _, h => by have := h.symm.mem (x := e) (by simp); cases this
  | d :: D, [], _, _, h => by have := h.mem (x := d) (by simp); cases this
  | d :: D, e :: E, hD, hE, h => by
    have hd := List.pairwise_cons.1 hD
    have he := List.pairwise_cons.1 hE
    have h1 : cmpJ e d ≤ 0 := by
      have := h.mem (x := d) (by simp)
      rcases List.mem_cons.1 this with r | hm
      · rw [r, cJ_self]; exact Int.le_refl _
      · exact he.1 d hm
    have h2 : cmpJ d e ≤ 0 := by
      have := h.symm.mem (x := e) (by simp)
      rcases List.mem_cons.1 this with r | hm
      · rw [r, cJ_self]; exact Int.le_refl _
      · exact hd.1 e hm
    have h3 : cmpJ d e = 0 := by have := cJ_neg d e; omega
    have h4 : d = e := by
      have := h d
      unfold fil at this
      rw [List.filter_cons_of_pos (by simp [cJ_self]), List.filter_cons_of_pos (by simp [h3])] at this
      exact (List.cons.inj this).1
    subst h4
    congr 1
    refine srt_one hd.2 he.2 fun x => ?_
    have := h x
    unfold fil at this ⊢
    rw [List.filter_cons, List.filter_cons] at this
    split at this
    · exact (List.cons.inj this).2
    · exact this
/-! ### The document's sort -/
theorem posF_spec (D : List Jb) (x : Jb) : ∀ k, k ≤ D.length → (∀ t, posF D x k ≤ t → t < k → cmpJ x (D.getD t jb0) < 0) ∧ (posF D x k ≠ 0 → ¬ cmpJ x (D.getD (posF D x k - 1) jb0) < 0)
  | 0, _ => ⟨fun t _ h => by omega, fun h => absurd rfl h⟩
  | k + 1, hk => by
    have ih := posF_spec D x k (by omega)
    unfold posF
    split
    · rename_i h
      refine ⟨fun t h1 h2 => ?_, ih.2⟩
      by_cases e : t = k
      · subst e; exact h
      · exact ih.1 t h1 (by omega)
    · rename_i h
      exact ⟨fun t h1 h2 => by omega, fun _ => by rw [Nat.add_sub_cancel]; exact h⟩
theorem srt_le {D : List Jb} (h : Srt D) {i j : Nat} (hij : i ≤ j) (hj : j < D.length) : cmpJ (D.getD i jb0) (D.getD j jb0) ≤ 0 := by
  by_cases e : i = j
  · subst e; rw [cJ_self]; exact Int.le_refl _
  · have := List.pairwise_iff_getElem.1 h i j (by omega) hj (by omega)
    simpa [show i < D.length by omega, hj] using this
theorem mem_take_getD {D : List Jb} {p : Nat} {a : Jb} (h : a ∈ D.take p) : ∃ t, t < p ∧ t < D.length ∧ a = D.getD t jb0 := by
  obtain ⟨t, ht, rfl⟩ := List.mem_iff_getElem.1 h
  rw [List.length_take] at ht
  exact ⟨t, by omega, by omega, by simp [show t < D.length by omega]⟩
theorem mem_drop_getD {D : List Jb} {p : Nat} {a : Jb} (h : a ∈ D.drop p) : ∃ t, p ≤ t ∧ t < D.length ∧ a = D.getD t jb0 := by
  obtain ⟨t, ht, rfl⟩ := List.mem_iff_getElem.1 h
  rw [List.length_drop] at ht
  exact ⟨p + t, by omega, by omega, by simp [show p + t < D.length by omega]⟩
theorem insD_ok {D : List Jb} (x : Jb) (h : Srt D) : Srt (insD D x) ∧ Stb (insD D x) (D ++ [x]) := by
  obtain ⟨s1, s2⟩ := posF_spec D x D.length (Nat.le_refl _)
  have hle := posF_le D x D.length
  unfold insD
  generalize posF D x D.length = p at *
  have hhi : ∀ b ∈ D.drop p, cmpJ x b < 0 := fun b hb => by
    obtain ⟨t, h1, h2, rfl⟩ := mem_drop_getD hb
    exact s1 t h1 h2
  have hlo : ∀ a ∈ D.take p, cmpJ a x ≤ 0 := fun a ha => by
    obtain ⟨t, h1, h2, rfl⟩ := mem_take_getD ha
    have h3 := s2 (by omega)
    have h4 := srt_le h (show t ≤ p - 1 by omega) (by omega)
    have h5 := cJ_neg x (D.getD (p - 1) jb0)
    exact cJ_le_trans h4 (by omega)
  have hsp : Srt (D.take p ++ D.drop p) := by rw [List.take_append_drop]; exact h
  obtain ⟨g1, g2, g3⟩ := srt_app.1 hsp
  constructor
  · rw [List.append_assoc]
    refine srt_app.2 ⟨g1, ?_, fun a ha b hb => ?_⟩
    · refine List.pairwise_cons.2 ⟨fun b hb => ?_, g2⟩
      have := hhi b hb; omega
    · rcases List.mem_cons.1 hb with rfl | hb
      · exact hlo a ha
      · exact g3 a ha b hb
  · have e : D ++ [x] = D.take p ++ (D.drop p ++ [x]) := by rw [← List.append_assoc, List.take_append_drop]
    rw [e, List.append_assoc]
    refine (Stb.refl _).app (Stb.turn fun a ha b hb => ?_)
    rw [List.mem_singleton.1 ha]
    have := hhi b hb; omega
theorem insL_ok : ∀ (D A : List Jb), Srt A → Srt (D.foldl insD A) ∧ Stb (D.foldl insD A) (A ++ D)
  | [], A, h => ⟨h, by rw [List.append_nil]; exact Stb.refl _⟩
  | x :: D, A, h => by
    obtain ⟨h1, h2⟩ := insD_ok x h
    obtain ⟨h3, h4⟩ := insL_ok D (insD A x) h1
    refine ⟨h3, h4.trans ?_⟩
    have : A ++ x :: D = (A ++ [x]) ++ D := by simp
    rw [this]
    exact h2.app (Stb.refl _)
end Go.Proofs.Ytnbhnnjgnojgbaa
