/- slices.rotateCmpFunc 33. -/
import Derived.Test.YtnbhnnjgnojgbaaSw
namespace Go.Proofs.Ytnbhnnjgnojgbaa
set_option linter.unusedVariables false
open Go.RowKit
def rotF : Nat → List Jb → Nat → Nat → Nat → List Jb × Nat
  | 0, D, m, i, j => (D, i)
  | k + 1, D, m, i, j => if i = j then (D, i) else if j < i then rotF k (swR D (m - i) m j) m (i - j) j else rotF k (swR D (m - i) (m + j - i) i) m i (j - i)
theorem rotF_eq (k : Nat) (D : List Jb) (m i : Nat) : rotF k D m i i = (D, i) := by
  cases k with
  | zero => rfl
  | succ k => unfold rotF; rw [if_pos rfl]
def rotD (D : List Jb) (a m b : Nat) : List Jb := swR (rotF (b - a) D m (m - a) (b - m)).1 (m - (rotF (b - a) D m (m - a) (b - m)).2) m (rotF (b - a) D m (m - a) (b - m)).2
theorem rotF_len : ∀ (k : Nat) (D : List Jb) (m i j : Nat), (rotF k D m i j).1.length = D.length
  | 0, D, m, i, j => rfl
  | k + 1, D, m, i, j => by
    unfold rotF
    split
    · rfl
    · split
      · rw [rotF_len k, swR_len]
      · rw [rotF_len k, swR_len]
theorem rotD_len (D : List Jb) (a m b : Nat) : (rotD D a m b).length = D.length := by unfold rotD; rw [swR_len, rotF_len]
set_option maxRecDepth 100000 in
set_option maxHeartbeats 4000000 in
theorem rotate33 (c g S base : Nat) (D : List Jb) (a m b : Nat) (f : Value) (w : World) (hR : RowJ w g S D) (hg : base ≤ g) (hl : D.length ≤ 1000000) (ham : a < m) (hmb : m < b) (hb : b ≤ D.length) :
    Calls Try.prog 33 #[.slice (some ⟨g, 0, none⟩) D.length c, .int .i64 a, .int .i64 m, .int .i64 b, f] w fun e w' => SrtQ base g S w (rotD D a m b) e w' := by
  obtain ⟨i0, hi0⟩ : ∃ i0, i0 = m - a := ⟨_, rfl⟩
  obtain ⟨j0, hj0⟩ : ∃ j0, j0 = b - m := ⟨_, rfl⟩
  obtain ⟨k0, hk0⟩ : ∃ k0, k0 = b - a := ⟨_, rfl⟩
  have w1 : IntKind.i64.wrap ((m : Int) - (a : Int)) = (i0 : Int) := by rw [Go.IntWalk.i64_in _ (by omega)]; omega
  have w2 : IntKind.i64.wrap ((b : Int) - (m : Int)) = (j0 : Int) := by rw [Go.IntWalk.i64_in _ (by omega)]; omega
  obtain ⟨RR, hRR⟩ : ∃ RR, RR = rotF k0 D m i0 j0 := ⟨_, rfl⟩
  have hrD : Hid (rotD D a m b = swR RR.1 (m - RR.2) m RR.2) := by rw [hRR, hi0, hj0, hk0]; rfl
  have b0 : 0 < i0 ∧ 0 < j0 ∧ i0 ≤ m ∧ m + j0 ≤ D.length ∧ i0 + j0 ≤ k0 := by omega
  replace hRR : Hid (rotF k0 D m i0 j0 = RR) := hRR.symm
  clear hi0 hj0 hk0
  have hsw : Hid (∀ (W : World) (E : List Jb) (p q n : Nat), E.length = D.length → RowJ W g S E → p + n ≤ D.length → q + n ≤ D.length → p ≠ q → Calls Try.prog 34 #[.slice (some ⟨g, 0, none⟩) D.length c, .int .i64 p, .int .i64 q, .int .i64 n, f] W fun e w' => SrtQ base g S W (swR E p q n) e w') := fun W E p q n hE hX h1 h2 h3 => by
    have := swap34 c g S base E p q n f W hX hg (by omega) (by omega) (by omega) h3
    rw [hE] at this
    exact this
  go_enter Try.func33, Try.ntmps33
  go_wp2
  clear w1 w2
  go_loopw [10, 11] (fun iv jv wr => ∃ (i j k : Nat) (E : List Jb), iv = .int .i64 i ∧ jv = .int .i64 j ∧ 0 < i ∧ 0 < j ∧ i ≤ m ∧ m + j ≤ D.length ∧ i + j ≤ k ∧ E.length = D.length ∧ Hid (rotF k E m i j = RR) ∧ Hid (RowJ wr g S E) ∧ Hid (Below base w wr)) (fun iv jv _ => (intOf iv + intOf jv).toNat)
  case atStart => exact ⟨i0, j0, k0, D, rfl, rfl, b0.1, b0.2.1, b0.2.2.1, b0.2.2.2.1, b0.2.2.2.2, rfl, hRR.out, hR, Below.refl _ _⟩
  case round =>
    obtain ⟨i, j, k, E, rfl, rfl, hi0, hj0, him, hmj, hk, hEl, hF, hX, hB⟩ := hrel
    by_cases he : i = j
    · subst he
      have hee : ((i : Int) != (i : Int)) = false := by simp
      obtain ⟨p, hp⟩ : ∃ p, p = m - i := ⟨_, rfl⟩
      have w3 : IntKind.i64.wrap ((m : Int) - (i : Int)) = (p : Int) := by rw [Go.IntWalk.i64_in _ (by omega)]; omega
      have hc := hsw.out wr E p m i hEl hX.out (by omega) (by omega) (by omega)
      have hD : swR E p m i = rotD D a m b := by
        rw [hrD.out, ← hF.out, rotF_eq, hp]
      rw [hD] at hc
      clear hp hD
      go_wp2_with (go_at_call 34; refine hc.mono ?_; rintro e w3 ⟨rfl, hX3, hB3⟩)
      go_end0
      exact ⟨rfl, hX3, hB.out.trans hB3⟩
    · obtain ⟨k, rfl⟩ : ∃ k', k = k' + 1 := ⟨k - 1, by omega⟩
      have hee : ((i : Int) != (j : Int)) = true := by simp; omega
      have hne : ¬ (i : Int) = (j : Int) := by omega
      obtain ⟨p, hp⟩ : ∃ p, p = m - i := ⟨_, rfl⟩
      have w3 : IntKind.i64.wrap ((m : Int) - (i : Int)) = (p : Int) := by rw [Go.IntWalk.i64_in _ (by omega)]; omega
      have hFs := hF.out
      unfold rotF at hFs
      rw [if_neg he] at hFs
      by_cases hji : j < i
      · have hjii : (j : Int) < (i : Int) := by omega
        rw [if_pos hji] at hFs
        obtain ⟨q, hq⟩ : ∃ q, q = i - j := ⟨_, rfl⟩
        have w4 : IntKind.i64.wrap ((i : Int) - (j : Int)) = (q : Int) := by rw [Go.IntWalk.i64_in _ (by omega)]; omega
        have hc := hsw.out wr E p m j hEl hX.out (by omega) (by omega) (by omega)
        have hlE := swR_len E p m j
        rw [← hp, ← hq] at hFs
        generalize swR E p m j = E2 at *
        replace hFs : Hid _ := hFs
        have bq : 0 < q ∧ q ≤ m ∧ q + j ≤ k ∧ q < i := by omega
        have hl2 : E2.length = D.length := by omega
        clear hp hq
        go_wp2_with (go_at_call 34; refine hc.mono ?_; rintro e w3 ⟨rfl, hX3, hB3⟩)
        refine ⟨⟨q, j, k, E2, rfl, rfl, bq.1, by omega, bq.2.1, by omega, bq.2.2.1, hl2, hFs, hX3, hB.out.trans hB3⟩, ?_⟩
        simp [intOf]; omega
      · have hjii : ¬ (j : Int) < (i : Int) := by omega
        rw [if_neg hji] at hFs
        obtain ⟨q, hq⟩ : ∃ q, q = j - i := ⟨_, rfl⟩
        obtain ⟨r, hr⟩ : ∃ r, r = m + j := ⟨_, rfl⟩
        obtain ⟨s, hs⟩ : ∃ s, s = m + j - i := ⟨_, rfl⟩
        have w4 : IntKind.i64.wrap ((j : Int) - (i : Int)) = (q : Int) := by rw [Go.IntWalk.i64_in _ (by omega)]; omega
        have w5 : IntKind.i64.wrap ((m : Int) + (j : Int)) = (r : Int) := by rw [Go.IntWalk.i64_in _ (by omega)]; omega
        have w6 : IntKind.i64.wrap ((r : Int) - (i : Int)) = (s : Int) := by rw [Go.IntWalk.i64_in _ (by omega)]; omega
        have hc := hsw.out wr E p s i hEl hX.out (by omega) (by omega) (by omega)
        have hlE := swR_len E p s i
        rw [← hp, ← hq, ← hs] at hFs
        generalize swR E p s i = E2 at *
        replace hFs : Hid _ := hFs
        have bq : 0 < q ∧ m + q ≤ D.length ∧ i + q ≤ k ∧ q < j := by omega
        have hl2 : E2.length = D.length := by omega
        clear hp hq hr hs
        go_wp2_with (go_at_call 34; refine hc.mono ?_; rintro e w3 ⟨rfl, hX3, hB3⟩)
        refine ⟨⟨i, q, k, E2, rfl, rfl, by omega, bq.1, by omega, bq.2.1, bq.2.2.1, hl2, hFs, hX3, hB.out.trans hB3⟩, ?_⟩
        simp [intOf]; omega
end Go.Proofs.Ytnbhnnjgnojgbaa
