/- slices.swapRangeCmpFunc 34. -/
import Derived.Test.YtnbhnnjgnojgbaaRj
namespace Go.Proofs.Ytnbhnnjgnojgbaa
set_option linter.unusedVariables false
open Go.RowKit
def swR (D : List Jb) (a b : Nat) : Nat → List Jb
  | 0 => D
  | i + 1 => swp (swR D a b i) (a + i) (b + i)
theorem swR_len (D : List Jb) (a b : Nat) : ∀ i, (swR D a b i).length = D.length
  | 0 => rfl
  | i + 1 => by rw [swR, swp_len, swR_len D a b i]
/-- What a step of the sort leaves. -/
def SrtQ (base g S : Nat) (w : World) (D : List Jb) (e : Ending) (w' : World) : Prop := e = .returned (.tuple #[]) ∧ RowJ w' g S D ∧ Below base w w'
set_option maxRecDepth 100000 in
set_option maxHeartbeats 4000000 in
theorem swap34 (c g S base : Nat) (D : List Jb) (a b n : Nat) (f : Value) (w : World) (hR : RowJ w g S D) (hg : base ≤ g) (hl : D.length ≤ 1000000) (ha : a + n ≤ D.length) (hb : b + n ≤ D.length) (hab : a ≠ b) :
    Calls Try.prog 34 #[.slice (some ⟨g, 0, none⟩) D.length c, .int .i64 a, .int .i64 b, .int .i64 n, f] w fun e w' => SrtQ base g S w (swR D a b n) e w' := by
  go_enter Try.func34, Try.ntmps34
  go_wp2
  go_loopw [10] (fun iv wr => ∃ i : Nat, i ≤ n ∧ iv = .int .i64 i ∧ Hid (RowJ wr g S (swR D a b i)) ∧ Hid (Below base w wr)) (fun iv _ => n - (intOf iv).toNat)
  case atStart => exact ⟨0, Nat.zero_le _, rfl, hR, Below.refl _ _⟩
  case round =>
    obtain ⟨i, hi, rfl, hX, hB⟩ := hrel
    by_cases hlt : i < n
    · have hki : (i : Int) < (n : Int) := by omega
      have hlen := swR_len D a b i
      obtain ⟨p, hp⟩ : ∃ p, p = a + i := ⟨_, rfl⟩
      obtain ⟨q, hq⟩ : ∃ q, q = b + i := ⟨_, rfl⟩
      have w1 : IntKind.i64.wrap ((a : Int) + (i : Int)) = (p : Int) := by rw [Go.IntWalk.i64_in _ (by omega)]; omega
      have w2 : IntKind.i64.wrap ((b : Int) + (i : Int)) = (q : Int) := by rw [Go.IntWalk.i64_in _ (by omega)]; omega
      have hpl : p < D.length := by omega
      have hql : q < D.length := by omega
      have hpi : (p : Int) < (D.length : Int) := by omega
      have hqi : (q : Int) < (D.length : Int) := by omega
      have hpD : p < (swR D a b i).length := by omega
      have hqD : q < (swR D a b i).length := by omega
      obtain ⟨x0, x1, x2, x3, x4, x5, x6⟩ := hX.out.cells p hpD
      obtain ⟨y0, y1, y2, y3, y4, y5, y6⟩ := hX.out.cells q hqD
      have hfz := hX.out.frozen
      have hnext : Hid (RowJ (st7 (st7 wr g (p * 7) ((swR D a b i).getD q jb0)) g (q * 7) ((swR D a b i).getD p jb0)) g S (swR D a b (i + 1))) := by
        show RowJ _ g S (swp (swR D a b i) (a + i) (b + i))
        rw [← hp, ← hq]
        exact swp_row hX.out p q hpD hqD
      have hBn : Hid (Below base w (st7 (st7 wr g (p * 7) ((swR D a b i).getD q jb0)) g (q * 7) ((swR D a b i).getD p jb0))) := st7_below (st7_below hB.out hg) hg
      generalize (swR D a b i).getD p jb0 = x at *
      generalize (swR D a b i).getD q jb0 = y at *
      have n1 : ¬ p = q := by omega
      have n2 : ¬ q = p := by omega
      have n3 : ¬ p * 7 = q * 7 := by omega
      have n4 : ¬ q * 7 = p * 7 := by omega
      clear hp hq hlen
      go_upto_region 3 with fail
      go_region_law (fail)
      all_goals
        go_wp2
        refine ⟨⟨i + 1, by omega, by go_num, ?_, ?_⟩, by simp [intOf]; omega⟩
        · exact hnext.out.grow ((Below.refl _ _).drew)
        · exact hBn.out.drew
    · obtain rfl : i = n := by omega
      have hki : ¬ (i : Int) < (i : Int) := by omega
      go_wp2
      go_end0
      exact ⟨rfl, hX.out, hB.out⟩
end Go.Proofs.Ytnbhnnjgnojgbaa
