/- Slots: sched.Slot, Next, isDue; the document's. -/
import Derived.Test.YtnbhnnjgnojgbaaBa
namespace Go.Proofs.Ytnbhnnjgnojgbaa
set_option linter.unusedVariables false
open Go.RowKit
/-- How many moments are not behind t, less 1. -/
def slotF (j : Jb) (t : Int) : Int := if t < j.off ∨ j.iv < 1 then -1 else (t - j.off) / j.iv
def nextF (j : Jb) (t : Int) : Int := j.off + (slotF j t + 1) * j.iv
def isB (j : Jb) (now : Int) : Bool := !j.pa && decide (slotF j j.la < slotF j now)
/-- A job that may be. -/
def Ok (j : Jb) : Prop := 1 ≤ j.iv ∧ j.iv ≤ 86400 ∧ 0 ≤ j.off ∧ j.off < j.iv ∧ -1 ≤ j.la ∧ j.la ≤ 1099511627776
instance (j : Jb) : Decidable (Ok j) := by unfold Ok; exact inferInstance
theorem slotF_in {j : Jb} (h : Ok j) {t : Int} (h0 : -1 ≤ t) (h1 : t ≤ 4398046511104) : -1 ≤ slotF j t ∧ slotF j t ≤ 4398046511104 := by
  obtain ⟨a, b, c, d, _⟩ := h
  unfold slotF
  split
  · omega
  · rename_i hn
    have hn2 : j.off ≤ t := by omega
    have h2 : 0 ≤ (t - j.off) / j.iv := Int.ediv_nonneg (by omega) (by omega)
    have h3 : (t - j.off) / j.iv ≤ t - j.off := Int.ediv_le_self _ (by omega)
    omega
/-- A slot's bounds: from its moment on, ahead of the next one. -/
theorem slotF_at {j : Jb} (h : Ok j) {t : Int} (h0 : -1 ≤ t) : (j.off ≤ t → slotF j t * j.iv ≤ t - j.off ∧ 0 ≤ slotF j t) ∧ t - j.off < (slotF j t + 1) * j.iv := by
  obtain ⟨a, b, c, d, _⟩ := h
  unfold slotF
  by_cases ht : t < j.off
  · rw [if_pos (Or.inl ht)]
    exact ⟨fun h => absurd h (by omega), by rw [show (-1 + 1 : Int) * j.iv = 0 by simp]; omega⟩
  · rw [if_neg (by omega)]
    have h2 : 0 ≤ (t - j.off) / j.iv := Int.ediv_nonneg (by omega) (by omega)
    have h3 := Int.ediv_mul_le (t - j.off) (show j.iv ≠ 0 by omega)
    have h4 := Int.lt_ediv_add_one_mul_self (t - j.off) (show 0 < j.iv by omega)
    exact ⟨fun _ => ⟨h3, h2⟩, h4⟩
/-- What tells a slot. -/
theorem slotF_of {j : Jb} (h : Ok j) {t k : Int} (hk : 0 ≤ k) (h1 : k * j.iv ≤ t - j.off) (h2 : t - j.off < (k + 1) * j.iv) : slotF j t = k := by
  obtain ⟨a, b, c, d, _⟩ := h
  have hp : 0 ≤ k * j.iv := Int.mul_nonneg hk (by omega)
  unfold slotF
  rw [if_neg (by omega)]
  have h3 : k ≤ (t - j.off) / j.iv := (Int.le_ediv_iff_mul_le (by omega)).2 h1
  have h4 : (t - j.off) / j.iv < k + 1 := (Int.ediv_lt_iff_lt_mul (by omega)).2 h2
  omega
theorem nextF_in {j : Jb} (h : Ok j) {t : Int} (h0 : -1 ≤ t) (h1 : t ≤ 4398046511104) : t < nextF j t ∧ nextF j t ≤ t + 86401 ∧ 0 ≤ nextF j t ∧ (slotF j t + 1) * j.iv ≤ 4398046597504 ∧ 0 ≤ (slotF j t + 1) * j.iv := by
  have hs := slotF_at h h0
  have hi := slotF_in h h0 h1
  obtain ⟨a, b, c, d, _⟩ := h
  unfold nextF
  have e : (slotF j t + 1) * j.iv = slotF j t * j.iv + j.iv := by rw [Int.add_mul]; omega
  have hp : 0 ≤ (slotF j t + 1) * j.iv := Int.mul_nonneg (by omega) (by omega)
  by_cases ht : t < j.off
  · have : slotF j t = -1 := by unfold slotF; rw [if_pos (Or.inl ht)]
    rw [this] at hs ⊢
    simp
    omega
  · have := hs.1 (by omega)
    omega
theorem slotF_next {j : Jb} (h : Ok j) {t : Int} (h0 : -1 ≤ t) (h1 : t ≤ 4398046511104) : slotF j (nextF j t) = slotF j t + 1 := by
  have hi := slotF_in h h0 h1
  have hiv : 1 ≤ j.iv := h.1
  refine slotF_of h (by omega) (by unfold nextF; omega) ?_
  unfold nextF
  rw [Int.add_mul (slotF j t + 1) 1 j.iv]
  omega
end Go.Proofs.Ytnbhnnjgnojgbaa
