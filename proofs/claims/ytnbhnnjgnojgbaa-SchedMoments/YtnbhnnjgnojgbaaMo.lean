/- Moments: the mathematics of SchedMoments; a job's cells behind stores. -/
import Derived.Test.YtnbhnnjgnojgbaaAr
namespace Go.Proofs.Ytnbhnnjgnojgbaa
set_option linter.unusedVariables false
open Go.RowKit
theorem block_set {w : World} {g i : Nat} {C : Array Value} {t : TypeId} {u : Value} (h : w.heap[g]? = some (.cells C t (0, 0))) : (w.setCell ⟨g, i, none⟩ u).heap[g]? = some (.cells (C.setIfInBounds i u) t (0, 0)) := by
  unfold World.setCell
  rw [Array.getElem?_modify, if_pos rfl, h]
  rfl
theorem JAt.setLa {w : World} {g : Nat} {j : Jb} (h : JAt w g j) (x : Int) : JAt (w.setCell ⟨g, 6, none⟩ (.int .i64 x)) g { j with la := x } := by
  have := block_set (i := 6) (u := .int .i64 x) h
  unfold JAt
  rw [this]
  simp [jO]
theorem JAt.setPa {w : World} {g : Nat} {j : Jb} (h : JAt w g j) (x : Bool) : JAt (w.setCell ⟨g, 5, none⟩ (.bool x)) g { j with pa := x } := by
  have := block_set (i := 5) (u := .bool x) h
  unfold JAt
  rw [this]
  simp [jO]
/-- Is u a moment? -/
def momB (j : Jb) (u : Int) : Bool := decide (j.off ≤ u ∧ (u - j.off) % j.iv = 0)
/-- The job behind an evaluation at L. -/
def jA (j : Jb) (L : Int) : Jb := { j with pa := false, la := L }
theorem ok_A {j : Jb} (h : Ok j) {L : Int} (h0 : 0 ≤ L) (h1 : L ≤ 1099511627776) : Ok (jA j L) := by
  unfold Ok jA at *
  simp only
  omega
theorem slot_A (j : Jb) (L t : Int) : slotF (jA j L) t = slotF j t := rfl
theorem due_mom {j : Jb} (h : Ok j) {L now : Int} (h0 : 0 ≤ L) (h1 : L ≤ now) : isB (jA j L) now = true ↔ ∃ u, L < u ∧ u ≤ now ∧ now - j.iv ≤ u ∧ momB j u = true := by
  have hiv : 1 ≤ j.iv ∧ 0 ≤ j.off := ⟨h.1, h.2.2.1⟩
  have hL := slotF_at h (show -1 ≤ L by omega)
  have hN := slotF_at h (show -1 ≤ now by omega)
  rw [show isB (jA j L) now = decide (slotF j L < slotF j now) from rfl, decide_eq_true_eq]
  constructor
  · intro hlt
    have hoff : j.off ≤ now := by
      rcases Int.lt_or_le now j.off with hc | hc
      · have : slotF j now = -1 := by unfold slotF; rw [if_pos (Or.inl hc)]
        have : slotF j L = -1 := by unfold slotF; rw [if_pos (Or.inl (by omega))]
        omega
      · exact hc
    obtain ⟨n1, n2⟩ := hN.1 hoff
    have e1 : (slotF j now + 1) * j.iv = slotF j now * j.iv + j.iv := by rw [Int.add_mul]; omega
    refine ⟨j.off + slotF j now * j.iv, ?_, by omega, by omega, ?_⟩
    · rcases Int.lt_or_le L (j.off + slotF j now * j.iv) with hc | hc
      · exact hc
      · exfalso
        have hp : 0 ≤ slotF j now * j.iv := Int.mul_nonneg n2 (by omega)
        have : slotF j now ≤ slotF j L := by
          have h3 := hL.2
          have h4 : slotF j now * j.iv < (slotF j L + 1) * j.iv := by omega
          have := Int.lt_of_mul_lt_mul_right h4 (by omega)
          omega
        omega
    · unfold momB
      have hp : 0 ≤ slotF j now * j.iv := Int.mul_nonneg n2 (by omega)
      simp only [decide_eq_true_eq]
      exact ⟨by omega, by rw [show j.off + slotF j now * j.iv - j.off = slotF j now * j.iv by omega]; exact Int.mul_emod_left _ _⟩
  · rintro ⟨u, u1, u2, _, u3⟩
    unfold momB at u3
    simp only [decide_eq_true_eq] at u3
    obtain ⟨u4, u5⟩ := u3
    have hU := slotF_at h (show -1 ≤ u by omega)
    have hdiv : (u - j.off) / j.iv * j.iv = u - j.off := Int.ediv_mul_cancel (Int.dvd_of_emod_eq_zero u5)
    have hk0 : 0 ≤ (u - j.off) / j.iv := Int.ediv_nonneg (by omega) (by omega)
    generalize (u - j.off) / j.iv = k at *
    have a1 : k < slotF j now + 1 := by
      have h4 : k * j.iv < (slotF j now + 1) * j.iv := by have := hN.2; omega
      exact Int.lt_of_mul_lt_mul_right h4 (by omega)
    have a2 : slotF j L < k := by
      rcases Int.lt_or_le L j.off with hc | hc
      · have : slotF j L = -1 := by unfold slotF; rw [if_pos (Or.inl hc)]
        omega
      · have h4 : slotF j L * j.iv < k * j.iv := by have := (hL.1 hc).1; omega
        exact Int.lt_of_mul_lt_mul_right h4 (by omega)
    omega
/-- What the loop has found, of the moments behind t. -/
def fndB (j : Jb) (L now t : Int) (m : Bool) : Prop := m = true ↔ ∃ u, t < u ∧ L < u ∧ u ≤ now ∧ now - j.iv ≤ u ∧ momB j u = true
theorem fnd0 (j : Jb) (L now : Int) : fndB j L now now false := by
  unfold fndB
  constructor
  · intro h; cases h
  · rintro ⟨u, h1, _, h2, _⟩; omega
theorem fndS {j : Jb} {L now t : Int} {m : Bool} (h : fndB j L now t m) (h1 : L < t) (h2 : now - j.iv ≤ t) (h3 : t ≤ now) : fndB j L now (t - 1) (m || momB j t) := by
  unfold fndB at *
  rw [Bool.or_eq_true, h]
  constructor
  · rintro (⟨u, a, b⟩ | hm)
    · exact ⟨u, by omega, b⟩
    · exact ⟨t, by omega, h1, h3, h2, hm⟩
  · rintro ⟨u, a, b⟩
    by_cases e : u = t
    · subst e; exact .inr b.2.2.2
    · exact .inl ⟨u, by omega, b⟩
theorem fndE {j : Jb} (hj : Ok j) {L now t : Int} {m : Bool} (h : fndB j L now t m) (h0 : 0 ≤ L) (h1 : L ≤ now) (he : ¬ (L < t ∧ now - j.iv ≤ t)) : m = isB (jA j L) now := by
  have hd := due_mom hj h0 h1
  unfold fndB at h
  have : (∃ u, t < u ∧ L < u ∧ u ≤ now ∧ now - j.iv ≤ u ∧ momB j u = true) ↔ (∃ u, L < u ∧ u ≤ now ∧ now - j.iv ≤ u ∧ momB j u = true) :=
    ⟨fun ⟨u, a, b⟩ => ⟨u, b⟩, fun ⟨u, b⟩ => ⟨u, by omega, b⟩⟩
  rw [this, ← hd] at h
  cases m <;> cases h2 : isB (jA j L) now <;> simp_all
/-- Behind its own evaluation a job is not due. -/
theorem due_not (j : Jb) (now : Int) : isB (jA j now) now = false := by
  unfold isB
  rw [show (jA j now).la = now from rfl]
  simp
theorem JAt.frozen {w : World} {g : Nat} {j : Jb} (h : JAt w g j) (i : Nat) : w.frozen? ⟨g, i, none⟩ = false := by
  unfold JAt jO at h
  simp [World.frozen?, h]
end Go.Proofs.Ytnbhnnjgnojgbaa
