/- What may be is followed by what may be. -/
import Derived.Test.YtiajafljgfpdcaaGreatSMm
namespace Go.Proofs.YtiajafljgfpdcaaGreat.S
set_option linter.unusedVariables false
/-- It may be, but for its value, and nothing of it is later than now. -/
def Inv (x : Inst) (now : Int) : Prop := (1 ≤ x.st ∧ x.st ≤ 5) ∧ (0 ≤ x.since ∧ x.since ≤ now) ∧ (0 ≤ x.seen ∧ x.seen ≤ now) ∧ ((x.fr = -1 ∧ (x.st < 2 ∨ 2 < x.st)) ∨ (0 ≤ x.fr ∧ x.fr ≤ now ∧ (x.st = 2 ∨ x.st = 3))) ∧ (x.quiet = -1 ∨ (0 ≤ x.quiet ∧ x.quiet ≤ now ∧ x.st = 3))
theorem Inv.hf {x : Inst} {t now : Int} (h : Inv x t) (h1 : t ≤ now) (h2 : now ≤ 1099511627776) : x.st = 2 → -9223372036854775808 ≤ now - x.fr ∧ now - x.fr ≤ 9223372036854775807 := by
  unfold Inv at h; omega
theorem Inv.hq {x : Inst} {t now : Int} (h : Inv x t) (h1 : t ≤ now) (h2 : now ≤ 1099511627776) : x.quiet ≠ -1 → -9223372036854775808 ≤ now - x.quiet ∧ now - x.quiet ≤ 9223372036854775807 := by
  unfold Inv at h; omega
theorem Inv.qk {x : Inst} {t : Int} (h : Inv x t) : Qk x := by
  unfold Inv at h; unfold Qk; omega
theorem Inv.come {x : Inst} {t now s : Int} (h : Inv x t) (h1 : t ≤ now) (hs : s = 1 ∨ s = 4 ∨ s = 5) : Inv (comeI x s now) now := by
  unfold Inv at *; unfold comeI
  simp only
  rw [if_pos hs]
  split <;> split <;> omega
theorem Inv.step {x : Inst} {t now : Int} (hI : Inv x t) (h1 : t ≤ now) (h : Hd) (r k n : Int) : Inv (stepI x h r k n now) now := by
  have hx : Inv { x with seen := now, vk := k, vn := n } now := by unfold Inv at *; simp only; omega
  unfold stepI
  generalize ({ x with seen := now, vk := k, vn := n } : Inst) = y at *
  clear hI
  obtain ⟨st, since, fr, quiet, seen, vk, vn⟩ := y
  have hm := means_in h r
  generalize meansI h r = m at *
  unfold moveI
  split
  · unfold alertI
    split
    · rename_i h3
      simp only [Inv] at hx h3 ⊢
      refine ⟨⟨by omega, by omega⟩, ⟨by omega, by omega⟩, ⟨by omega, by omega⟩, by first | omega | (simp; done) | (simp; omega), by first | exact .inl rfl | omega | (simp; done) | (simp; omega)⟩
    · split
      · rename_i h3 _
        simp only [Inv, comeI, begI] at *
        (repeat' split) <;> refine ⟨⟨by omega, by omega⟩, ⟨by omega, by omega⟩, ⟨by omega, by omega⟩, by first | omega | (simp; done) | (simp; omega), by first | exact .inl rfl | omega | (simp; done) | (simp; omega)⟩
      · rename_i h3 _
        simp only [Inv, comeI, begI] at *
        (repeat' split) <;> refine ⟨⟨by omega, by omega⟩, ⟨by omega, by omega⟩, ⟨by omega, by omega⟩, by first | omega | (simp; done) | (simp; omega), by first | exact .inl rfl | omega | (simp; done) | (simp; omega)⟩
  · split
    · unfold calmI
      split
      · rename_i h3
        split
        · refine Inv.come (t := now) ?_ (Int.le_refl _) (.inl rfl)
          simp only [Inv, quI] at *
          split <;> refine ⟨⟨by omega, by omega⟩, ⟨by omega, by omega⟩, ⟨by omega, by omega⟩, by first | omega | (simp; done) | (simp; omega), by first | exact .inl rfl | omega | (simp; done) | (simp; omega)⟩
        · simp only [Inv, quI] at *
          split <;> refine ⟨⟨by omega, by omega⟩, ⟨by omega, by omega⟩, ⟨by omega, by omega⟩, by first | omega | (simp; done) | (simp; omega), by first | exact .inl rfl | omega | (simp; done) | (simp; omega)⟩
      · exact hx.come (Int.le_refl _) (.inl rfl)
    · split
      · exact hx.come (Int.le_refl _) (.inr (.inl rfl))
      · split
        · exact hx.come (Int.le_refl _) (.inr (.inr rfl))
        · exact hx
theorem tB_iff (n : Int) : tB n = true ↔ 0 ≤ n ∧ n ≤ 1099511627776 := by unfold tB; simp
theorem Inv.of_ok {x : Inst} {now : Int} (h : okB x = true) (h1 : x.since ≤ now) (h2 : x.seen ≤ now) (h3 : x.fr ≤ now) (h4 : x.quiet ≤ now) : Inv x now := by
  unfold okB hasB frB quB at h
  simp only [Bool.and_eq_true, Bool.or_eq_true, decide_eq_true_eq, tB_iff] at h
  obtain ⟨ha, ⟨hb, hc, hd, he⟩, hv⟩ := h
  unfold Inv
  split at hd
  · simp at hd; omega
  · simp only [Bool.and_eq_true, decide_eq_true_eq, tB_iff] at hd; omega
theorem Inv.ok {x : Inst} {now : Int} (h : Inv x now) (h1 : now ≤ 1099511627776) : okB x = vB x.vk x.vn := by
  unfold Inv at h
  have hh : hasB x = true := by
    unfold hasB frB quB
    simp only [Bool.and_eq_true, Bool.or_eq_true, decide_eq_true_eq, tB_iff]
    refine ⟨by omega, by omega, ?_, by omega⟩
    split
    · simp; omega
    · simp only [Bool.and_eq_true, decide_eq_true_eq, tB_iff]; omega
  unfold okB
  rw [hh, Bool.true_and, decide_eq_true (by omega), Bool.true_and]
theorem come_seen (x : Inst) (s now : Int) : (comeI x s now).seen = x.seen ∧ (comeI x s now).vk = x.vk ∧ (comeI x s now).vn = x.vn := ⟨rfl, rfl, rfl⟩
/-- What a step sees. -/
theorem step_seen (x : Inst) (h : Hd) (r k n now : Int) : (stepI x h r k n now).seen = now ∧ (stepI x h r k n now).vk = k ∧ (stepI x h r k n now).vn = n := by
  unfold stepI moveI alertI calmI
  split
  · split
    · exact ⟨rfl, rfl, rfl⟩
    · split <;> exact ⟨rfl, rfl, rfl⟩
  · split
    · split
      · split <;> exact ⟨rfl, rfl, rfl⟩
      · exact ⟨rfl, rfl, rfl⟩
    · split
      · exact ⟨rfl, rfl, rfl⟩
      · split <;> exact ⟨rfl, rfl, rfl⟩
theorem come_since (x : Inst) (s now : Int) : (comeI x s now).since = if (comeI x s now).st = x.st then x.since else now := by
  show (if x.st = s then x.since else now) = if s = x.st then x.since else now
  by_cases h : x.st = s
  · rw [if_pos h, if_pos h.symm]
  · rw [if_neg h, if_neg (fun e => h e.symm)]
/-- Since when. -/
theorem step_since (x : Inst) (h : Hd) (r k n now : Int) : (stepI x h r k n now).since = if (stepI x h r k n now).st = x.st then x.since else now := by
  unfold stepI moveI alertI calmI
  split
  · split
    · simp
    · split <;> exact come_since _ _ _
  · split
    · split
      · split
        · exact come_since _ _ _
        · simp
      · exact come_since _ _ _
    · split
      · exact come_since _ _ _
      · split
        · exact come_since _ _ _
        · simp
end Go.Proofs.YtiajafljgfpdcaaGreat.S
