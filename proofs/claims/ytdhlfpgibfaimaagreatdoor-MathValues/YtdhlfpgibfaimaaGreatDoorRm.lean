/- The document's Make. -/
import Derived.Test.YtdhlfpgibfaimaaGreatDoorCpAr
namespace Go.Proofs.YtdhlfpgibfaimaaGreatDoor
set_option linter.unusedVariables false
open Go.RowKit
/-! ### Mathematics -/
/-! ### Slices of labels -/
theorem Sls.kept {α : Type} {E : Enc α} {w w' : World} {g o n c : Nat} {r : Option Nat} {l : List α} (h : Sls E w (.slice (some ⟨g, o, none⟩) n c) l) (hg : w.grownBy w' r) (hne : some g ≠ r) : Sls E w' (.slice (some ⟨g, o, none⟩) n c) l := by
  obtain ⟨a, c', e, hn, h⟩ := h
  refine ⟨a, c', e, hn, ?_⟩
  rcases h with h | ⟨b, o', e2, h⟩
  · exact .inl h
  · cases e
    cases e2
    refine .inr ⟨g, o, rfl, fun t ht i u hu => ?_⟩
    have h1 := h t ht i u hu
    have hlt := World.block_lt_of_cell? w _ h1
    rw [← h1]
    simp only [World.cell?, hg.block g hlt hne]
end Go.Proofs.YtdhlfpgibfaimaaGreatDoor

