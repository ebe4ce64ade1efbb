/- slices.Compact at labels. -/
import Derived.Test.YtckchabcnmkbeaaMk
import Derived.Laws.IdiomCopy
import Derived.Lib.EndianMore
namespace Go.Proofs.Ytckchabcnmkbeaa
set_option linter.unusedVariables false
open Go.RowKit
theorem cpt_snoc : ∀ (p : List Lb) (y x : Lb), cpt (p ++ [y, x]) = if y = x then cpt (p ++ [y]) else cpt (p ++ [y]) ++ [x]
  | [], y, x => by
    by_cases h : y = x
    · simp [cpt, h]
    · simp [cpt, h]
  | [a], y, x => by
    have ih := cpt_snoc [] y x
    simp only [List.nil_append, List.singleton_append] at ih ⊢
    have e1 : cpt [a, y, x] = if a = y then cpt [y, x] else a :: cpt [y, x] := rfl
    have e2 : cpt [a, y] = if a = y then [y] else [a, y] := rfl
    rw [e1, ih, e2]
    by_cases h : a = y <;> by_cases e : y = x <;> simp [h, e, cpt]
  | a :: b :: p, y, x => by
    have ih := cpt_snoc (b :: p) y x
    simp only [List.cons_append] at ih ⊢
    by_cases h : a = b
    · rw [cpt, if_pos h, ih, cpt, if_pos h]
    · rw [cpt, if_neg h, ih, cpt, if_neg h]
      by_cases e : y = x
      · simp [e]
      · simp [e]
theorem cpt_take (l : List Lb) (m : Nat) (hm : m + 1 < l.length) : cpt (l.take (m + 1 + 1)) = if l.getD m lb0 = l.getD (m + 1) lb0 then cpt (l.take (m + 1)) else cpt (l.take (m + 1)) ++ [l.getD (m + 1) lb0] := by
  rw [take_getD l lb0 (m + 1) hm, take_getD l lb0 m (by omega), List.append_assoc]
  exact cpt_snoc _ _ _
/-- The labels L in block g, whose cells may be written. -/
def RowL (w : World) (g : Nat) (L : List Lb) : Prop := (∀ t, t < L.length → w.cell? ⟨g, t * 2, none⟩ = some (.string (L.getD t lb0).name) ∧ w.cell? ⟨g, t * 2 + 1, none⟩ = some (.string (L.getD t lb0).value)) ∧ ∀ x, w.frozen? ⟨g, x, none⟩ = false
theorem RowL.drewN {w : World} {g : Nat} {L : List Lb} (h : RowL w g L) (d : Nat) : RowL (w.drewN d) g L := h
theorem RowL.set {w : World} {g : Nat} {L : List Lb} (h : RowL w g L) {k : Nat} (hk : k < L.length) (x : Lb) : RowL ((w.setCell ⟨g, k * 2, none⟩ (.string x.name)).setCell ⟨g, k * 2 + 1, none⟩ (.string x.value)) g (L.set k x) := by
  obtain ⟨h1, h2⟩ := h
  refine ⟨fun t ht => ?_, fun y => by simp [h2]⟩
  rw [List.length_set] at ht
  by_cases e : t = k
  · subst e
    have hg : (L.set t x).getD t lb0 = x := by simp [hk]
    rw [hg]
    refine ⟨?_, ?_⟩
    · rw [World.cell?_setCell_other _ _ _ _ (by simp)]
      exact World.cell?_setCell_same _ _ _ (h1 t ht).1
    · have h3 : (w.setCell ⟨g, t * 2, none⟩ (.string x.name)).cell? ⟨g, t * 2 + 1, none⟩ = some (.string (L.getD t lb0).value) := by
        rw [World.cell?_setCell_other _ _ _ _ (by simp)]
        exact (h1 t ht).2
      exact World.cell?_setCell_same _ _ _ h3
  · have hg : (L.set k x).getD t lb0 = L.getD t lb0 := by
      rw [List.getD_eq_getElem?_getD, List.getD_eq_getElem?_getD, List.getElem?_set_ne (Ne.symm e)]
    rw [hg]
    refine ⟨?_, ?_⟩
    · rw [World.cell?_setCell_other _ _ _ _ (by intro h; injection h with _ h _; omega), World.cell?_setCell_other _ _ _ _ (by intro h; injection h with _ h _; omega)]
      exact (h1 t ht).1
    · rw [World.cell?_setCell_other _ _ _ _ (by intro h; injection h with _ h _; omega), World.cell?_setCell_other _ _ _ _ (by intro h; injection h with _ h _; omega)]
      exact (h1 t ht).2
theorem OwnL.row {w : World} {base g cap : Nat} {l : List Lb} (h : OwnL w base (.slice (some ⟨g, 0, none⟩) l.length cap) l) : RowL w g l := by
  refine ⟨fun t ht => ?_, fun x => ?_⟩
  · obtain ⟨b, o, e, h1, h2⟩ := lb_at h.sls t ht
    cases e
    simp only [Nat.zero_add] at h1 h2
    exact ⟨h1, h2⟩
  · rcases h.2 with ⟨e, _⟩ | ⟨g', cap', cur, e, _, hg, _⟩
    · cases e
    · cases e
      simp [World.frozen?, hg]
theorem RowL.sls {w : World} {g n cap : Nat} {L : List Lb} (h : RowL w g L) (hn : n ≤ L.length) (hc : n ≤ cap) : Lbs w (.slice (some ⟨g, 0, none⟩) n cap) (L.take n) := by
  have hl : (L.take n).length = n := by rw [List.length_take]; omega
  refine ⟨_, cap, by rw [hl], ⟨(fun e => by cases e), by rw [hl]; exact hc⟩, .inr ⟨g, 0, rfl, fun t ht i u hu => ?_⟩⟩
  rw [hl] at ht
  obtain ⟨h1, h2⟩ := h.1 t (by omega)
  have hg : (L.take n).getD t encL.d = L.getD t lb0 := by
    rw [List.getD_eq_getElem?_getD, List.getD_eq_getElem?_getD, List.getElem?_take_of_lt ht]; rfl
  rw [hg] at hu
  show w.cell? ⟨g, 0 + t * 2 + i, none⟩ = some u
  rw [Nat.zero_add]
  match i, hu with
  | 0, hu => cases hu; exact h1
  | 1, hu => cases hu; exact h2
/-- What stands in the row between two rounds of the inner loop. -/
structure CptI (l : List Lb) (m kk : Nat) (L : List Lb) : Prop where
  len : L.length = l.length
  m1 : kk < m
  ml : m ≤ l.length
  low : L.take kk = cpt (l.take m)
  high : ∀ t, m ≤ t + 1 → t < l.length → L.getD t lb0 = l.getD t lb0
theorem CptI.skip {l L : List Lb} {m kk : Nat} (h : CptI l (m + 1) kk L) (hm : m + 1 < l.length) (e : l.getD m lb0 = l.getD (m + 1) lb0) : CptI l (m + 1 + 1) kk L :=
  ⟨h.len, by have := h.m1; omega, by omega, by rw [cpt_take l m hm, if_pos e]; exact h.low, fun t ht hl => h.high t (by omega) hl⟩
theorem CptI.keep {l L : List Lb} {m kk : Nat} (h : CptI l (m + 1) kk L) (hm : m + 1 < l.length) (e : l.getD m lb0 ≠ l.getD (m + 1) lb0) : CptI l (m + 1 + 1) (kk + 1) (L.set kk (l.getD (m + 1) lb0)) := by
  have h1 := h.m1
  refine ⟨by rw [List.length_set]; exact h.len, by omega, by omega, ?_, fun t ht hl => ?_⟩
  · rw [cpt_take l m hm, if_neg e, ← h.low]
    have hk : kk < L.length := by rw [h.len]; omega
    rw [take_getD _ lb0 kk (by rw [List.length_set]; exact hk)]
    congr 1
    · rw [List.take_set_of_le (Nat.le_refl _)]
    · simp [hk]
  · rw [List.getD_eq_getElem?_getD, List.getElem?_set_ne (by omega), ← List.getD_eq_getElem?_getD]
    exact h.high t (by omega) hl
theorem CptI.start {l : List Lb} {k : Nat} (hk : k + 1 < l.length) (hc : cpt (l.take (k + 1)) = l.take (k + 1)) (e : l.getD k lb0 = l.getD (k + 1) lb0) : CptI l (k + 1 + 1) (k + 1) l :=
  ⟨rfl, by omega, by omega, by rw [cpt_take l k hk, if_pos e, hc], fun _ _ _ => rfl⟩
end Go.Proofs.Ytckchabcnmkbeaa
