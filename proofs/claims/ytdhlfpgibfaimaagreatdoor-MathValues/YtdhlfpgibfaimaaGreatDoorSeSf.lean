/- Se; Sf. -/
import Derived.Test.YtdhlfpgibfaimaaGreatDoorSbSd
import Derived.Lib.SliceRun
import Derived.Test.YtdhlfpgibfaimaaGreatDoorCpAr
/- slices.Clone, IndexFunc, ContainsFunc at points, asked by isUnknown. -/
namespace Go.Proofs.YtdhlfpgibfaimaaGreatDoor
set_option linter.unusedVariables false
open Go.RowKit
/-- The place of the first that is unknown. -/
def idxU (l : List Pn) : Int := if l.any unkB = true then (l.findIdx unkB : Int) else -1
theorem getD_get (l : List Pn) (k : Nat) (h : k < l.length) : l.getD k pn0 = l[k] := by rw [List.getD_eq_getElem?_getD, List.getElem?_eq_getElem h]; rfl
theorem idxU_some {l : List Pn} (h : l.any unkB = true) : l.findIdx unkB < l.length ∧ unkB (l.getD (l.findIdx unkB) pn0) = true ∧ ∀ k, k < l.findIdx unkB → unkB (l.getD k pn0) = false := by
  have h1 : l.findIdx unkB < l.length := by
    rw [List.findIdx_lt_length]
    obtain ⟨x, hx, hu⟩ := List.any_eq_true.1 h
    exact ⟨x, hx, hu⟩
  refine ⟨h1, ?_, fun k hk => ?_⟩
  · rw [getD_get _ _ h1]; exact List.findIdx_getElem (w := h1)
  · rw [getD_get _ _ (by omega)]
    have := List.not_of_lt_findIdx hk
    simpa using this
end Go.Proofs.YtdhlfpgibfaimaaGreatDoor
/- slices.DeleteFunc at points, asked by isUnknown; series.known. -/
namespace Go.Proofs.YtdhlfpgibfaimaaGreatDoor
set_option linter.unusedVariables false
open Go.RowKit
def zP : Value := .agg #[.int .i64 0, .int .i64 0, .int .i64 0]
def knwB (p : Pn) : Bool := !unkB p
/-- Those that are known. -/
def knownL (l : List Pn) : List Pn := l.filter knwB
/-- What stands when j of them have been asked: i were kept. -/
structure DelI (l : List Pn) (j i : Nat) (L : List Pn) : Prop where
  len : L.length = l.length
  lt : i < j
  le : j ≤ l.length
  low : L.take i = knownL (l.take j)
  high : ∀ t, j ≤ t → t < l.length → L.getD t pn0 = l.getD t pn0
theorem known_take (l : List Pn) (j : Nat) (h : j < l.length) : knownL (l.take (j + 1)) = knownL (l.take j) ++ (if knwB (l.getD j pn0) = true then [l.getD j pn0] else []) := by
  unfold knownL
  rw [List.take_succ_eq_append_getElem h, List.filter_append, getD_get l j h]
  congr 1
  by_cases hb : knwB l[j] = true
  · rw [if_pos hb]; simp [hb]
  · rw [if_neg hb]; simp [hb]
theorem DelI.start {l : List Pn} (h : l.any unkB = true) : DelI l (l.findIdx unkB + 1) (l.findIdx unkB) l := by
  obtain ⟨h1, h2, h3⟩ := idxU_some h
  refine ⟨rfl, by omega, by omega, ?_, fun _ _ _ => rfl⟩
  rw [known_take l _ h1, if_neg (by unfold knwB; rw [h2]; decide), List.append_nil]
  symm
  unfold knownL
  rw [List.filter_eq_self]
  intro x hx
  obtain ⟨k, hk, rfl⟩ := List.getElem_of_mem hx
  rw [List.length_take] at hk
  rw [List.getElem_take]
  have := h3 k (by omega)
  rw [getD_get _ _ (by omega)] at this
  unfold knwB
  rw [this]
  rfl
theorem DelI.skip {l L : List Pn} {j i : Nat} (h : DelI l j i L) (hj : j < l.length) (hu : unkB (l.getD j pn0) = true) : DelI l (j + 1) i L :=
  ⟨h.len, by have := h.lt; omega, hj, by rw [known_take l j hj, if_neg (by unfold knwB; rw [hu]; decide), List.append_nil]; exact h.low, fun t ht => h.high t (by omega)⟩
theorem DelI.keep {l L : List Pn} {j i : Nat} (h : DelI l j i L) (hj : j < l.length) (hu : unkB (l.getD j pn0) = false) : DelI l (j + 1) (i + 1) (L.set i (l.getD j pn0)) := by
  have hlt := h.lt
  have hil : i < L.length := by rw [h.len]; omega
  refine ⟨by rw [List.length_set]; exact h.len, by omega, hj, ?_, fun t ht htl => ?_⟩
  · rw [known_take l j hj, if_pos (by unfold knwB; rw [hu]; rfl), ← h.low, List.take_succ_eq_append_getElem (by rw [List.length_set]; exact hil), List.getElem_set_self]
    congr 1
    rw [List.take_set_of_le (Nat.le_refl _)]
  · rw [List.getD_eq_getElem?_getD, List.getElem?_set_ne (by omega), ← List.getD_eq_getElem?_getD]
    exact h.high t (by omega) htl
end Go.Proofs.YtdhlfpgibfaimaaGreatDoor

