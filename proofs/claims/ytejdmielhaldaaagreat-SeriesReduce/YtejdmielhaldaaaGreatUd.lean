/- Reduce's folds, as the document goes through them. -/
import Derived.Test.YtejdmielhaldaaaGreatUb
import Derived.Test.YtejdmielhaldaaaGreatOa
namespace Go.Proofs.YtejdmielhaldaaaGreat
set_option linter.unusedVariables false
theorem ut_drop (op : ByteArray) {L : List Pn} (h : 0 < L.length) : utV op L = (L.drop 1).foldl (utP op) (L.getD 0 pn0).v := by
  cases L with
  | nil => simp at h
  | cons p r =>
    show (p :: r).foldl (utP op) p.v = r.foldl (utP op) p.v
    rw [List.foldl_cons]
    have : utP op p.v p = p.v := by unfold utP; split <;> rfl
    rw [this]
theorem sum_drop {L : List Pn} (h : 0 < L.length) : sumV L = (L.drop 1).foldl plusV (L.getD 0 pn0).v := by
  cases L with
  | nil => simp at h
  | cons p r => rfl
theorem utP_min {T : Vl} {q : Pn} (hp : IsV q.v ∧ Ordy q.v) (hf : IsV T ∧ Ordy T) : utP ⟨#[60]⟩ T q = if lessB q.v T = true then q.v else T := by
  rw [utP_lt hp.1 hf.1 hp.2 hf.2, lessB_place hp.1 hf.1 hp.2 hf.2]
  by_cases h : place q.v < place T
  · rw [if_pos h, if_pos (decide_eq_true h)]
  · rw [if_neg h, if_neg (by rw [decide_eq_false h]; decide)]
theorem utP_max {T : Vl} {q : Pn} (hp : IsV q.v ∧ Ordy q.v) (hf : IsV T ∧ Ordy T) : utP ⟨#[62]⟩ T q = if lessB T q.v = true then q.v else T := by
  rw [utP_gt hp.1 hf.1 hp.2 hf.2, lessB_place hf.1 hp.1 hf.2 hp.2]
  by_cases h : place T < place q.v
  · rw [if_pos h, if_pos (decide_eq_true h)]
  · rw [if_neg h, if_neg (by rw [decide_eq_false h]; decide)]
theorem drop_pn (L : List Pn) (t : Nat) : (L.drop 1).getD t pn0 = L.getD (t + 1) pn0 := by
  rw [List.getD_eq_getElem?_getD, List.getD_eq_getElem?_getD, List.getElem?_drop, Nat.add_comm]
theorem fold_drop (g : Vl → Pn → Vl) (L : List Pn) (f : Vl) (t : Nat) (h : t + 1 < L.length) : ((L.drop 1).take (t + 1)).foldl g f = g (((L.drop 1).take t).foldl g f) (L.getD (t + 1) pn0) := by
  rw [fold_take3 g _ f t (by rw [List.length_drop]; omega), drop_pn]
end Go.Proofs.YtejdmielhaldaaaGreat
