/- The document's Sort of series: mathematics, slices of a row. -/
import Derived.Test.YtejdmielhaldaaaGreatUf
namespace Go.Proofs.YtejdmielhaldaaaGreat
set_option linter.unusedVariables false
open Go.RowKit
theorem elem33 : Tryz.prog.underlying 33 = some (.slice (Tryz.prog.elem 33)) := by kernel_rfl
theorem size33 (W : World) : (sizeOf (Tryz.prog.elem 33)).run Tryz.prog W = .ok 3 W := by kernel_rfl
/-- v[k:], k within the length. -/
theorem srs_from {w : World} {v : Value} {l : List Se} (hv : Srs w v l) (k : Nat) (hk : k ≤ l.length) :
    ∃ v2, (∀ W, (Instr.slice 33 v (some (.int .i64 (k : Int))) none none).run Tryz.prog W = .ok v2 W) ∧ Srs w v2 (l.drop k) := by
  obtain ⟨a, c, rfl, ⟨hn, hc⟩, h1⟩ := hv
  refine ⟨sliced a k l.length c 3, fun W => ?_, ⟨if c = k then a else a.map (·.add (k * 3)), c - k, by simp only [sliced, List.length_drop], ⟨fun e => ?_, by simp; omega⟩, ?_⟩⟩
  · rw [run_slice_l W 33 a l.length c elem33 .i64 k (by omega) (by omega), size33]; simp [Result.andThen]
  · by_cases h : c = k
    · omega
    · rw [if_neg h] at e
      simp at e; have := hn e; omega
  · rcases h1 with rfl | ⟨b, o, rfl, hr⟩
    · exact .inl (by simp)
    · by_cases h : k = l.length
      · exact .inl (by simp [h])
      · refine .inr ⟨b, o + k * 3, ?_, fun t ht => ?_⟩
        · rw [if_neg (by omega)]; simp [ladd_at]
        · rw [List.length_drop] at ht
          have := hr (k + t) (by omega)
          rw [show (l.drop k).getD t encR.d = l.getD (k + t) encR.d by rw [List.getD_eq_getElem?_getD, List.getD_eq_getElem?_getD, List.getElem?_drop]]
          intro i u hu
          have h3 := this i u hu
          rw [← h3]
          congr 2
          show o + k * 3 + t * 3 + i = o + (k + t) * 3 + i
          omega
/-- v[:k], k within the length. -/
theorem srs_to {w : World} {v : Value} {l : List Se} (hv : Srs w v l) (k : Nat) (hk : k ≤ l.length) :
    ∃ v2, (∀ W, (Instr.slice 33 v none (some (.int .i64 (k : Int))) none).run Tryz.prog W = .ok v2 W) ∧ Srs w v2 (l.take k) := by
  obtain ⟨a, c, rfl, ⟨hn, hc⟩, h1⟩ := hv
  refine ⟨sliced a 0 k c 3, fun W => ?_, ⟨if c = 0 then a else a.map (·.add (0 * 3)), c - 0, by simp only [sliced, List.length_take, Nat.min_eq_left hk, Nat.sub_zero], ⟨fun e => ?_, by simp; omega⟩, ?_⟩⟩
  · rw [run_slice_h W 33 a l.length c elem33 .i64 k (by omega) (by omega), size33]; simp [Result.andThen]
  · by_cases h : c = 0
    · omega
    · rw [if_neg h] at e
      simp at e; have := hn e; omega
  · rcases h1 with rfl | ⟨b, o, rfl, hr⟩
    · exact .inl (by simp)
    · by_cases h : k = 0
      · exact .inl (by simp [h])
      · refine .inr ⟨b, o, ?_, fun t ht => ?_⟩
        · rw [if_neg (by omega)]; simp [ladd_at]
        · rw [List.length_take] at ht
          have := hr t (by omega)
          rw [show (l.take k).getD t encR.d = l.getD t encR.d by rw [List.getD_eq_getElem?_getD, List.getD_eq_getElem?_getD, List.getElem?_take_of_lt (by omega)]]
          exact this
/-! ### Mathematics -/
theorem sins_rise {out : List Se} {x : Se} {k : Nat} (h : Series10.Rise (out.map serOf)) (hk : k ≤ out.length) (h1 : ∀ j, j < k → Series10.Slt (serOf (out.getD j se0)) (serOf x)) (h2 : k < out.length → Series10.Slt (serOf x) (serOf (out.getD k se0))) : Series10.Rise ((out.take k ++ x :: out.drop k).map serOf) := by
  rw [List.map_append, List.map_cons]
  refine Series10.rise_insert (by rw [← List.map_append, List.take_append_drop]; exact h) (fun b hb => ?_) (fun b hb => ?_)
  · obtain ⟨y, hy, rfl⟩ := List.mem_map.1 hb
    obtain ⟨j, hj, rfl⟩ := List.mem_iff_getElem.1 hy
    rw [List.length_take] at hj
    have := h1 j (by omega)
    rw [List.getD_eq_getElem?_getD, List.getElem?_eq_getElem (by omega)] at this
    rw [List.getElem_take]
    exact this
  · by_cases hl : k < out.length
    · have hx := h2 hl
      have hd : out.drop k = out.getD k se0 :: out.drop (k + 1) := by
        rw [List.drop_eq_getElem_cons hl]; simp [hl]
      rw [hd, List.map_cons] at hb
      rcases List.mem_cons.1 hb with rfl | hb
      · exact hx
      · have hr : Series10.Rise ((out.drop k).map serOf) := by
          rw [List.map_drop]
          exact List.Pairwise.sublist (List.drop_sublist k _) h
        rw [hd, List.map_cons] at hr
        exact hx.trans (hr.head b hb)
    · rw [List.drop_eq_nil_iff.2 (by omega)] at hb; cases hb
theorem sins_perm {out m : List Se} {x : Se} {k : Nat} (h : out.Perm m) : (out.take k ++ x :: out.drop k).Perm (m ++ [x]) := by
  have h1 : (out.take k ++ x :: out.drop k).Perm (x :: (out.take k ++ out.drop k)) := List.perm_middle
  rw [List.take_append_drop] at h1
  exact h1.trans ((h.cons x).trans (List.perm_append_singleton x m).symm)
theorem sthere_apart {l out : List Se} {i k : Nat} (h : out.Perm (l.take i)) (hi : i < l.length) (hk : k < out.length) (e : (out.getD k se0).labs = (l.getD i se0).labs) : ¬ Series10.Apart (l.map serOf) := by
  intro ha
  have hm : out.getD k se0 ∈ l.take i := h.mem_iff.1 (lgetD_mem out se0 k hk)
  obtain ⟨j, hj, he⟩ := List.mem_iff_getElem.1 hm
  rw [List.length_take] at hj
  unfold Series10.Apart at ha
  rw [List.pairwise_iff_getElem] at ha
  have := ha j i (by rw [List.length_map]; omega) (by rw [List.length_map]; exact hi) (by omega)
  rw [List.getElem_map, List.getElem_map] at this
  refine this ?_
  rw [List.getElem_take] at he
  show (l[j]).labs = (l[i]).labs
  rw [he, e, List.getD_eq_getElem?_getD, List.getElem?_eq_getElem hi]
  rfl
theorem slt_of {x y : Series10.Sr} (h1 : ¬ cmpS x.labels y.labels < 0) (h2 : cmpS x.labels y.labels ≠ 0) : Series10.Slt y x := by
  unfold Series10.Slt
  rcases cmpS_in x.labels y.labels with h | h | h
  · omega
  · exact absurd h h2
  · rw [cmpS_neg, h]
/-- What the document's Sort tells: a row of its own, with labels that lie where those of L lie. -/
def RSortR (L : List Se) (w : World) (e : Ending) (w' : World) : Prop :=
  ∃ (vo : Value) (l : List Se) (er : Int), e = .returned (.tuple #[vo, .int .i64 er]) ∧ Series10.SortQ (L.map serOf) (l.map serOf) er ∧ OwnR w' w.heap.size vo l ∧ (∀ x ∈ l, x ∈ L) ∧ Below w.heap.size w w'
end Go.Proofs.YtejdmielhaldaaaGreat
