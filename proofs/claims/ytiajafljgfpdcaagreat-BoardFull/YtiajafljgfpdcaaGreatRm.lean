/- The document's Make. -/
import Derived.Test.YtiajafljgfpdcaaGreatKy
namespace Go.Proofs.YtiajafljgfpdcaaGreat
set_option linter.unusedVariables false
open Go.RowKit
/-! ### Mathematics -/
theorem ins_rise {out : List Lb} {x : Lb} {k : Nat} (h : Rise out) (hk : k ≤ out.length) (h1 : ∀ j, j < k → Nlt (out.getD j lb0) x) (h2 : k < out.length → Nlt x (out.getD k lb0)) : Rise (out.take k ++ x :: out.drop k) := by
  refine rise_insert (by rw [List.take_append_drop]; exact h) (fun b hb => ?_) (fun b hb => ?_)
  · obtain ⟨j, hj, rfl⟩ := List.mem_iff_getElem.1 hb
    rw [List.length_take] at hj
    have := h1 j (by omega)
    rw [List.getD_eq_getElem?_getD, List.getElem?_eq_getElem (by omega)] at this
    rw [List.getElem_take]
    exact this
  · by_cases hl : k < out.length
    · have hx := h2 hl
      have hd : out.drop k = out.getD k lb0 :: out.drop (k + 1) := by
        rw [List.drop_eq_getElem_cons hl]; simp [hl]
      rw [hd] at hb
      rcases List.mem_cons.1 hb with rfl | hb
      · exact hx
      · have hr : Rise (out.drop k) := List.Pairwise.sublist (List.drop_sublist k out) h
        rw [hd] at hr
        exact hx.trans (hr.head b hb)
    · rw [List.drop_eq_nil_iff.2 (by omega)] at hb; cases hb
theorem ins_perm {out m : List Lb} {x : Lb} {k : Nat} (h : out.Perm m) : (out.take k ++ x :: out.drop k).Perm (m ++ [x]) := by
  refine (perm_insert _ _ _).trans ?_
  rw [List.take_append_drop]
  exact h.append_right _
theorem there_apart {l out : List Lb} {i k : Nat} (h : out.Perm (l.take i)) (hi : i < l.length) (hk : k < out.length) (e : (out.getD k lb0).name = (l.getD i lb0).name) : ¬ Apart l := by
  intro ha
  have hm : out.getD k lb0 ∈ l.take i := h.mem_iff.1 (getD_mem out lb0 k hk)
  obtain ⟨j, hj, he⟩ := List.mem_iff_getElem.1 hm
  rw [List.length_take] at hj
  unfold Apart at ha
  rw [List.pairwise_iff_getElem] at ha
  have := ha j i (by omega) hi (by omega)
  refine this ?_
  rw [List.getElem_take] at he
  rw [he, e, List.getD_eq_getElem?_getD, List.getElem?_eq_getElem hi]
  rfl
theorem nlt_of {x y : Lb} (h1 : ¬ Nlt x y) (h2 : x.name ≠ y.name) : Nlt y x := by
  rcases nlt_total x y with h | h | h
  · exact absurd h h1
  · exact absurd h h2
  · exact h
/-! ### Slices of labels -/
theorem elem24 : Tryz.prog.underlying 24 = some (.slice (Tryz.prog.elem 24)) := by kernel_rfl
theorem size24 (W : World) : (sizeOf (Tryz.prog.elem 24)).run Tryz.prog W = .ok 2 W := by kernel_rfl
/-- v[k:], k within the length. -/
theorem lbs_from {w : World} {v : Value} {l : List Lb} (hv : Lbs w v l) (k : Nat) (hk : k ≤ l.length) :
    ∃ v2, (∀ W, (Instr.slice 24 v (some (.int .i64 (k : Int))) none none).run Tryz.prog W = .ok v2 W) ∧ Lbs w v2 (l.drop k) := by
  obtain ⟨a, c, rfl, ⟨hn, hc⟩, h1⟩ := hv
  refine ⟨sliced a k l.length c 2, fun W => ?_, ⟨if c = k then a else a.map (·.add (k * 2)), c - k, by simp only [sliced, List.length_drop], ⟨fun e => ?_, by simp; omega⟩, ?_⟩⟩
  · rw [run_slice_l W 24 a l.length c elem24 .i64 k (by omega) (by omega), size24]; simp [Result.andThen]
  · by_cases h : c = k
    · omega
    · rw [if_neg h] at e
      simp at e; have := hn e; omega
  · rcases h1 with rfl | ⟨b, o, rfl, hr⟩
    · exact .inl (by simp)
    · by_cases h : k = l.length
      · exact .inl (by simp [h])
      · refine .inr ⟨b, o + k * 2, ?_, fun t ht => ?_⟩
        · rw [if_neg (by omega)]; simp [add_at]
        · rw [List.length_drop] at ht
          have := hr (k + t) (by omega)
          rw [show (l.drop k).getD t encL.d = l.getD (k + t) encL.d by rw [List.getD_eq_getElem?_getD, List.getD_eq_getElem?_getD, List.getElem?_drop]]
          intro i u hu
          have h3 := this i u hu
          rw [← h3]
          congr 2
          show o + k * 2 + t * 2 + i = o + (k + t) * 2 + i
          omega
/-- append(s, x...) inside a region that draws, x nil or not. -/
theorem stepN {α : Type} {E : Enc α} (T : RowTy E) {ops : Array Oper} {o : Oper} {a : Act} {w : World} {K : Act → World → Prop} {Q : Exit → Act → World → Prop} {F : Prop} (hg : o.guard = none) (s x : Operand)
    (hop : o.op = Op.call { callee := Callee.builtin Builtin.append, args := #[s, x], argTypes := #[T.st, T.st] }) (base : Nat) (v u : Value) (l m : List α) (hs : a.eval s = v) (hx : a.eval x = u)
    (hown : OwnS T w base v l) (hm : Sls E w u m) (hbase : base ≤ w.heap.size) (hlen : l.length + m.length ≤ 1000000000)
    (h : ∀ v' w', OwnS T w' base v' (l ++ m) → w.grownBy w' v.ownBlock → K (a.put o.dst v') w') : if Region.wanted o (yielded ops a.tmps) = true then Oper.wp Tryz.prog o a w K Q else F := by
  obtain ⟨ad, c, rfl, hnil, hcell⟩ := hm
  cases ad with
  | none =>
    have hms : m = [] := by
      rcases hcell with hcell | ⟨_, _, e, _⟩
      · exact hcell
      · cases e
    subst hms
    obtain rfl := hnil.1 rfl
    have hw : Region.wanted o (yielded ops a.tmps) = true := by simp [Region.wanted, hg]
    rw [if_pos hw]
    obtain ⟨i0, hi, hz0, hz1, hz2⟩ := info_parts T.hi
    have hrun := run_append_owned_none (P := Tryz.prog) (w := w) base T.st o.type T.et i0 E.k T.hu hi v l.length (flat E l) hown
    have hx' : a.eval x = .slice none 0 0 := hx
    unfold Oper.wp
    simp [execOp, hop, resolve, invoke, builtin, hs, hx', hrun, Result.andThen]
    exact h v w (by simpa using hown) (grown_refl _ _)
  | some ad => exact stepR T hg s x hop base v ad m.length c l m hs hx hown ⟨_, _, rfl, hnil, hcell⟩ hbase hlen h
theorem Sls.kept {α : Type} {E : Enc α} {w w' : World} {g o n c : Nat} {r : Option Nat} {l : List α} (h : Sls E w (.slice (some ⟨g, o, none⟩) n c) l) (hg : w.grownBy w' r) (hne : some g ≠ r) : Sls E w' (.slice (some ⟨g, o, none⟩) n c) l := by
  obtain ⟨a, c', e, hn, h⟩ := h
  refine ⟨a, c', e, hn, ?_⟩
  rcases h with h | ⟨b, o', e2, h⟩
  · exact .inl h
  · cases e
    cases e2
    refine .inr ⟨g, o, rfl, fun t ht i u hu => ?_⟩
    have h1 := h t ht i u hu
    have hlt := World.block_lt_of_cell? w _ h1
    rw [← h1]
    simp only [World.cell?, hg.block g hlt hne]
theorem lbs_to {w : World} {v : Value} {l : List Lb} (hv : Lbs w v l) (k : Nat) (hk : k ≤ l.length) :
    ∃ v2, (∀ W, (Instr.slice 24 v none (some (.int .i64 (k : Int))) none).run Tryz.prog W = .ok v2 W) ∧ Lbs w v2 (l.take k) := by
  obtain ⟨a, c, rfl, ⟨hn, hc⟩, h1⟩ := hv
  refine ⟨sliced a 0 k c 2, fun W => ?_, ⟨if c = 0 then a else a.map (·.add (0 * 2)), c - 0, by simp only [sliced, List.length_take, Nat.min_eq_left hk, Nat.sub_zero], ⟨fun e => ?_, by simp; omega⟩, ?_⟩⟩
  · rw [run_slice_h W 24 a l.length c elem24 .i64 k (by omega) (by omega), size24]; simp [Result.andThen]
  · by_cases h : c = 0
    · omega
    · rw [if_neg h] at e
      simp at e; have := hn e; omega
  · rcases h1 with rfl | ⟨b, o, rfl, hr⟩
    · exact .inl (by simp)
    · by_cases h : k = 0
      · exact .inl (by simp [h])
      · refine .inr ⟨b, o, ?_, fun t ht => ?_⟩
        · rw [if_neg (by omega)]; simp [add_at]
        · rw [List.length_take] at ht
          have := hr t (by omega)
          rw [show (l.take k).getD t encL.d = l.getD t encL.d by rw [List.getD_eq_getElem?_getD, List.getD_eq_getElem?_getD, List.getElem?_take_of_lt (by omega)]]
          exact this
end Go.Proofs.YtiajafljgfpdcaaGreat
