/- A row of jobs in a block of its own; stores into it. -/
import Derived.Test.YtnbhnnjgnojgbaaCl
namespace Go.Proofs.Ytnbhnnjgnojgbaa
set_option linter.unusedVariables false
open Go.RowKit
/-- Block g holds the jobs D, from its beginning on. -/
def RowJ (w : World) (g S : Nat) (D : List Jb) : Prop := ∃ cur : Array Value, w.heap[g]? = some (.cells cur 27 (0, 0)) ∧ cur.size = S ∧ D.length * 7 ≤ S ∧ ∀ t, t < D.length → ∀ j u, (eJb.arr (D.getD t jb0))[j]? = some u → cur[t * 7 + j]? = some u
theorem RowJ.lt {w : World} {g S : Nat} {D : List Jb} (h : RowJ w g S D) : g < w.heap.size := by
  obtain ⟨cur, h1, _⟩ := h
  exact (Array.getElem?_eq_some_iff.1 h1).1
theorem RowJ.keep {w w' : World} {g S : Nat} {D : List Jb} (h : RowJ w g S D) (e : w'.heap[g]? = w.heap[g]?) : RowJ w' g S D := by
  obtain ⟨cur, h1, h2⟩ := h
  exact ⟨cur, e.trans h1, h2⟩
theorem RowJ.grow {w w' : World} {g S : Nat} {D : List Jb} (h : RowJ w g S D) (hb : Below w.heap.size w w') : RowJ w' g S D := h.keep (hb.block g h.lt)
theorem RowJ.cells {w : World} {g S : Nat} {D : List Jb} (h : RowJ w g S D) (t : Nat) (ht : t < D.length) :
    w.cell? ⟨g, t * 7, none⟩ = some (.string (D.getD t jb0).fo) ∧ w.cell? ⟨g, t * 7 + 1, none⟩ = some (.string (D.getD t jb0).gr) ∧ w.cell? ⟨g, t * 7 + 2, none⟩ = some (.int .i64 (D.getD t jb0).id) ∧ w.cell? ⟨g, t * 7 + 3, none⟩ = some (.int .i64 (D.getD t jb0).iv) ∧
    w.cell? ⟨g, t * 7 + 4, none⟩ = some (.int .i64 (D.getD t jb0).off) ∧ w.cell? ⟨g, t * 7 + 5, none⟩ = some (.bool (D.getD t jb0).pa) ∧ w.cell? ⟨g, t * 7 + 6, none⟩ = some (.int .i64 (D.getD t jb0).la) := by
  obtain ⟨cur, h1, _, _, h2⟩ := h
  have key : ∀ j u, (eJb.arr (D.getD t jb0))[j]? = some u → w.cell? ⟨g, t * 7 + j, none⟩ = some u := fun j u hu => by
    unfold World.cell?
    rw [h1]
    exact h2 t ht j u hu
  exact ⟨key 0 _ rfl, key 1 _ rfl, key 2 _ rfl, key 3 _ rfl, key 4 _ rfl, key 5 _ rfl, key 6 _ rfl⟩
theorem RowJ.frozen {w : World} {g S : Nat} {D : List Jb} (h : RowJ w g S D) (i : Nat) : w.frozen? ⟨g, i, none⟩ = false := by
  obtain ⟨cur, h1, _⟩ := h
  simp [World.frozen?, h1]
theorem block_setG {w : World} {g i : Nat} {C : Array Value} {t : TypeId} {u : Value} (h : w.heap[g]? = some (.cells C t (0, 0))) : (w.setCell ⟨g, i, none⟩ u).heap[g]? = some (.cells (C.setIfInBounds i u) t (0, 0)) := by
  unfold World.setCell
  rw [Array.getElem?_modify, if_pos rfl, h]
  rfl
/-- A job laid at place o of block g. -/
abbrev st7 (w : World) (g o : Nat) (x : Jb) : World := ((((((w.setCell ⟨g, o, none⟩ (.string x.fo)).setCell ⟨g, o + 1, none⟩ (.string x.gr)).setCell ⟨g, o + 2, none⟩ (.int .i64 x.id)).setCell ⟨g, o + 3, none⟩ (.int .i64 x.iv)).setCell ⟨g, o + 4, none⟩ (.int .i64 x.off)).setCell ⟨g, o + 5, none⟩ (.bool x.pa)).setCell ⟨g, o + 6, none⟩ (.int .i64 x.la)
theorem st7_size (w : World) (g o : Nat) (x : Jb) : (st7 w g o x).heap.size = w.heap.size := by simp [st7]
theorem st7_below {B g o : Nat} {a w : World} {x : Jb} (h : Below B a w) (hg : B ≤ g) : Below B a (st7 w g o x) :=
  ((((((h.setCell (p := ⟨g, o, none⟩) hg _).setCell (p := ⟨g, o + 1, none⟩) hg _).setCell (p := ⟨g, o + 2, none⟩) hg _).setCell (p := ⟨g, o + 3, none⟩) hg _).setCell (p := ⟨g, o + 4, none⟩) hg _).setCell (p := ⟨g, o + 5, none⟩) hg _).setCell (p := ⟨g, o + 6, none⟩) hg _
theorem st7_row {w : World} {g S : Nat} {D : List Jb} (h : RowJ w g S D) (i : Nat) (hi : i < D.length) (x : Jb) : RowJ (st7 w g (i * 7) x) g S (D.set i x) := by
  obtain ⟨cur, h1, h2, h3, h4⟩ := h
  refine ⟨_, block_setG (block_setG (block_setG (block_setG (block_setG (block_setG (block_setG h1)))))), by simp [h2], by simpa using h3, fun t ht j u hu => ?_⟩
  rw [List.length_set] at ht
  have hj : j < 7 := by
    rcases Nat.lt_or_ge j 7 with h | h
    · exact h
    · rw [List.getElem?_eq_none (by rw [eJb.len]; exact h)] at hu; cases hu
  have hsz : i * 7 + 6 < cur.size := by omega
  simp only [Array.getElem?_setIfInBounds, Array.size_setIfInBounds]
  by_cases e : t = i
  · subst e
    have eg : (D.set t x).getD t jb0 = x := by simp [ht]
    rw [eg] at hu
    match j, hj with
    | 0, _ => cases hu; simp; omega
    | 1, _ => cases hu; simp; omega
    | 2, _ => cases hu; simp; omega
    | 3, _ => cases hu; simp; omega
    | 4, _ => cases hu; simp; omega
    | 5, _ => cases hu; simp; omega
    | 6, _ => cases hu; simp; omega
  · have eg : (D.set i x).getD t jb0 = D.getD t jb0 := by
      simp only [List.getD_eq_getElem?_getD, List.getElem?_set]
      rw [if_neg (by omega)]
    rw [eg] at hu
    have := h4 t ht j u hu
    rw [if_neg (by omega), if_neg (by omega), if_neg (by omega), if_neg (by omega), if_neg (by omega), if_neg (by omega), if_neg (by omega)]
    exact this
/-- Two places exchanged. -/
def swp (D : List Jb) (i j : Nat) : List Jb := (D.set i (D.getD j jb0)).set j (D.getD i jb0)
theorem swp_len (D : List Jb) (i j : Nat) : (swp D i j).length = D.length := by simp [swp]
theorem swp_row {w : World} {g S : Nat} {D : List Jb} (h : RowJ w g S D) (i j : Nat) (hi : i < D.length) (hj : j < D.length) : RowJ (st7 (st7 w g (i * 7) (D.getD j jb0)) g (j * 7) (D.getD i jb0)) g S (swp D i j) :=
  st7_row (st7_row h i hi _) j (by simpa using hj) _
/-- A slice of the call's own, as a row. -/
theorem OwnS.row {w : World} {base : Nat} {v : Value} {D : List Jb} (h : OwnS TJ w base v D) (hD : D ≠ []) : ∃ g c S, v = .slice (some ⟨g, 0, none⟩) D.length c ∧ base ≤ g ∧ RowJ w g S D ∧ ∀ w' D', RowJ w' g S D' → D'.length = D.length → OwnS TJ w' base v D' := by
  obtain ⟨h1, h2⟩ := h
  rcases h2 with ⟨rfl, h0⟩ | ⟨g, cap, cur, rfl, hb, hg, hnc, hcm, hcs, htake⟩
  · exact absurd (List.length_eq_zero_iff.1 h0) hD
  · have hlen : (flat eJb D).length = D.length * 7 := flat_len D
    have hc7 : D.length * 7 ≤ cur.size := by
      have := congrArg List.length htake
      rw [List.length_take, hlen] at this
      have e7 : eJb.k = 7 := rfl
      rw [e7] at *
      simp at this
      omega
    refine ⟨g, cap, cur.size, rfl, hb, ⟨cur, hg, rfl, hc7, fun t ht j u hu => ?_⟩, fun w' D' ⟨cur', k1, k2, k3, k4⟩ hl => ?_⟩
    · have hj : j < 7 := by
        rcases Nat.lt_or_ge j 7 with h | h
        · exact h
        · rw [List.getElem?_eq_none (by rw [eJb.len]; exact h)] at hu; cases hu
      have hf : (flat eJb D)[t * 7 + j]? = (eJb.arr (D.getD t jb0))[j]? := flat_get (E := eJb) D t j ht hj
      rw [hu, ← htake] at hf
      rw [List.getElem?_take_of_lt (by show t * 7 + j < D.length * 7; omega)] at hf
      simpa using hf
    · refine ⟨flat_len D', .inr ⟨g, cap, cur', by rw [hl], hb, k1, by rw [hl]; exact hnc, hcm, by rw [k2]; exact hcs, ?_⟩⟩
      have hlen' : (flat eJb D').length = D'.length * 7 := flat_len D'
      apply List.ext_getElem?
      intro m
      show (cur'.toList.take (D'.length * 7))[m]? = _
      by_cases hm : m < D'.length * 7
      · rw [List.getElem?_take_of_lt hm]
        have ht : m / 7 < D'.length := by omega
        have hj : m % 7 < 7 := Nat.mod_lt _ (by decide)
        have hmm : m / 7 * 7 + m % 7 = m := by omega
        have hf : (flat eJb D')[m / 7 * 7 + m % 7]? = (eJb.arr (D'.getD (m / 7) jb0))[m % 7]? := flat_get (E := eJb) D' (m / 7) (m % 7) ht hj
        rw [hmm] at hf
        rw [hf]
        have hx : m % 7 < (eJb.arr (D'.getD (m / 7) jb0)).length := by rw [eJb.len]; exact hj
        have := k4 (m / 7) ht (m % 7) _ (List.getElem?_eq_getElem hx)
        rw [hmm] at this
        rw [List.getElem?_eq_getElem hx, ← this]
        simp
      · rw [List.getElem?_eq_none (by rw [List.length_take]; omega), List.getElem?_eq_none (by omega)]
end Go.Proofs.Ytnbhnnjgnojgbaa
