/- Sb; Sc; Sd. -/
import Derived.Test.YtdhlfpgibfaimaaGreatDoorSa
import Derived.Test.YtdhlfpgibfaimaaGreatDoorRm
import Derived.Laws.OwnMore
import Derived.Laws.MakeOwn
import Derived.Deep.OwnRows
/- Slices of points; series.sum. -/
namespace Go.Proofs.YtdhlfpgibfaimaaGreatDoor
set_option linter.unusedVariables false
open Go.RowKit
theorem row2V (w : World) (a b : Vl) : Vls (w.alloc (.cells #[.int .i64 a.kind, .int .i64 a.n, .int .i64 b.kind, .int .i64 b.n] 24)) (.slice (some ⟨w.heap.size, 0, none⟩) 2 2) [a, b] := by
  refine ⟨_, _, rfl, .inr ⟨_, _, rfl, fun t ht => ?_⟩⟩
  have h : (w.alloc (.cells #[.int .i64 a.kind, .int .i64 a.n, .int .i64 b.kind, .int .i64 b.n] 24)).heap[w.heap.size]? = some (.cells #[.int .i64 a.kind, .int .i64 a.n, .int .i64 b.kind, .int .i64 b.n] 24) := by
    show (w.heap.push _)[w.heap.size]? = _; simp
  have ht2 : t = 0 ∨ t = 1 := by simp at ht; omega
  unfold VAt World.cell?
  rw [h]
  rcases ht2 with rfl | rfl <;> simp
/-- series.do of two values in a fresh row, a block more behind the world at hand. -/
theorem sdo2 (op : ByteArray) (a b : Vl) (w : World) (o : Obj) : Calls Tryz.prog 118 #[.string op, .slice (some ⟨w.heap.size + 1, 0, none⟩) 2 2] ((w.alloc o).alloc (.cells #[.int .i64 a.kind, .int .i64 a.n, .int .i64 b.kind, .int .i64 b.n] 24)) fun e w' => e = .returned (.agg #[.int .i64 (doV op [a, b]).kind, .int .i64 (doV op [a, b]).n]) ∧ Below w.heap.size w w' := by
  have h := sdo_any op _ [a, b] _ (row2V (w.alloc o) a b) (by simp)
  rw [World.size_alloc] at h
  exact h.mono fun e w' ⟨h, hb⟩ => ⟨h, ((bW0 w o).alloc (by simp) _).trans (hb.mono (by simp; omega))⟩
def plusV (t : Vl) (p : Pn) : Vl := doV ⟨#[43]⟩ [t, p.v]
/-- The sum of points. -/
def sumV : List Pn → Vl
  | [] => zer
  | p :: r => r.foldl plusV p.v
theorem fold_take (m : List Pn) (t : Vl) (k : Nat) (h : k < m.length) : (m.take (k + 1)).foldl plusV t = plusV ((m.take k).foldl plusV t) (m.getD k pn0) := by
  rw [List.take_succ_eq_append_getElem h, List.foldl_append, List.getD_eq_getElem?_getD, List.getElem?_eq_getElem h]
  rfl
/-! ### A point in a box -/
section
variable {w w' : World} {x : Nat} {p q : Pn}
theorem belThree {W : World} {n : Nat} (a b c : Value) (h : Below n w W) (hx : n ≤ x) : Below n w (((W.setCell ⟨x, 0, none⟩ a).setCell ⟨x, 1, none⟩ b).setCell ⟨x, 2, none⟩ c) :=
  ((h.setCell (p := ⟨x, 0, none⟩) hx a).setCell (p := ⟨x, 1, none⟩) hx b).setCell (p := ⟨x, 2, none⟩) hx c
theorem keep3 {y : Nat} (a b c : Value) (h : y ≠ x) : (((w.setCell ⟨x, 0, none⟩ a).setCell ⟨x, 1, none⟩ b).setCell ⟨x, 2, none⟩ c).heap[y]? = w.heap[y]? :=
  (Below.heap_setCell _ _ _ _ h).trans ((Below.heap_setCell _ _ _ _ h).trans (Below.heap_setCell _ _ _ _ h))
end
/-- The one that counts, of two. -/
def later (f p : Pn) : Pn := if f.at' ≤ p.at' then p else f
def lastP (l : List Pn) : Pn := l.foldl later (l.getD 0 pn0)
theorem fold_take2 (g : Pn → Pn → Pn) (m : List Pn) (t : Pn) (k : Nat) (h : k < m.length) : (m.take (k + 1)).foldl g t = g ((m.take k).foldl g t) (m.getD k pn0) := by
  rw [List.take_succ_eq_append_getElem h, List.foldl_append, List.getD_eq_getElem?_getD, List.getElem?_eq_getElem h]
  rfl
end Go.Proofs.YtdhlfpgibfaimaaGreatDoor
/- series.utmost. -/
namespace Go.Proofs.YtdhlfpgibfaimaaGreatDoor
set_option linter.unusedVariables false
open Go.RowKit
/-- The same, and the box ahead of the row is kept. -/
theorem sdo2b (op : ByteArray) (a b : Vl) (w : World) (o : Obj) : Calls Tryz.prog 118 #[.string op, .slice (some ⟨w.heap.size + 1, 0, none⟩) 2 2] ((w.alloc o).alloc (.cells #[.int .i64 a.kind, .int .i64 a.n, .int .i64 b.kind, .int .i64 b.n] 24)) fun e w' => e = .returned (.agg #[.int .i64 (doV op [a, b]).kind, .int .i64 (doV op [a, b]).n]) ∧ Below (w.alloc o).heap.size (w.alloc o) w' := by
  have h := sdo_any op _ [a, b] _ (row2V (w.alloc o) a b) (by simp)
  rw [World.size_alloc] at h
  exact h.mono fun e w' ⟨h, hb⟩ => ⟨h, (bW0 (w.alloc o) _).trans (hb.mono (by simp))⟩
/-- The one that op holds of, of two. -/
def utP (op : ByteArray) (f : Vl) (p : Pn) : Vl := if truB (doV op [p.v, f]) = true then p.v else f
def utV (op : ByteArray) (l : List Pn) : Vl := l.foldl (utP op) (l.getD 0 pn0).v
theorem fold_take3 (g : Vl → Pn → Vl) (m : List Pn) (t : Vl) (k : Nat) (h : k < m.length) : (m.take (k + 1)).foldl g t = g ((m.take k).foldl g t) (m.getD k pn0) := by
  rw [List.take_succ_eq_append_getElem h, List.foldl_append, List.getD_eq_getElem?_getD, List.getElem?_eq_getElem h]
  rfl
end Go.Proofs.YtdhlfpgibfaimaaGreatDoor
/- Rows that are made and stored into, of elements of some cells; series.valuesOf. -/
namespace Go.Proofs.YtdhlfpgibfaimaaGreatDoor
set_option linter.unusedVariables false
open Go.RowKit
section
variable {α : Type} {E : Enc α}
theorem flat_getAt (l : List α) (j : Nat) (hj : j < l.length * E.k) : (flat E l)[j]? = (E.arr (l.getD (j / E.k) E.d))[j % E.k]? := by
  have h1 : j / E.k < l.length := (Nat.div_lt_iff_lt_mul E.pos).2 hj
  have h2 := flat_get (E := E) l (j / E.k) (j % E.k) h1 (Nat.mod_lt _ E.pos)
  rw [Nat.div_add_mod' j E.k] at h2
  exact h2
theorem made_flat (z : Value) (n : Nat) (hz : E.arr E.d = z.cells.toList) : (madeCells z.cells (n * E.k)).toList = flat E (List.replicate n E.d) := by
  have hk : z.cells.size = E.k := by rw [← Array.length_toList, ← hz, E.len]
  apply List.ext_getElem?
  intro j
  by_cases hj : j < n * E.k
  · rw [flat_getAt _ j (by rw [List.length_replicate]; exact hj)]
    have hm : j % E.k < z.cells.size := by rw [hk]; exact Nat.mod_lt _ E.pos
    have hd : (List.replicate n E.d).getD (j / E.k) E.d = E.d := by
      rw [List.getD_eq_getElem?_getD, List.getElem?_replicate]
      split <;> rfl
    rw [hd, hz]
    simp [madeCells, hj, hk]
    rw [Array.getElem?_eq_getElem hm]
    congr 1
    exact getElem!_pos z.cells (j % E.k) hm
  · rw [List.getElem?_eq_none (by simp [madeCells]; omega), List.getElem?_eq_none (by rw [flat_len, List.length_replicate]; omega)]
/-- make([]T, n). -/
theorem run_makeR (T : RowTy E) (n : Nat) (hn : n ≤ 1000000000) (w : World) : (Instr.makeSlice T.st (.int .i64 (n : Int)) (.int .i64 (n : Int))).run Tryz.prog w = .ok (.slice (some ⟨w.heap.size, 0, none⟩) n n) (w.alloc (.cells (madeCells T.z.cells (n * E.k)) T.et)) := by
  obtain ⟨i0, hi, hz0, hz1, hz2⟩ := info_parts T.hi
  have hb : T.bytes * n ≤ 64 * 1000000000 := Nat.mul_le_mul T.hb hn
  have := run_make (P := Tryz.prog) w T.st T.et i0 T.z T.hu hi hz0 .i64 .i64 (n : Int) (n : Int) (by omega) (Int.le_refl _) (by rw [hz2, ← Int.natCast_mul]; omega) (by omega)
  rw [hz1] at this
  simpa using this
theorem own_madeR (T : RowTy E) (hz : E.arr E.d = T.z.cells.toList) (w : World) (n : Nat) (hn : n ≤ 1000000000) : OwnS T (w.alloc (.cells (madeCells T.z.cells (n * E.k)) T.et)) w.heap.size (.slice (some ⟨w.heap.size, 0, none⟩) n n) (List.replicate n E.d) := by
  have h := World.ownsRow_lit w (base := w.heap.size) (e := T.et) (size := E.k) (madeCells T.z.cells (n * E.k)) n (Nat.le_refl _) (by unfold maxLen; omega) (size_madeCells _ _)
  unfold OwnS
  rw [List.length_replicate, ← made_flat T.z n hz]
  exact h
/-- A cell of the row. -/
theorem OwnS.cellR {T : RowTy E} {w : World} {base g n cap : Nat} {xs : List α} (h : OwnS T w base (.slice (some ⟨g, 0, none⟩) n cap) xs) (hn : n = xs.length) (t i : Nat) (ht : t < n) (hi : i < E.k) : w.cell? ⟨g, t * E.k + i, none⟩ = (E.arr (xs.getD t E.d))[i]? ∧ w.frozen? ⟨g, t * E.k + i, none⟩ = false := by
  subst hn
  refine ⟨?_, World.ownsRow.frozenAt h _⟩
  have h2 : t * E.k + i < xs.length * E.k := by
    have := Nat.mul_le_mul_right E.k (Nat.succ_le_of_lt ht)
    rw [Nat.succ_mul] at this
    omega
  rw [World.ownsRow.cellAt h _ h2]
  exact flat_get xs t i ht hi
end
/-! ### Rows of values -/
def encV : Enc Vl where
  arr v := [.int .i64 v.kind, .int .i64 v.n]
  d := zer
  k := 2
  len _ := rfl
  one _ u hu := by simp at hu; rcases hu with rfl | rfl <;> rfl
  pos := by decide
def TV : RowTy encV where
  st := 50
  et := 24
  z := .agg #[.int .i64 0, .int .i64 0]
  bytes := 16
  hu := Tryz.underlying50
  hi := by kernel_rfl
  hz := rfl
  hb := by decide
theorem vls_of {w : World} {v : Value} {l : List Vl} (h : Sls encV w v l) : Vls w v l := by
  obtain ⟨a, c, rfl, _, h⟩ := h
  refine ⟨a, c, rfl, ?_⟩
  rcases h with h | ⟨b, o, rfl, h⟩
  · exact .inl h
  · exact .inr ⟨b, o, rfl, fun t ht => ⟨h t ht 0 _ rfl, h t ht 1 _ rfl⟩⟩
theorem flatV_set (xs : List Vl) (j : Nat) (x : Vl) : flat encV (xs.set j x) = ((flat encV xs).set (j * 2) (.int .i64 x.kind)).set (j * 2 + 1) (.int .i64 x.n) := by
  induction xs generalizing j with
  | nil => simp [flat]
  | cons a r ih =>
    cases j with
    | zero => rfl
    | succ j =>
      show encV.arr a ++ flat encV (r.set j x) = (((encV.arr a ++ flat encV r)).set ((j + 1) * 2) _).set ((j + 1) * 2 + 1) _
      rw [ih, show (j + 1) * 2 = j * 2 + 1 + 1 by omega]
      rfl
theorem own_storeV {w : World} {base g n cap : Nat} {xs : List Vl} (h : OwnS TV w base (.slice (some ⟨g, 0, none⟩) n cap) xs) (hn : n = xs.length) (j : Nat) (x : Vl) : OwnS TV ((w.setCell ⟨g, j * 2, none⟩ (.int .i64 x.kind)).setCell ⟨g, j * 2 + 1, none⟩ (.int .i64 x.n)) base (.slice (some ⟨g, 0, none⟩) n cap) (xs.set j x) := by
  subst hn
  have h1 := (World.ownsRow.stored h (j * 2) (.int .i64 x.kind)).1
  have h2 := (World.ownsRow.stored h1 (j * 2 + 1) (.int .i64 x.n)).1
  unfold OwnS
  rw [List.length_set, flatV_set]
  exact h2
def valsP (l : List Pn) : List Vl := l.map (·.v)
def padP (m : List Pn) (k : Nat) : List Vl := valsP (m.take k) ++ List.replicate (m.length - k) zer
theorem padP_len (m : List Pn) (k : Nat) (hk : k ≤ m.length) : (padP m k).length = m.length := by
  unfold padP valsP; rw [List.length_append, List.length_map, List.length_take, List.length_replicate]; omega
theorem padP_zero (m : List Pn) : padP m 0 = List.replicate m.length zer := by simp [padP, valsP]
theorem padP_full (m : List Pn) : padP m m.length = valsP m := by simp [padP]
theorem padP_set (m : List Pn) (k : Nat) (hk : k < m.length) : (padP m k).set k (m.getD k pn0).v = padP m (k + 1) := by
  unfold padP valsP
  have hl : ((m.take k).map (·.v)).length = k := by rw [List.length_map, List.length_take]; omega
  rw [List.set_append_right _ _ (by omega), hl, Nat.sub_self, List.take_succ_eq_append_getElem hk, List.map_append, List.append_assoc, show m.length - k = (m.length - (k + 1)) + 1 by omega, List.replicate_succ, List.getD_eq_getElem?_getD, List.getElem?_eq_getElem hk]
  rfl
end Go.Proofs.YtdhlfpgibfaimaaGreatDoor
