/- Steps: rows of them; cmp.Compare at texts. -/
import Derived.Test.YtaffplmfnincfaaGreatDoorOa
import Derived.Test.YtaffplmfnincfaaGreatDoorNmQb
import Derived.Shelf.SlSortCmp.QuietGrown
namespace Go.Proofs.YtaffplmfnincfaaGreatDoor
set_option linter.unusedVariables false
open Go.RowKit Go.Sort Go.Shelf
/-- A step as it lies in a row: its ref, where its inputs are, which they are. -/
structure Sx where
  ref : ByteArray
  a : Option Addr
  n : Nat
  c : Nat
  inp : List ByteArray
def sx0 : Sx := ⟨⟨#[]⟩, none, 0, 0, []⟩
def encX : Enc Sx where
  arr x := [.string x.ref, .slice x.a x.n x.c]
  d := sx0
  k := 2
  len _ := rfl
  one _ u hu := by simp at hu; rcases hu with rfl | rfl <;> rfl
  pos := by decide
def TX : RowTy encX where
  st := 49
  et := 56
  z := .agg #[.string ⟨#[]⟩, .slice none 0 0]
  bytes := 40
  hu := Tryz.underlying49
  hi := by kernel_rfl
  hz := rfl
  hb := by decide
abbrev OwnX := OwnS TX
abbrev sxC (x : Sx) : Array Value := #[.string x.ref, .slice x.a x.n x.c]
abbrev sxV (x : Sx) : Value := .agg (sxC x)
/-- The step. -/
def sqOf (x : Sx) : Sq := (x.ref, x.inp)
/-- Its inputs lie where it says, in no cell of block g. -/
def SxOk (w : World) (g : Nat) (x : Sx) : Prop := Txs w (.slice x.a x.n x.c) x.inp ∧ ∀ ad, x.a = some ad → ad.block ≠ g
def LxOk (w : World) (g : Nat) (L : List Sx) : Prop := ∀ x ∈ L, SxOk w g x
theorem SxOk.grow {w w' : World} {g : Nat} {x : Sx} (h : SxOk w g x) (hb : Below w.heap.size w w') : SxOk w' g x := ⟨h.1.grow hb, h.2⟩
theorem LxOk.grow {w w' : World} {g : Nat} {L : List Sx} (h : LxOk w g L) (hb : Below w.heap.size w w') : LxOk w' g L := fun x hx => (h x hx).grow hb
theorem SxOk.keep {w w' : World} {g : Nat} {x : Sx} (h : SxOk w g x) (hg : ∀ k, k < w.heap.size → k ≠ g → w'.heap[k]? = w.heap[k]?) : SxOk w' g x := by
  refine ⟨?_, h.2⟩
  obtain ⟨a, c, e, hn, hc⟩ := id h.1
  refine ⟨a, c, e, hn, ?_⟩
  rcases hc with hc | ⟨b, o', rfl, hc⟩
  · exact .inl hc
  · injection e with e1 e2 e3
    have hne := h.2 _ e1
    refine .inr ⟨b, o', rfl, fun t ht i y hy => ?_⟩
    have hcell := hc t ht i y hy
    have hb : b < w.heap.size := World.block_lt_of_cell? w _ hcell
    rw [← hcell]
    unfold World.cell?
    rw [hg b hb hne]
theorem SxOk.kept {w w' : World} {g : Nat} {x : Sx} (h : SxOk w g x) (hg : w.grownBy w' (some g)) : SxOk w' g x := h.keep fun k hk hne => hg.block k hk fun e => hne (by injection e with e)
theorem LxOk.kept {w w' : World} {g : Nat} {L : List Sx} (h : LxOk w g L) (hg : w.grownBy w' (some g)) : LxOk w' g L := fun x hx => (h x hx).kept hg
theorem flatX_set (xs : List Sx) (j : Nat) (x : Sx) : flat encX (xs.set j x) = ((flat encX xs).set (j * 2) (.string x.ref)).set (j * 2 + 1) (.slice x.a x.n x.c) := by
  induction xs generalizing j with
  | nil => simp [flat]
  | cons a r ih =>
    cases j with
    | zero => rfl
    | succ j =>
      show encX.arr a ++ flat encX (r.set j x) = (((encX.arr a ++ flat encX r)).set ((j + 1) * 2) _).set ((j + 1) * 2 + 1) _
      rw [ih, show (j + 1) * 2 = j * 2 + 1 + 1 by omega]
      rfl
theorem own_storeX {w : World} {base g n cap : Nat} {xs : List Sx} (h : OwnX w base (.slice (some ⟨g, 0, none⟩) n cap) xs) (hn : n = xs.length) (j : Nat) (x : Sx) : OwnX ((w.setCell ⟨g, j * 2, none⟩ (.string x.ref)).setCell ⟨g, j * 2 + 1, none⟩ (.slice x.a x.n x.c)) base (.slice (some ⟨g, 0, none⟩) n cap) (xs.set j x) := by
  subst hn
  have h1 := (World.ownsRow.stored h (j * 2) (.string x.ref)).1
  have h2 := (World.ownsRow.stored h1 (j * 2 + 1) (.slice x.a x.n x.c)).1
  unfold OwnX OwnS
  rw [List.length_set, flatX_set]
  exact h2
section
variable {α : Type} {E : Enc α}
theorem flat_getAt (l : List α) (j : Nat) (hj : j < l.length * E.k) : (flat E l)[j]? = (E.arr (l.getD (j / E.k) E.d))[j % E.k]? := by
  have h1 : j / E.k < l.length := (Nat.div_lt_iff_lt_mul E.pos).2 hj
  have h2 := flat_get (E := E) l (j / E.k) (j % E.k) h1 (Nat.mod_lt _ E.pos)
  rw [Nat.div_add_mod' j E.k] at h2
  exact h2
theorem made_flat (z : Value) (n : Nat) (hz : E.arr E.d = z.cells.toList) : (madeCells z.cells (n * E.k)).toList = flat E (List.replicate n E.d) := by
  have hk : z.cells.size = E.k := by rw [← Array.length_toList, ← hz, E.len]
  apply List.ext_getElem?
  intro j
  by_cases hj : j < n * E.k
  · rw [flat_getAt _ j (by rw [List.length_replicate]; exact hj)]
    have hm : j % E.k < z.cells.size := by rw [hk]; exact Nat.mod_lt _ E.pos
    have hd : (List.replicate n E.d).getD (j / E.k) E.d = E.d := by
      rw [List.getD_eq_getElem?_getD, List.getElem?_replicate]
      split <;> rfl
    rw [hd, hz]
    simp [madeCells, hj, hk]
    rw [Array.getElem?_eq_getElem hm]
    congr 1
    exact getElem!_pos z.cells (j % E.k) hm
  · rw [List.getElem?_eq_none (by simp [madeCells]; omega), List.getElem?_eq_none (by rw [flat_len, List.length_replicate]; omega)]
/-- make([]T, n). -/
theorem run_makeR (T : RowTy E) (n : Nat) (hn : n ≤ 100000000) (w : World) : (Instr.makeSlice T.st (.int .i64 (n : Int)) (.int .i64 (n : Int))).run Tryz.prog w = .ok (.slice (some ⟨w.heap.size, 0, none⟩) n n) (w.alloc (.cells (madeCells T.z.cells (n * E.k)) T.et)) := by
  obtain ⟨i0, hi, hz0, hz1, hz2⟩ := info_parts T.hi
  have hb : T.bytes * n ≤ 200 * 100000000 := Nat.mul_le_mul T.hb hn
  have := run_make (P := Tryz.prog) w T.st T.et i0 T.z T.hu hi hz0 .i64 .i64 (n : Int) (n : Int) (by omega) (Int.le_refl _) (by rw [hz2, ← Int.natCast_mul]; omega) (by omega)
  rw [hz1] at this
  simpa using this
theorem own_madeR (T : RowTy E) (hz : E.arr E.d = T.z.cells.toList) (w : World) (n : Nat) (hn : n ≤ 100000000) : OwnS T (w.alloc (.cells (madeCells T.z.cells (n * E.k)) T.et)) w.heap.size (.slice (some ⟨w.heap.size, 0, none⟩) n n) (List.replicate n E.d) := by
  have h := World.ownsRow_lit w (base := w.heap.size) (e := T.et) (size := E.k) (madeCells T.z.cells (n * E.k)) n (Nat.le_refl _) (by unfold maxLen; omega) (size_madeCells _ _)
  unfold OwnS
  rw [List.length_replicate, ← made_flat T.z n hz]
  exact h
/-- A cell of the row. -/
theorem OwnS.cellR {T : RowTy E} {w : World} {base g n cap : Nat} {xs : List α} (h : OwnS T w base (.slice (some ⟨g, 0, none⟩) n cap) xs) (hn : n = xs.length) (t i : Nat) (ht : t < n) (hi : i < E.k) : w.cell? ⟨g, t * E.k + i, none⟩ = (E.arr (xs.getD t E.d))[i]? ∧ w.frozen? ⟨g, t * E.k + i, none⟩ = false := by
  subst hn
  refine ⟨?_, World.ownsRow.frozenAt h _⟩
  have h2 : t * E.k + i < xs.length * E.k := by
    have := Nat.mul_le_mul_right E.k (Nat.succ_le_of_lt ht)
    rw [Nat.succ_mul] at this
    omega
  rw [World.ownsRow.cellAt h _ h2]
  exact flat_get xs t i ht hi
end
theorem own_cellX {w : World} {base g n cap : Nat} {xs : List Sx} (h : OwnX w base (.slice (some ⟨g, 0, none⟩) n cap) xs) (hn : n = xs.length) (j : Nat) (hj : j < n) :
    (w.cell? ⟨g, j * 2, none⟩ = some (.string (xs.getD j sx0).ref) ∧ w.cell? ⟨g, j * 2 + 1, none⟩ = some (.slice (xs.getD j sx0).a (xs.getD j sx0).n (xs.getD j sx0).c)) ∧ (w.frozen? ⟨g, j * 2, none⟩ = false ∧ w.frozen? ⟨g, j * 2 + 1, none⟩ = false) := by
  obtain ⟨c0, f0⟩ := h.cellR hn j 0 hj (by decide)
  obtain ⟨c1, f1⟩ := h.cellR hn j 1 hj (by decide)
  exact ⟨⟨c0, c1⟩, f0, f1⟩
def padX (l : List Sx) (n : Nat) : List Sx := l ++ List.replicate (n - l.length) sx0
theorem padX_len (l : List Sx) (n : Nat) (h : l.length ≤ n) : (padX l n).length = n := by unfold padX; rw [List.length_append, List.length_replicate]; omega
theorem padX_set (l : List Sx) (n : Nat) (h : l.length < n) (y : Sx) : (padX l n).set l.length y = padX (l ++ [y]) n := by
  unfold padX
  rw [List.set_append_right _ _ (Nat.le_refl _), Nat.sub_self, List.length_append, show n - l.length = (n - (l.length + 1)) + 1 by omega, List.replicate_succ, List.append_assoc]
  rfl
theorem padX_full (l : List Sx) : padX l l.length = l := by simp [padX]
set_option maxRecDepth 100000 in
set_option maxHeartbeats 1000000 in
theorem nan63 (a : ByteArray) (w : World) : Calls Tryz.prog 63 #[.string a] w fun e w' => e = .returned (.bool false) ∧ w' = w := by
  go_enter Tryz.func63, Tryz.ntmps63
  go_wp2
  go_ret
  exact ⟨rfl, rfl⟩
set_option maxRecDepth 100000 in
set_option maxHeartbeats 1000000 in
/-- cmp.Compare at texts. -/
theorem cmp44 (a b : ByteArray) (w : World) : Calls Tryz.prog 44 #[.string a, .string b] w fun e w' => e = .returned (.int .i64 (cmpL (numsS a) (numsS b))) ∧ w' = w := by
  have h1 := less_cmp a b
  have h2 := less_cmp b a
  have n1 := fun W => nan63 a W
  have n2 := fun W => nan63 b W
  rw [cmpL_neg (numsS a) (numsS b)] at h2
  rcases cmpL_in (numsS a) (numsS b) with h | h | h
  · rw [h] at h1 h2 ⊢
    replace h1 : Op.bytesLess a.toList b.toList = true := h1.trans (by decide)
    replace h2 : Op.bytesLess b.toList a.toList = false := h2.trans (by decide)
    clear h
    go_enter Tryz.func44, Tryz.ntmps44
    go_wp2_with (first | (go_at_call 63; (first | (with_reducible refine (n1 _).mono ?_) | (with_reducible refine (n2 _).mono ?_)); rintro e wx ⟨rfl, hwx⟩; subst wx))
    go_ret
    exact ⟨rfl, rfl⟩
  · have he : (a.toList == b.toList) = true := by rw [numsS_inj (cmpL_eq h)]; simp
    rw [h] at h1 h2 ⊢
    replace h1 : Op.bytesLess a.toList b.toList = false := h1.trans (by decide)
    replace h2 : Op.bytesLess b.toList a.toList = false := h2.trans (by decide)
    clear h
    go_enter Tryz.func44, Tryz.ntmps44
    go_wp2_with (first | (go_at_call 63; (first | (with_reducible refine (n1 _).mono ?_) | (with_reducible refine (n2 _).mono ?_)); rintro e wx ⟨rfl, hwx⟩; subst wx))
    go_ret
    exact ⟨rfl, rfl⟩
  · have he : (a.toList == b.toList) = false := toList_ne fun e => by rw [e, cmpL_self] at h; omega
    rw [h] at h1 h2 ⊢
    replace h1 : Op.bytesLess a.toList b.toList = false := h1.trans (by decide)
    replace h2 : Op.bytesLess b.toList a.toList = true := h2.trans (by decide)
    clear h
    go_enter Tryz.func44, Tryz.ntmps44
    go_wp2_with (first | (go_at_call 63; (first | (with_reducible refine (n1 _).mono ?_) | (with_reducible refine (n2 _).mono ?_)); rintro e wx ⟨rfl, hwx⟩; subst wx))
    go_ret
    exact ⟨rfl, rfl⟩
set_option maxRecDepth 100000 in
set_option maxHeartbeats 1000000 in
/-- The closure. -/
theorem clos43 (x y : Sx) (w : World) : Calls Tryz.prog 43 #[.agg #[.string x.ref, .slice x.a x.n x.c], .agg #[.string y.ref, .slice y.a y.n y.c]] w fun e w' => e = .returned (.int .i64 (cmpL (numsS x.ref) (numsS y.ref))) ∧ ∃ q os, w' = grow (w.drewN q) os := by
  have hc := cmp44 x.ref y.ref ((w.alloc (.cells #[.string x.ref, .slice x.a x.n x.c] 56)).alloc (.cells #[.string y.ref, .slice y.a y.n y.c] 56))
  generalize cmpL (numsS x.ref) (numsS y.ref) = C at *
  go_enter Tryz.func43, Tryz.ntmps43
  go_wp2_with (first | (go_at_call 44; refine hc.mono ?_; rintro e wx ⟨rfl, hwx⟩; subst wx))
  go_ret
  refine ⟨rfl, 0, #[.cells #[.string x.ref, .slice x.a x.n x.c] 56] ++ #[.cells #[.string y.ref, .slice y.a y.n y.c] 56], ?_⟩
  rw [alloc_eq_grow, alloc_eq_grow, grow_grow]
  rfl
end Go.Proofs.YtaffplmfnincfaaGreatDoor
