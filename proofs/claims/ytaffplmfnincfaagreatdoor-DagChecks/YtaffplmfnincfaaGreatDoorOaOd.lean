/- Oa; Ob; Oc; Od. -/
import Derived.Test.YtaffplmfnincfaaGreatDoorLmLk
import Derived.Test.YtaffplmfnincfaaGreatDoorNmQb
import Derived.Shelf.SlSortCmp.QuietGrown
import Derived.Shelf.SlSortCmp.NoneTotal
import Derived.Test.YtaffplmfnincfaaGreatDoorDaDd
import Derived.Test.YtaffplmfnincfaaGreatDoorOgOi
import Derived.Deep.RegionWith
/- Order: mathematics. -/
namespace Go.Proofs.YtaffplmfnincfaaGreatDoor
set_option linter.unusedVariables false
/-- A step: a ref, and what must be told ahead of it. -/
abbrev Sq := ByteArray × List ByteArray
/-- One text ahead of another. -/
def bltS (a b : ByteArray) : Prop := cmpL (numsS a) (numsS b) = -1
theorem bltS.trans {a b c : ByteArray} (h : bltS a b) (g : bltS b c) : bltS a c := cmpL_trans h g
theorem bltS.ne {a b : ByteArray} (h : bltS a b) : a ≠ b := fun e => by
  unfold bltS at h
  rw [e, cmpL_self] at h
  omega
theorem bltS.asymm {a b : ByteArray} (h : bltS a b) : ¬ bltS b a := fun g => (h.trans g).ne rfl
theorem bltS_total {a b : ByteArray} (h : a ≠ b) : bltS a b ∨ bltS b a := by
  unfold bltS
  rcases cmpL_in (numsS a) (numsS b) with e | e | e
  · exact .inl e
  · exact absurd (numsS_inj (cmpL_eq e)) h
  · refine .inr ?_
    rw [cmpL_neg, e]
def SRise (l : List Sq) : Prop := l.Pairwise fun a b => bltS a.1 b.1
theorem srise_eq : ∀ {l m : List Sq}, SRise l → SRise m → l.Perm m → l = m
  | [], m, _, _, p => by rw [List.nil_perm.1 p]
  | x :: l, [], _, _, p => by have := List.perm_nil.1 p; cases this
  | x :: l, y :: m, hl, hm, p => by
    have hx := List.pairwise_cons.1 hl
    have hy := List.pairwise_cons.1 hm
    have e : x = y := by
      rcases List.mem_cons.1 (p.subset List.mem_cons_self) with h | h
      · exact h
      · rcases List.mem_cons.1 (p.symm.subset List.mem_cons_self) with g | g
        · exact g.symm
        · exact absurd (hx.1 y g) (hy.1 x h).asymm
    subst e
    rw [srise_eq hx.2 hy.2 ((List.perm_cons x).1 p)]
/-- All that must be told ahead is told. -/
theorem inB_iff {T : List ByteArray} {r : ByteArray} : inB T r = true ↔ r ∈ T := by
  unfold inB
  simp
def rdy (T : List ByteArray) (s : Sq) : Bool := s.2.all fun r => inB T r
/-- What comes of the steps that are left. -/
def ordF : Nat → List Sq → List ByteArray → Option (List ByteArray)
  | 0, _, T => some T
  | n + 1, L, T => match L.find? (rdy T) with
    | none => none
    | some s => ordF n (L.eraseP (rdy T)) (T ++ [s.1])
theorem findS_at {T : List ByteArray} : ∀ {A B : List Sq} {s : Sq}, (∀ x ∈ A, rdy T x = false) → rdy T s = true → (A ++ s :: B).find? (rdy T) = some s ∧ (A ++ s :: B).eraseP (rdy T) = A ++ B
  | [], B, s, _, hs => by simp [hs]
  | x :: A, B, s, hA, hs => by
    have h0 := hA x List.mem_cons_self
    obtain ⟨h1, h2⟩ := findS_at (B := B) (fun y hy => hA y (List.mem_cons_of_mem _ hy)) hs
    refine ⟨?_, ?_⟩
    · rw [List.cons_append, List.find?_cons_of_neg (by simp [h0]), h1]
    · rw [List.cons_append, List.eraseP_cons_of_neg (by simp [h0]), h2]; rfl
theorem ordF_step {A B : List Sq} {s : Sq} {T : List ByteArray} (hA : ∀ x ∈ A, rdy T x = false) (hs : rdy T s = true) : ordF (A ++ s :: B).length (A ++ s :: B) T = ordF (A ++ B).length (A ++ B) (T ++ [s.1]) := by
  obtain ⟨h1, h2⟩ := findS_at (B := B) hA hs
  rw [show (A ++ s :: B).length = (A ++ B).length + 1 by simp; omega]
  rw [ordF, h1, h2]
theorem ordF_stuck {L : List Sq} {T : List ByteArray} (h0 : L ≠ []) (h : ∀ x ∈ L, rdy T x = false) : ordF L.length L T = none := by
  obtain ⟨n, hn⟩ : ∃ n, L.length = n + 1 := ⟨L.length - 1, by have := List.length_pos_iff.2 h0; omega⟩
  rw [hn, ordF, List.find?_eq_none.2 (fun x hx => by simp [h x hx])]
/-- One of them is found. -/
theorem split_find {T : List ByteArray} : ∀ {L : List Sq}, (∀ x ∈ L, rdy T x = false) ∨ ∃ A s B, L = A ++ s :: B ∧ (∀ x ∈ A, rdy T x = false) ∧ rdy T s = true
  | [] => .inl fun x h => by cases h
  | x :: L => by
    cases hx : rdy T x with
    | true => exact .inr ⟨[], x, L, rfl, (fun y h => by cases h), hx⟩
    | false =>
      rcases split_find (L := L) with h | ⟨A, s, B, e, hA, hs⟩
      · refine .inl fun y hy => ?_
        rcases List.mem_cons.1 hy with rfl | hy
        · exact hx
        · exact h y hy
      · refine .inr ⟨x :: A, s, B, by rw [e]; rfl, fun y hy => ?_, hs⟩
        rcases List.mem_cons.1 hy with rfl | hy
        · exact hx
        · exact hA y hy
/-- What is told: all of them, each behind all that it hangs on. -/
theorem ordF_some : ∀ (n : Nat) {L : List Sq} {T out : List ByteArray}, L.length = n → ordF n L T = some out → ∃ S, out = T ++ S ∧ S.Perm (L.map (·.1)) ∧ ∀ s ∈ L, ∃ P Q, out = P ++ s.1 :: Q ∧ ∀ r ∈ s.2, r ∈ P
  | 0, L, T, out, hn, h => by
    have hL : L = [] := List.length_eq_zero_iff.1 hn
    subst hL
    rw [ordF] at h
    injection h with h
    subst h
    exact ⟨[], by simp, List.Perm.refl _, fun s hs => by cases hs⟩
  | n + 1, L, T, out, hn, h => by
    rcases split_find (T := T) (L := L) with h1 | ⟨A, s, B, e, hA, hs⟩
    · rw [← hn, ordF_stuck (fun e => by rw [e] at hn; cases hn) h1] at h
      cases h
    · subst e
      rw [← hn, ordF_step hA hs] at h
      have hl : (A ++ B).length = n := by simp at hn ⊢; omega
      rw [hl] at h
      obtain ⟨S, e, p, g⟩ := ordF_some n hl h
      refine ⟨s.1 :: S, by rw [e]; simp, ?_, ?_⟩
      · have p2 : (s.1 :: S).Perm (s.1 :: ((A ++ B).map (·.1))) := p.cons _
        refine p2.trans ?_
        simp only [List.map_append, List.map_cons]
        exact List.perm_middle.symm
      · intro x hx
        rcases List.mem_append.1 hx with hx | hx
        · exact g x (List.mem_append.2 (.inl hx))
        · rcases List.mem_cons.1 hx with rfl | hx
          · refine ⟨T, S, by rw [e]; simp, fun r hr => ?_⟩
            have := List.all_eq_true.1 hs r hr
            exact inB_iff.1 this
          · exact g x (List.mem_append.2 (.inr hx))
end Go.Proofs.YtaffplmfnincfaaGreatDoor
/- Steps: rows of them; cmp.Compare at texts. -/
namespace Go.Proofs.YtaffplmfnincfaaGreatDoor
set_option linter.unusedVariables false
open Go.RowKit Go.Sort Go.Shelf
/-- A step as it lies in a row: its ref, where its inputs are, which they are. -/
structure Sx where
  ref : ByteArray
  a : Option Addr
  n : Nat
  c : Nat
  inp : List ByteArray
def sx0 : Sx := ⟨⟨#[]⟩, none, 0, 0, []⟩
def encX : Enc Sx where
  arr x := [.string x.ref, .slice x.a x.n x.c]
  d := sx0
  k := 2
  len _ := rfl
  one _ u hu := by simp at hu; rcases hu with rfl | rfl <;> rfl
  pos := by decide
def TX : RowTy encX where
  st := 49
  et := 56
  z := .agg #[.string ⟨#[]⟩, .slice none 0 0]
  bytes := 40
  hu := Tryz.underlying49
  hi := by kernel_rfl
  hz := rfl
  hb := by decide
abbrev OwnX := OwnS TX
abbrev sxC (x : Sx) : Array Value := #[.string x.ref, .slice x.a x.n x.c]
abbrev sxV (x : Sx) : Value := .agg (sxC x)
/-- The step. -/
def sqOf (x : Sx) : Sq := (x.ref, x.inp)
/-- Its inputs lie where it says, in no cell of block g. -/
def SxOk (w : World) (g : Nat) (x : Sx) : Prop := Txs w (.slice x.a x.n x.c) x.inp ∧ ∀ ad, x.a = some ad → ad.block ≠ g
def LxOk (w : World) (g : Nat) (L : List Sx) : Prop := ∀ x ∈ L, SxOk w g x
theorem SxOk.grow {w w' : World} {g : Nat} {x : Sx} (h : SxOk w g x) (hb : Below w.heap.size w w') : SxOk w' g x := ⟨h.1.grow hb, h.2⟩
theorem SxOk.keep {w w' : World} {g : Nat} {x : Sx} (h : SxOk w g x) (hg : ∀ k, k < w.heap.size → k ≠ g → w'.heap[k]? = w.heap[k]?) : SxOk w' g x := by
  refine ⟨?_, h.2⟩
  obtain ⟨a, c, e, hn, hc⟩ := id h.1
  refine ⟨a, c, e, hn, ?_⟩
  rcases hc with hc | ⟨b, o', rfl, hc⟩
  · exact .inl hc
  · injection e with e1 e2 e3
    have hne := h.2 _ e1
    refine .inr ⟨b, o', rfl, fun t ht i y hy => ?_⟩
    have hcell := hc t ht i y hy
    have hb : b < w.heap.size := World.block_lt_of_cell? w _ hcell
    rw [← hcell]
    unfold World.cell?
    rw [hg b hb hne]
theorem SxOk.kept {w w' : World} {g : Nat} {x : Sx} (h : SxOk w g x) (hg : w.grownBy w' (some g)) : SxOk w' g x := h.keep fun k hk hne => hg.block k hk fun e => hne (by injection e with e)
theorem flatX_set (xs : List Sx) (j : Nat) (x : Sx) : flat encX (xs.set j x) = ((flat encX xs).set (j * 2) (.string x.ref)).set (j * 2 + 1) (.slice x.a x.n x.c) := by
  induction xs generalizing j with
  | nil => simp [flat]
  | cons a r ih =>
    cases j with
    | zero => rfl
    | succ j =>
      show encX.arr a ++ flat encX (r.set j x) = (((encX.arr a ++ flat encX r)).set ((j + 1) * 2) _).set ((j + 1) * 2 + 1) _
      rw [ih, show (j + 1) * 2 = j * 2 + 1 + 1 by omega]
      rfl
theorem own_storeX {w : World} {base g n cap : Nat} {xs : List Sx} (h : OwnX w base (.slice (some ⟨g, 0, none⟩) n cap) xs) (hn : n = xs.length) (j : Nat) (x : Sx) : OwnX ((w.setCell ⟨g, j * 2, none⟩ (.string x.ref)).setCell ⟨g, j * 2 + 1, none⟩ (.slice x.a x.n x.c)) base (.slice (some ⟨g, 0, none⟩) n cap) (xs.set j x) := by
  subst hn
  have h1 := (World.ownsRow.stored h (j * 2) (.string x.ref)).1
  have h2 := (World.ownsRow.stored h1 (j * 2 + 1) (.slice x.a x.n x.c)).1
  unfold OwnX OwnS
  rw [List.length_set, flatX_set]
  exact h2
section
variable {α : Type} {E : Enc α}
theorem flat_getAt (l : List α) (j : Nat) (hj : j < l.length * E.k) : (flat E l)[j]? = (E.arr (l.getD (j / E.k) E.d))[j % E.k]? := by
  have h1 : j / E.k < l.length := (Nat.div_lt_iff_lt_mul E.pos).2 hj
  have h2 := flat_get (E := E) l (j / E.k) (j % E.k) h1 (Nat.mod_lt _ E.pos)
  rw [Nat.div_add_mod' j E.k] at h2
  exact h2
theorem made_flat (z : Value) (n : Nat) (hz : E.arr E.d = z.cells.toList) : (madeCells z.cells (n * E.k)).toList = flat E (List.replicate n E.d) := by
  have hk : z.cells.size = E.k := by rw [← Array.length_toList, ← hz, E.len]
  apply List.ext_getElem?
  intro j
  by_cases hj : j < n * E.k
  · rw [flat_getAt _ j (by rw [List.length_replicate]; exact hj)]
    have hm : j % E.k < z.cells.size := by rw [hk]; exact Nat.mod_lt _ E.pos
    have hd : (List.replicate n E.d).getD (j / E.k) E.d = E.d := by
      rw [List.getD_eq_getElem?_getD, List.getElem?_replicate]
      split <;> rfl
    rw [hd, hz]
    simp [madeCells, hj, hk]
    rw [Array.getElem?_eq_getElem hm]
    congr 1
    exact getElem!_pos z.cells (j % E.k) hm
  · rw [List.getElem?_eq_none (by simp [madeCells]; omega), List.getElem?_eq_none (by rw [flat_len, List.length_replicate]; omega)]
/-- make([]T, n). -/
theorem run_makeR (T : RowTy E) (n : Nat) (hn : n ≤ 100000000) (w : World) : (Instr.makeSlice T.st (.int .i64 (n : Int)) (.int .i64 (n : Int))).run Tryz.prog w = .ok (.slice (some ⟨w.heap.size, 0, none⟩) n n) (w.alloc (.cells (madeCells T.z.cells (n * E.k)) T.et)) := by
  obtain ⟨i0, hi, hz0, hz1, hz2⟩ := info_parts T.hi
  have hb : T.bytes * n ≤ 200 * 100000000 := Nat.mul_le_mul T.hb hn
  have := run_make (P := Tryz.prog) w T.st T.et i0 T.z T.hu hi hz0 .i64 .i64 (n : Int) (n : Int) (by omega) (Int.le_refl _) (by rw [hz2, ← Int.natCast_mul]; omega) (by omega)
  rw [hz1] at this
  simpa using this
theorem own_madeR (T : RowTy E) (hz : E.arr E.d = T.z.cells.toList) (w : World) (n : Nat) (hn : n ≤ 100000000) : OwnS T (w.alloc (.cells (madeCells T.z.cells (n * E.k)) T.et)) w.heap.size (.slice (some ⟨w.heap.size, 0, none⟩) n n) (List.replicate n E.d) := by
  have h := World.ownsRow_lit w (base := w.heap.size) (e := T.et) (size := E.k) (madeCells T.z.cells (n * E.k)) n (Nat.le_refl _) (by unfold maxLen; omega) (size_madeCells _ _)
  unfold OwnS
  rw [List.length_replicate, ← made_flat T.z n hz]
  exact h
/-- A cell of the row. -/
theorem OwnS.cellR {T : RowTy E} {w : World} {base g n cap : Nat} {xs : List α} (h : OwnS T w base (.slice (some ⟨g, 0, none⟩) n cap) xs) (hn : n = xs.length) (t i : Nat) (ht : t < n) (hi : i < E.k) : w.cell? ⟨g, t * E.k + i, none⟩ = (E.arr (xs.getD t E.d))[i]? ∧ w.frozen? ⟨g, t * E.k + i, none⟩ = false := by
  subst hn
  refine ⟨?_, World.ownsRow.frozenAt h _⟩
  have h2 : t * E.k + i < xs.length * E.k := by
    have := Nat.mul_le_mul_right E.k (Nat.succ_le_of_lt ht)
    rw [Nat.succ_mul] at this
    omega
  rw [World.ownsRow.cellAt h _ h2]
  exact flat_get xs t i ht hi
end
theorem own_cellX {w : World} {base g n cap : Nat} {xs : List Sx} (h : OwnX w base (.slice (some ⟨g, 0, none⟩) n cap) xs) (hn : n = xs.length) (j : Nat) (hj : j < n) :
    (w.cell? ⟨g, j * 2, none⟩ = some (.string (xs.getD j sx0).ref) ∧ w.cell? ⟨g, j * 2 + 1, none⟩ = some (.slice (xs.getD j sx0).a (xs.getD j sx0).n (xs.getD j sx0).c)) ∧ (w.frozen? ⟨g, j * 2, none⟩ = false ∧ w.frozen? ⟨g, j * 2 + 1, none⟩ = false) := by
  obtain ⟨c0, f0⟩ := h.cellR hn j 0 hj (by decide)
  obtain ⟨c1, f1⟩ := h.cellR hn j 1 hj (by decide)
  exact ⟨⟨c0, c1⟩, f0, f1⟩
def padX (l : List Sx) (n : Nat) : List Sx := l ++ List.replicate (n - l.length) sx0
theorem padX_len (l : List Sx) (n : Nat) (h : l.length ≤ n) : (padX l n).length = n := by unfold padX; rw [List.length_append, List.length_replicate]; omega
theorem padX_set (l : List Sx) (n : Nat) (h : l.length < n) (y : Sx) : (padX l n).set l.length y = padX (l ++ [y]) n := by
  unfold padX
  rw [List.set_append_right _ _ (Nat.le_refl _), Nat.sub_self, List.length_append, show n - l.length = (n - (l.length + 1)) + 1 by omega, List.replicate_succ, List.append_assoc]
  rfl
theorem padX_full (l : List Sx) : padX l l.length = l := by simp [padX]
set_option maxRecDepth 100000 in
set_option maxHeartbeats 1000000 in
theorem nan63 (a : ByteArray) (w : World) : Calls Tryz.prog 63 #[.string a] w fun e w' => e = .returned (.bool false) ∧ w' = w := by
  go_enter Tryz.func63, Tryz.ntmps63
  go_wp2
  go_ret
  exact ⟨rfl, rfl⟩
set_option maxRecDepth 100000 in
set_option maxHeartbeats 1000000 in
/-- cmp.Compare at texts. -/
theorem cmp44 (a b : ByteArray) (w : World) : Calls Tryz.prog 44 #[.string a, .string b] w fun e w' => e = .returned (.int .i64 (cmpL (numsS a) (numsS b))) ∧ w' = w := by
  have h1 := less_cmp a b
  have h2 := less_cmp b a
  have n1 := fun W => nan63 a W
  have n2 := fun W => nan63 b W
  rw [cmpL_neg (numsS a) (numsS b)] at h2
  rcases cmpL_in (numsS a) (numsS b) with h | h | h
  · rw [h] at h1 h2 ⊢
    replace h1 : Op.bytesLess a.toList b.toList = true := h1.trans (by decide)
    replace h2 : Op.bytesLess b.toList a.toList = false := h2.trans (by decide)
    clear h
    go_enter Tryz.func44, Tryz.ntmps44
    go_wp2_with (first | (go_at_call 63; (first | (with_reducible refine (n1 _).mono ?_) | (with_reducible refine (n2 _).mono ?_)); rintro e wx ⟨rfl, hwx⟩; subst wx))
    go_ret
    exact ⟨rfl, rfl⟩
  · have he : (a.toList == b.toList) = true := by rw [numsS_inj (cmpL_eq h)]; simp
    rw [h] at h1 h2 ⊢
    replace h1 : Op.bytesLess a.toList b.toList = false := h1.trans (by decide)
    replace h2 : Op.bytesLess b.toList a.toList = false := h2.trans (by decide)
    clear h
    go_enter Tryz.func44, Tryz.ntmps44
    go_wp2_with (first | (go_at_call 63; (first | (with_reducible refine (n1 _).mono ?_) | (with_reducible refine (n2 _).mono ?_)); rintro e wx ⟨rfl, hwx⟩; subst wx))
    go_ret
    exact ⟨rfl, rfl⟩
  · have he : (a.toList == b.toList) = false := toList_ne fun e => by rw [e, cmpL_self] at h; omega
    rw [h] at h1 h2 ⊢
    replace h1 : Op.bytesLess a.toList b.toList = false := h1.trans (by decide)
    replace h2 : Op.bytesLess b.toList a.toList = true := h2.trans (by decide)
    clear h
    go_enter Tryz.func44, Tryz.ntmps44
    go_wp2_with (first | (go_at_call 63; (first | (with_reducible refine (n1 _).mono ?_) | (with_reducible refine (n2 _).mono ?_)); rintro e wx ⟨rfl, hwx⟩; subst wx))
    go_ret
    exact ⟨rfl, rfl⟩
set_option maxRecDepth 100000 in
set_option maxHeartbeats 1000000 in
/-- The closure. -/
theorem clos43 (x y : Sx) (w : World) : Calls Tryz.prog 43 #[.agg #[.string x.ref, .slice x.a x.n x.c], .agg #[.string y.ref, .slice y.a y.n y.c]] w fun e w' => e = .returned (.int .i64 (cmpL (numsS x.ref) (numsS y.ref))) ∧ ∃ q os, w' = grow (w.drewN q) os := by
  have hc := cmp44 x.ref y.ref ((w.alloc (.cells #[.string x.ref, .slice x.a x.n x.c] 56)).alloc (.cells #[.string y.ref, .slice y.a y.n y.c] 56))
  generalize cmpL (numsS x.ref) (numsS y.ref) = C at *
  go_enter Tryz.func43, Tryz.ntmps43
  go_wp2_with (first | (go_at_call 44; refine hc.mono ?_; rintro e wx ⟨rfl, hwx⟩; subst wx))
  go_ret
  refine ⟨rfl, 0, #[.cells #[.string x.ref, .slice x.a x.n x.c] 56] ++ #[.cells #[.string y.ref, .slice y.a y.n y.c] 56], ?_⟩
  rw [alloc_eq_grow, alloc_eq_grow, grow_grow]
  rfl
end Go.Proofs.YtaffplmfnincfaaGreatDoor
/- slices.SortFunc at steps. -/
namespace Go.Proofs
open Go.Shelf
def Tryz.sortR_ren : Go.Shelf.Ren := ⟨fun | 6 => 42 | 15 => 61 | 14 => 62 | 28 => 95 | 29 => 96 | 20 => 97 | 21 => 98 | 22 => 99 | 23 => 100 | 24 => 101 | 25 => 102 | 26 => 103 | 27 => 104 | 46 => 127 | 47 => 123 | 48 => 124 | 49 => 128 | 50 => 129 | 57 => 150 | n => n, fun | 22 => 49 | 24 => 56 | 25 => 79 | 3 => 3 | 39 => 101 | 0 => 0 | 53 => 128 | 55 => 130 | 4 => 4 | 46 => 120 | 45 => 119 | 50 => 125 | 5 => 5 | 9 => 9 | 66 => 151 | 70 => 155 | 76 => 172 | 77 => 173 | n => n, fun | n => n⟩
theorem Tryz.sortR : Go.Proofs.SlLaysF0.n6 Tryz.prog Tryz.sortR_ren := {
  mixed := by kernel_rfl
  f6 := ⟨Tryz.f42.name, by decide, Tryz.func42.trans (congrArg some (by kernel_rfl))⟩
  f14 := ⟨Tryz.f62.name, by decide, Tryz.func62.trans (congrArg some (by kernel_rfl))⟩
  f15 := Tryz.func61.trans (congrArg some (by kernel_rfl))
  f20 := ⟨Tryz.f97.name, by decide, Tryz.func97.trans (congrArg some (by kernel_rfl))⟩
  f21 := ⟨Tryz.f98.name, by decide, Tryz.func98.trans (congrArg some (by kernel_rfl))⟩
  f22 := ⟨Tryz.f99.name, by decide, Tryz.func99.trans (congrArg some (by kernel_rfl))⟩
  f23 := ⟨Tryz.f100.name, by decide, Tryz.func100.trans (congrArg some (by kernel_rfl))⟩
  f24 := ⟨Tryz.f101.name, by decide, Tryz.func101.trans (congrArg some (by kernel_rfl))⟩
  f25 := ⟨Tryz.f102.name, by decide, Tryz.func102.trans (congrArg some (by kernel_rfl))⟩
  f26 := ⟨Tryz.f103.name, by decide, Tryz.func103.trans (congrArg some (by kernel_rfl))⟩
  f27 := ⟨Tryz.f104.name, by decide, Tryz.func104.trans (congrArg some (by kernel_rfl))⟩
  f28 := Tryz.func95.trans (congrArg some (by kernel_rfl))
  f29 := Tryz.func96.trans (congrArg some (by kernel_rfl))
  f46 := ⟨Tryz.f127.name, by decide, Tryz.func127.trans (congrArg some (by kernel_rfl))⟩
  f47 := Tryz.func123.trans (congrArg some (by kernel_rfl))
  f48 := Tryz.func124.trans (congrArg some (by kernel_rfl))
  f49 := ⟨Tryz.f128.name, by decide, Tryz.func128.trans (congrArg some (by kernel_rfl))⟩
  f50 := ⟨Tryz.f129.name, by decide, Tryz.func129.trans (congrArg some (by kernel_rfl))⟩
  f57 := ⟨Tryz.f150.name, by decide, Tryz.func150.trans (congrArg some (by kernel_rfl))⟩
  t0 := Tryz.underlying0
  a0 := Tryz.isAgg0
  z0 := Tryz.sizeOf0
  v0 := Tryz.zeroValue0
  t3 := Tryz.underlying3
  a3 := Tryz.isAgg3
  z3 := Tryz.sizeOf3
  v3 := Tryz.zeroValue3
  t4 := Tryz.underlying4
  a4 := Tryz.isAgg4
  z4 := Tryz.sizeOf4
  v4 := Tryz.zeroValue4
  t5 := Tryz.underlying5
  a5 := Tryz.isAgg5
  z5 := Tryz.sizeOf5
  v5 := Tryz.zeroValue5
  t9 := Tryz.underlying9
  a9 := Tryz.isAgg9
  z9 := Tryz.sizeOf9
  v9 := Tryz.zeroValue9
  t22 := Tryz.underlying49
  a22 := Tryz.isAgg49
  z22 := Tryz.sizeOf49
  v22 := Tryz.zeroValue49
  t25 := Tryz.underlying79
  a25 := Tryz.isAgg79
  z25 := Tryz.sizeOf79
  v25 := Tryz.zeroValue79
  t39 := Tryz.underlying101
  a39 := Tryz.isAgg101
  z39 := Tryz.sizeOf101
  v39 := Tryz.zeroValue101
  t45 := Tryz.underlying119
  a45 := Tryz.isAgg119
  z45 := Tryz.sizeOf119
  v45 := Tryz.zeroValue119
  t46 := Tryz.underlying120
  a46 := Tryz.isAgg120
  z46 := Tryz.sizeOf120
  v46 := Tryz.zeroValue120
  t50 := Tryz.underlying125
  a50 := Tryz.isAgg125
  z50 := Tryz.sizeOf125
  v50 := Tryz.zeroValue125
  t53 := Tryz.underlying128
  a53 := Tryz.isAgg128
  z53 := Tryz.sizeOf128
  v53 := Tryz.zeroValue128
  t55 := Tryz.underlying130
  a55 := Tryz.isAgg130
  z55 := Tryz.sizeOf130
  v55 := Tryz.zeroValue130
  t66 := Tryz.underlying151
  a66 := Tryz.isAgg151
  z66 := Tryz.sizeOf151
  v66 := Tryz.zeroValue151
  t70 := Tryz.underlying155
  a70 := Tryz.isAgg155
  z70 := Tryz.sizeOf155
  v70 := Tryz.zeroValue155
  t76 := Tryz.underlying172
  a76 := Tryz.isAgg172
  z76 := Tryz.sizeOf172
  v76 := Tryz.zeroValue172
  t77 := Tryz.underlying173
  a77 := Tryz.isAgg173
  z77 := Tryz.sizeOf173
  v77 := Tryz.zeroValue173 }
end Go.Proofs

namespace Go.Proofs.YtaffplmfnincfaaGreatDoor
set_option linter.unusedVariables false
open Go.RowKit Go.Sort Go.Shelf
/-- The steps that may be compared. -/
instance : Inhabited Sx := ⟨sx0⟩
def cmpX (x y : Sx) : Int := cmpL (numsS x.ref) (numsS y.ref)
theorem ltX (x y : Sx) : ltOf cmpX x y = true ↔ bltS x.ref y.ref := by
  unfold ltOf cmpX bltS
  rcases cmpL_in (numsS x.ref) (numsS y.ref) with h | h | h <;> rw [h] <;> simp
theorem ltXn (x y : Sx) : ltOf cmpX x y = false ↔ ¬ bltS x.ref y.ref := by
  rw [← ltX]; simp
theorem swoX : SWO (ltOf cmpX) where
  irrefl x := by rw [ltXn]; exact fun h => h.ne rfl
  trans x y z h1 h2 := by rw [ltX] at *; exact h1.trans h2
  ntrans x y z h1 h2 := by
    rw [ltXn] at *
    intro h
    by_cases e : x.ref = y.ref
    · rw [e] at h; exact h2 h
    · rcases bltS_total e with a | a
      · exact h1 a
      · exact h2 (a.trans h)
theorem flatK_flatX (l : List Sx) : flatK encX.arr 2 l.toArray = (flat encX l).toArray := by
  refine ext_get! (by simp [flat_len]; rfl) fun t ht => ?_
  have ht' : t < l.length * 2 := by simpa using ht
  rw [get_flatK _ _ _ t (by simpa using ht')]
  have hd : t / 2 < l.length := by omega
  have h := flat_get (E := encX) l (t / 2) (t % 2) (by simpa using hd) (Nat.mod_lt _ (by decide))
  rw [show t / 2 * encX.k + t % 2 = t by show t / 2 * 2 + t % 2 = t; omega] at h
  have e1 : l.toArray[t / 2]! = l.getD (t / 2) encX.d := by
    rw [getElem!_pos _ _ (by simpa using hd)]; simp [hd]
  rw [e1]
  have e2 : (flat encX l).toArray[t]! = (flat encX l)[t]?.getD default := by simp [Array.getElem!_eq_getD, Array.getD_eq_getD_getElem?]
  rw [e2, h]
  simp
theorem putCells_take (cur F : Array Value) (h : F.size ≤ cur.size) : (putCells id 0 F cur).toList.take F.size = F.toList := by
  apply List.ext_getElem?
  intro j
  by_cases hj : j < F.size
  · rw [List.getElem?_take_of_lt hj, Array.getElem?_toList, Array.getElem?_toList]
    simp [putCells, hj, show j < cur.size by omega]
  · rw [List.getElem?_take_eq_none (by omega), List.getElem?_eq_none (by simp; omega)]
theorem heap_sortedK {w : World} {g n : Nat} {os : Array Obj} {cur : Array Value} {e : TypeId} {fr : Nat × Nat} (F : Array Value) (hb : w.heap[g]? = some (.cells cur e fr)) :
    (grow (putRow id (Sort.ahead w n) g 0 F) os).heap[g]? = some (.cells (putCells id 0 F cur) e fr) := by
  have hg : g < w.heap.size := (Array.getElem?_eq_some_iff.1 hb).1
  rw [heap_grow_old _ _ (by simpa using hg)]
  simp [putRow, mapBlock, Sort.ahead, Array.getElem?_modify, hb, onCells]
theorem grownBy_sortedK {w : World} {g n : Nat} {os : Array Obj} (F : Array Value) : w.grownBy (grow (putRow id (Sort.ahead w n) g 0 F) os) (some g) := by
  refine ⟨rfl, rfl, rfl, by simp, fun k hk hne => ?_⟩
  rw [heap_grow_old _ _ (by simpa using hk)]
  have : g ≠ k := fun e => hne (by rw [e])
  simp [putRow, mapBlock, Sort.ahead, Array.getElem?_modify, this]
/-- What a sorted row is. -/
def SrtX (l : List Sx) : Prop := l.Pairwise fun a b => ¬ bltS b.ref a.ref
theorem sort42 (base g cap : Nat) (l : List Sx) (w : World) (hown : OwnX w base (.slice (some ⟨g, 0, none⟩) l.length cap) l) (hl : l.length ≤ 1000000) :
    Calls Tryz.prog 42 #[.slice (some ⟨g, 0, none⟩) l.length cap, .func (.func 43) #[] #[]] w fun e w' => e = .returned (.tuple #[]) ∧ ∃ l', l'.Perm l ∧ SrtX l' ∧ OwnX w' base (.slice (some ⟨g, 0, none⟩) l.length cap) l' ∧ w.grownBy w' (some g) := by
  have hown2 := hown
  rcases hown.2 with ⟨e, h0⟩ | ⟨g', cap', cur, e, hbg, hg, hnc, hcm, hcs, htake⟩
  · cases e
  · cases e
    have eg : ∀ args w, (callFunc 43 args).run Tryz.prog w = .ok (.enter 43 args) w := enters_of Tryz.func43 (by kernel_rfl) rfl
    have hgl : g < w.heap.size := (Array.getElem?_eq_some_iff.1 hg).1
    have hH : HoldsK encX.arr 2 w g 0 l.toArray := by
      unfold HoldsK
      rw [flatK_flatX]
      intro j hj
      have hj' : j < l.length * encX.k := by simpa [flat_len] using hj
      refine ⟨?_, by simp [World.frozen?, hg]⟩
      have hf : j < (flat encX l).length := by rw [flat_len]; exact hj'
      have := World.ownsRow.cells hown (g := g) rfl j ((flat encX l)[j]) (List.getElem?_eq_getElem hf)
      rw [ladd_at] at this
      rw [this, getElem!_pos _ _ (by simpa using hf)]
      simp
    have hcon := AnyQ.slices_SortFunc Tryz.sortR 2 Tryz.isAgg56 Tryz.sizeOf56 encX.arr (fun _ => rfl) (fun x => encX.one x) cmpX swoX 43 #[] g 0 cap l.toArray w eg
      (fun m os dk _ x y => clos43 x y _) hH hgl (by simp; omega)
    change Calls Tryz.prog 42 _ _ _ at hcon
    simp only [List.size_toArray] at hcon
    refine hcon.mono ?_
    rintro e w' ⟨rfl, d', n, os, hperm, hsort, rfl⟩
    obtain ⟨hds, _, hpm⟩ := hperm
    have hds' : d'.size = l.length := by rw [hds]; simp
    have hpm2 : d'.toList.Perm l := by
      have h1 : d'.extract 0 l.length = d' := by rw [← hds']; simp
      have h2 : l.toArray.extract 0 l.length = l.toArray := by simp
      rw [h1, h2] at hpm
      simpa using hpm
    have hlen : d'.toList.length = l.length := by simp [hds']
    refine ⟨rfl, d'.toList, hpm2, ?_, ?_, ?_⟩
    · unfold SrtX
      rw [List.pairwise_iff_getElem]
      intro i j hi hj hij
      have := hsort i j (Nat.zero_le _) hij (by simpa [hds'] using hj)
      rw [ltXn] at this
      rw [getElem!_pos _ _ (by simpa using hj), getElem!_pos _ _ (by simpa using hi)] at this
      simpa using this
    · unfold sortWorldK putRowK
      have hfk : flatK encX.arr 2 d' = (flat encX d'.toList).toArray := flatK_flatX d'.toList
      rw [hfk]
      show World.ownsRow _ _ _ _ _ _ _
      unfold World.ownsRow
      rw [hlen]
      refine ⟨by rw [flat_len, hlen], .inr ⟨g, cap, _, rfl, hbg, heap_sortedK _ hg, hnc, hcm, by simp [putCells]; exact hcs, ?_⟩⟩
      have hfs : (flat encX d'.toList).toArray.size = l.length * encX.k := by simp [flat_len, hds']
      rw [← hfs]
      refine putCells_take cur _ ?_
      rw [hfs, hcs]
      exact Nat.mul_le_mul_right _ hnc
    · exact grownBy_sortedK _
end Go.Proofs.YtaffplmfnincfaaGreatDoor
/- steps. -/
namespace Go.Proofs.YtaffplmfnincfaaGreatDoor
set_option linter.unusedVariables false
open Go.RowKit
/-- The steps of nodes. -/
noncomputable def sqN (x : Nd) : Sq := (x.ref, inpN x)
/-- What stands between two rounds. -/
structure StpI (w : World) (l : List Nd) (k : Nat) (wr : World) (out : List Sx) : Prop where
  own : OwnX wr w.heap.size (.slice (some ⟨w.heap.size, 0, none⟩) l.length l.length) (padX out l.length)
  len : out.length = k
  ok : LxOk wr w.heap.size out
  is : out.map sqOf = (l.take k).map sqN
  bel : Below w.heap.size w wr
theorem StpI.next {w : World} {l : List Nd} {k : Nat} {wr W : World} {out : List Sx} (h : StpI w l k wr out) (hk : k < l.length) (x : Nd) (hx : x = l.getD k nd0) {a : Option Addr} {n c : Nat} (hb : Below (wr.alloc (.cells (ndC x) 36)).heap.size (wr.alloc (.cells (ndC x) 36)) W) (hi : Txs W (.slice a n c) (inpN x)) (hg : ∀ ad, a = some ad → ad.block ≠ w.heap.size) :
    StpI w l (k + 1) ((W.setCell ⟨w.heap.size, k * 2, none⟩ (.string x.ref)).setCell ⟨w.heap.size, k * 2 + 1, none⟩ (.slice a n c)) (out ++ [⟨x.ref, a, n, c, inpN x⟩]) := by
  have hB1 := h.bel.trans ((bW0 wr (.cells (ndC x) 36)).mono h.bel.size)
  have hB2 := hB1.trans (hb.mono hB1.size)
  have hgr : Below wr.heap.size wr W := (bW0 wr _).trans (hb.mono (by simp))
  have ho : OwnX W w.heap.size (.slice (some ⟨w.heap.size, 0, none⟩) l.length l.length) (padX out l.length) := h.own.stay hgr
  have hset : ∀ {W : World} {o : Nat} {u : Value} {y : Sx}, SxOk W w.heap.size y → SxOk (W.setCell ⟨w.heap.size, o, none⟩ u) w.heap.size y := fun {W o u y} hy => hy.keep fun b hb hne => Below.heap_setCell _ _ _ _ (fun e => hne e)
  refine ⟨?_, by simp [h.len], ?_, ?_, ?_⟩
  · have := own_storeX ho (padX_len out l.length (by have := h.len; omega)).symm k ⟨x.ref, a, n, c, inpN x⟩
    rw [← h.len, padX_set out l.length (by have := h.len; omega)] at this
    rw [← h.len]
    exact this
  · intro y hy
    rcases List.mem_append.1 hy with hy | hy
    · exact hset (hset ((h.ok y hy).grow hgr))
    · rw [List.mem_singleton.1 hy]
      exact hset (hset ⟨hi, hg⟩)
  · rw [List.map_append, h.is, List.take_succ_eq_append_getElem hk, List.map_append, hx, List.getD_eq_getElem?_getD, List.getElem?_eq_getElem hk]
    rfl
  · exact (hB2.setCell (p := ⟨w.heap.size, k * 2, none⟩) (Nat.le_refl _) _).setCell (p := ⟨w.heap.size, k * 2 + 1, none⟩) (Nat.le_refl _) _
theorem srt_rise {L : List Sx} (h : SrtX L) (hn : (L.map (·.ref)).Nodup) : SRise (L.map sqOf) := by
  unfold SRise
  rw [List.pairwise_map]
  have h2 : L.Pairwise fun a b => a.ref ≠ b.ref := by
    have := hn
    rw [List.Nodup, List.pairwise_map] at this
    exact this
  refine (h.and h2).imp ?_
  rintro a b ⟨g1, g2⟩
  rcases bltS_total g2 with g | g
  · exact g
  · exact absurd g g1
set_option maxRecDepth 100000 in
set_option maxHeartbeats 8000000 in
/-- steps. -/
theorem steps22 (a : Option Addr) (n c : Nat) (l : List Nd) (w : World) (hG : G w) (hS : SignsAt w) (hv : Sls encN w (.slice a n c) l) (hl : l.length ≤ 1000) (hsh : ShN l) : Calls Tryz.prog 22 #[.slice a n c] w fun e w' => ∃ L g, e = .returned (.slice (some ⟨g, 0, none⟩) n n) ∧ Hid (OwnX w' w.heap.size (.slice (some ⟨g, 0, none⟩) n n) L ∧ LxOk w' g L ∧ (L.map sqOf).Perm (l.map sqN) ∧ SrtX L ∧ Below w.heap.size w w') := by
  have hn : Hid (n = l.length) := hv.len
  have hn1 : n ≤ 1000 := by have := hn.out; omega
  have hrow : Hid (∀ W, Below w.heap.size w W → Sls encN W (.slice a n c) l) := fun W h => hv.grow h
  have hinp : Hid (∀ k W, k < l.length → Below w.heap.size w W → Calls Tryz.prog 12 #[ndV (l.getD k nd0)] W fun e w' => ∃ a n c, e = .returned (.slice a n c) ∧ Hid (Txs w' (.slice a n c) (inpN (l.getD k nd0)) ∧ Below W.heap.size W w' ∧ FreshA W.heap.size a)) := fun k W hk hB => inputs12f (l.getD k nd0) _ (hG.grow hB) (hS.grow hB) (hsh.at hk)
  have hmk : ∀ W : World, (Instr.makeSlice 49 (.int .i64 (n : Int)) (.int .i64 (n : Int))).run Tryz.prog W = .ok (.slice (some ⟨W.heap.size, 0, none⟩) n n) (W.alloc (.cells (madeCells TX.z.cells (n * encX.k)) 56)) := run_makeR TX n (by omega)
  have hI0 : Hid (StpI w l 0 (w.alloc (.cells (madeCells TX.z.cells (n * encX.k)) 56)) []) := ⟨by
    have := own_madeR TX rfl w n (by omega)
    rw [hn.out] at this ⊢
    have e : padX [] l.length = List.replicate l.length encX.d := by unfold padX; rfl
    rw [e]
    exact this, rfl, (fun x h => by cases h), by simp, bW0 w _⟩
  have hsort : Hid (∀ (W : World) (L : List Sx), L.length = n → OwnX W w.heap.size (.slice (some ⟨w.heap.size, 0, none⟩) n n) L → Calls Tryz.prog 42 #[.slice (some ⟨w.heap.size, 0, none⟩) n n, .func (.func 43) #[] #[]] W fun e w' => e = .returned (.tuple #[]) ∧ ∃ l', l'.Perm L ∧ SrtX l' ∧ OwnX w' w.heap.size (.slice (some ⟨w.heap.size, 0, none⟩) n n) l' ∧ W.grownBy w' (some w.heap.size)) := fun W L hL ho => by
    have h := sort42 w.heap.size w.heap.size n L W (by rw [hL]; exact ho) (by omega)
    rw [hL] at h
    exact h
  clear hv hG hS hsh hl
  generalize madeCells TX.z.cells (n * encX.k) = cs at *
  go_enter Tryz.func22, Tryz.ntmps22
  go_wp2
  clear hmk
  generalize w.alloc (.cells cs 56) = W0 at *
  go_loopw [11] (fun i wr => ∃ (k : Nat) (out : List Sx), k ≤ n ∧ i = .int .i64 k ∧ Hid (StpI w l k wr out)) (fun i _ => n - (intOf i).toNat)
  case atStart => exact ⟨0, [], Nat.zero_le _, rfl, hI0⟩
  case round =>
    obtain ⟨k, out, hk, rfl, hI⟩ := hrel
    by_cases hlt : k < n
    · have hki : (k : Int) < (n : Int) := by omega
      have hkl : k < l.length := by have := hn.out; omega
      obtain ⟨b, o, rfl, c0, c1, c2, c3, c4, c5, c6, c7, c8, c9, c10⟩ := nd_at (hrow.out wr hI.out.bel) k hkl
      have hB1 := hI.out.bel.trans ((bW0 wr (.cells (ndC (l.getD k nd0)) 36)).mono hI.out.bel.size)
      have hcall : Hid (∀ W, Below (wr.alloc (.cells (ndC (l.getD k nd0)) 36)).heap.size (wr.alloc (.cells (ndC (l.getD k nd0)) 36)) W → _) := fun W hW => hinp.out k W hkl (hB1.trans (hW.mono hB1.size))
      have hnx : Hid (∀ (W : World) (a : Option Addr) (n' c' : Nat), Below (wr.alloc (.cells (ndC (l.getD k nd0)) 36)).heap.size (wr.alloc (.cells (ndC (l.getD k nd0)) 36)) W → Txs W (.slice a n' c') (inpN (l.getD k nd0)) → FreshA (wr.alloc (.cells (ndC (l.getD k nd0)) 36)).heap.size a → ∃ out', StpI w l (k + 1) ((W.setCell ⟨w.heap.size, k * 2, none⟩ (.string (l.getD k nd0).ref)).setCell ⟨w.heap.size, k * 2 + 1, none⟩ (.slice a n' c')) out') := fun W a n' c' h1 h2 h3 =>
        ⟨_, hI.out.next hkl _ rfl h1 h2 fun ad e => by
          have h4 := h3 ad e
          have h5 := (hI.out.own.lt w.heap.size rfl).2
          have h6 : (wr.alloc (.cells (ndC (l.getD k nd0)) 36)).heap.size = wr.heap.size + 1 := by simp
          omega⟩
      have hcl : Hid (∀ (W : World), Below (wr.alloc (.cells (ndC (l.getD k nd0)) 36)).heap.size (wr.alloc (.cells (ndC (l.getD k nd0)) 36)) W → ∃ (s : ByteArray) (v : Value), W.cell? ⟨w.heap.size, k * 2, none⟩ = some (.string s) ∧ W.cell? ⟨w.heap.size, k * 2 + 1, none⟩ = some v ∧ W.frozen? ⟨w.heap.size, k * 2, none⟩ = false ∧ W.frozen? ⟨w.heap.size, k * 2 + 1, none⟩ = false) := fun W hW => by
        have hpl : (padX out l.length).length = l.length := padX_len out l.length (by have := hI.out.len; omega)
        have hgr : Below wr.heap.size wr W := (bW0 wr _).trans (hW.mono (by simp))
        obtain ⟨⟨g1, g2⟩, g3, g4⟩ := own_cellX (hI.out.own.stay hgr) hpl.symm k hkl
        exact ⟨_, _, g1, g2, g3, g4⟩
      have hgl : w.heap.size < wr.heap.size := (hI.out.own.lt w.heap.size rfl).2
      generalize l.getD k nd0 = x at *
      clear hI hI0 hinp hrow hsort
      have hU0 : Below (wr.alloc (.cells (ndC x) 36)).heap.size (wr.alloc (.cells (ndC x) 36)) (wr.alloc (.cells (ndC x) 36)) := Below.refl _ _
      go_wp2
      obtain ⟨d0, d1, d2, d3, d4, d5, d6, d7, d8, d9, d10⟩ := nd_kept x hU0
      have hbU : Hid (∀ W, Below (wr.alloc (.cells (ndC x) 36)).heap.size (wr.alloc (.cells (ndC x) 36)) W → W.cell? ⟨wr.heap.size, 0, none⟩ = some (.string x.ref)) := fun W h => (nd_kept x h).1
      have hUs : wr.heap.size < (wr.alloc (.cells (ndC x) 36)).heap.size := by simp
      generalize (wr.alloc (.cells (ndC x) 36)) = U at *
      clear c0 c1 c2 c3 c4 c5 c6 c7 c8 c9 c10
      have hc12 := hcall.out U.drew (Below.refl _ _).drew
      go_region_with (first
        | (go_at_call 12; refine hc12.mono ?_; rintro e w1 ⟨a1, n1, c1, rfl, h1⟩; have hb1 : Below U.heap.size U w1 := (Below.refl _ _).drew.trans (h1.out.2.1.mono (Nat.le_refl _)); have hr1 := hbU.out w1 hb1; obtain ⟨s1, v1, q1, q2, q3, q4⟩ := hcl.out w1 hb1))
      all_goals
        obtain ⟨out', hI'⟩ := hnx.out w1 a1 n1 c1 hb1 h1.out.1 h1.out.2.2
        replace hI' : Hid (StpI w l (k + 1) _ out') := hI'
        clear hnx hcall hcl hc12 h1 hb1 hr1 q1 q2 q3 q4 hbU d0 d1 d2 d3 d4 d5 d6 d7 d8 d9 d10 hB1
        generalize (w1.setCell ⟨w.heap.size, k * 2, none⟩ (.string x.ref)).setCell ⟨w.heap.size, k * 2 + 1, none⟩ (.slice a1 n1 c1) = W2 at *
        go_wp2
        refine ⟨⟨k + 1, out', by omega, by go_num, hI'⟩, ?_⟩
        simp [intOf]; omega
    · have hkn : Hid (k = n) := by show k = n; omega
      have hki : ¬ (k : Int) < (n : Int) := by omega
      have hso := hsort.out wr out (by rw [hI.out.len, hkn.out]) (by
        have h := hI.out.own
        rw [← hn.out] at h
        have e : padX out n = out := by have := hI.out.len; rw [hkn.out] at this; rw [← this]; exact padX_full out
        rw [e] at h
        exact h)
      have hfin : Hid (∀ (W : World) (L : List Sx), L.Perm out → wr.grownBy W (some w.heap.size) → LxOk W w.heap.size L ∧ (L.map sqOf).Perm (l.map sqN) ∧ Below w.heap.size w W) := fun W L hp hg => by
        refine ⟨fun x hx => (hI.out.ok x (hp.subset hx)).kept hg, ?_, hI.out.bel.grown hg hI.out.bel.size fun j hj => by injection hj with e; omega⟩
        have h := hI.out.is
        rw [hkn.out, List.take_of_length_le (by have := hn.out; omega)] at h
        rw [← h]
        exact hp.map _
      clear hI hI0 hinp hrow hsort hkn
      go_wp2_with (first
        | (go_at_call 42; refine hso.mono ?_; clear hso; rintro e w2 ⟨rfl, L, hp, hsr, ho2, hg2⟩))
      go_ret
      exact ⟨L, w.heap.size, rfl, ho2, (hfin.out _ _ hp hg2).1, (hfin.out _ _ hp hg2).2.1, hsr, (hfin.out _ _ hp hg2).2.2⟩
end Go.Proofs.YtaffplmfnincfaaGreatDoor
