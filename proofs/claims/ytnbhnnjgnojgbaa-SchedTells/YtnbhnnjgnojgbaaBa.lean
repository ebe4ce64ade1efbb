/- Rows of elements of k cells each: read, or of the call's own; append; jobs; worlds in which all that lay lies unturned. -/
import Derived.Test.YtnbhnnjgnojgbaaRows
import Derived.WalkKit
import Derived.WalkSpells
import Derived.WalkLawsBesides
import Derived.Outline
import Derived.Below
import Derived.Lib.Strings
import Derived.Deep.RegionLaw
import Derived.Deep.RegionHeld3
import Derived.BigQuiet
import Derived.Deep.QuietTactic
import Derived.Laws.AppendOwn
import Derived.Laws.AppendOwnNone
import Derived.Laws.StructEq
import Derived.Deep.Cut
import Derived.Deep.RegionHeldLaw
import Derived.Deep.Fields
namespace Go.Proofs.Ytnbhnnjgnojgbaa
set_option linter.unusedVariables false
open Go.RowKit
theorem add_at (b o j : Nat) : (⟨b, o, none⟩ : Addr).add j = ⟨b, o + j, none⟩ := by cases j <;> simp [Addr.add]
theorem heap_new (w : World) (o : Obj) : (w.alloc o).heap[w.heap.size]? = some o := by
  show (w.heap.push o)[w.heap.size]? = _
  simp
theorem heap_old (w : World) (o : Obj) {g : Nat} (h : g < w.heap.size) : (w.alloc o).heap[g]? = w.heap[g]? := by
  show (w.heap.push o)[g]? = _
  rw [Array.getElem?_push, if_neg (by omega)]
theorem grown_refl (w : World) (k : Option Nat) : w.grownBy w k := ⟨rfl, rfl, rfl, Nat.le_refl _, fun _ _ _ => rfl⟩
/-- How an element lies in cells. -/
structure Enc (α : Type) where
  arr : α → List Value
  d : α
  k : Nat
  len : ∀ x, (arr x).length = k
  one : ∀ x, ∀ u ∈ arr x, u.oneCell' = true
  pos : 0 < k
/-- The types of a row: of the slice, of an element. -/
structure RowTy {α : Type} (E : Enc α) where
  st : TypeId
  et : TypeId
  z : Value
  bytes : Nat
  hu : Try.prog.underlying st = some (.slice et)
  hi : (Try.prog.info? et).map (fun i => (i.zero, i.size, i.bytes)) = some (some z, E.k, bytes)
  hz : z.cells.size = E.k
  hb : bytes ≤ 128
section
variable {α : Type} {E : Enc α}
/-- An element in memory, from place o of block b on. -/
def At (E : Enc α) (w : World) (b o : Nat) (x : α) : Prop := ∀ i u, (E.arr x)[i]? = some u → w.cell? ⟨b, o + i, none⟩ = some u
/-- A slice value whose elements are l. -/
def Sls (E : Enc α) (w : World) (v : Value) (l : List α) : Prop :=
  ∃ a c, v = .slice a l.length c ∧ ((a = none → c = 0) ∧ l.length ≤ c) ∧ (l = [] ∨ ∃ b o, a = some ⟨b, o, none⟩ ∧ ∀ t, t < l.length → At E w b (o + t * E.k) (l.getD t E.d))
theorem At.grow {w w' : World} {b o : Nat} {x : α} (h : At E w b o x) (hb : Below w.heap.size w w') : At E w' b o x := fun i u hu =>
  (hb.cell (p := ⟨b, o + i, none⟩) (World.block_lt_of_cell? w _ (h i u hu))).trans (h i u hu)
theorem Sls.grow {w w' : World} {v : Value} {l : List α} (h : Sls E w v l) (hb : Below w.heap.size w w') : Sls E w' v l := by
  obtain ⟨a, c, rfl, hn, h⟩ := h
  refine ⟨a, c, rfl, hn, ?_⟩
  rcases h with h | ⟨b, o, rfl, h⟩
  · exact .inl h
  · exact .inr ⟨b, o, rfl, fun t ht => (h t ht).grow hb⟩
theorem Sls.alloc {w : World} {v : Value} {l : List α} (h : Sls E w v l) (o : Obj) : Sls E (w.alloc o) v l := h.grow ((Below.refl _ w).alloc (Nat.le_refl _) o)
theorem Sls.drew {w : World} {v : Value} {l : List α} (h : Sls E w v l) : Sls E w.drew v l := h.grow ((Below.refl _ w).drew)
theorem Sls.shape {w : World} {v : Value} {l : List α} (h : Sls E w v l) : ∃ a c, v = .slice a l.length c := by
  obtain ⟨a, c, h, _⟩ := h
  exact ⟨a, c, h⟩
theorem sls_nil (w : World) : Sls E w (.slice none 0 0) [] := ⟨none, 0, rfl, ⟨fun _ => rfl, Nat.le_refl _⟩, .inl rfl⟩
/-- The element at place t. -/
theorem Sls.at {w : World} {a : Option Addr} {n c : Nat} {l : List α} (h : Sls E w (.slice a n c) l) (t : Nat) (ht : t < l.length) : ∃ b o, a = some ⟨b, o, none⟩ ∧ At E w b (o + t * E.k) (l.getD t E.d) := by
  obtain ⟨a', c', e, _, h⟩ := h
  cases e
  rcases h with h | ⟨b, o, rfl, h⟩
  · rw [h] at ht; simp at ht
  · exact ⟨b, o, rfl, h t ht⟩
theorem Sls.len {w : World} {a : Option Addr} {n c : Nat} {l : List α} (h : Sls E w (.slice a n c) l) : n = l.length := by
  obtain ⟨a', c', e, _⟩ := h
  cases e; rfl
def flat (E : Enc α) (l : List α) : List Value := (l.map E.arr).flatten
theorem flat_len (l : List α) : (flat E l).length = l.length * E.k := by
  unfold flat
  induction l with
  | nil => simp
  | cons c r ih => simp only [List.map_cons, List.flatten_cons, List.length_append, ih, List.length_cons, E.len]; rw [Nat.add_mul]; omega
theorem flat_app (l m : List α) : flat E (l ++ m) = flat E l ++ flat E m := by simp [flat]
theorem flat_one (l : List α) : ∀ u ∈ flat E l, u.oneCell' = true := by
  intro u hu
  obtain ⟨x, hx, hux⟩ := List.mem_flatten.1 hu
  obtain ⟨c, _, rfl⟩ := List.mem_map.1 hx
  exact E.one c u hux
theorem flat_get (l : List α) (t i : Nat) (ht : t < l.length) (hi : i < E.k) : (flat E l)[t * E.k + i]? = (E.arr (l.getD t E.d))[i]? := by
  induction l generalizing t with
  | nil => simp at ht
  | cons c r ih =>
    have e : flat E (c :: r) = E.arr c ++ flat E r := rfl
    have hc : (E.arr c).length = E.k := E.len c
    rw [e]
    cases t with
    | zero =>
      rw [List.getElem?_append_left (by rw [hc]; omega)]
      simp
    | succ t =>
      have h1 : (t + 1) * E.k = t * E.k + E.k := by rw [Nat.add_mul]; omega
      rw [List.getElem?_append_right (by rw [hc]; omega), hc, show (t + 1) * E.k + i - E.k = t * E.k + i by omega, ih t (by simpa using ht)]
      simp
/-- A slice of the call's own (blocks from base on), or nil. -/
def OwnS (T : RowTy E) (w : World) (base : Nat) (v : Value) (l : List α) : Prop := w.ownsRow base T.et E.k v l.length (flat E l)
variable {T : RowTy E}
theorem OwnS.cast {w : World} {base : Nat} {v : Value} {l m : List α} (h : OwnS T w base v l) (e : l = m) : OwnS T w base v m := e ▸ h
theorem OwnS.alloc {w : World} {base : Nat} {v : Value} {l : List α} (h : OwnS T w base v l) (o : Obj) : OwnS T (w.alloc o) base v l := World.ownsRow.alloc h o
theorem OwnS.lt {w : World} {base : Nat} {v : Value} {l : List α} (h : OwnS T w base v l) : ∀ k, v.ownBlock = some k → base ≤ k ∧ k < w.heap.size := World.ownsRow.lt h
theorem OwnS.stay {w w' : World} {base : Nat} {v : Value} {l : List α} (h : OwnS T w base v l) (hb : Below w.heap.size w w') : OwnS T w' base v l := by
  refine World.ownsRow.kept (row := none) h ⟨hb.os, hb.tape, hb.output, hb.size, fun k hk _ => hb.block k hk⟩ ?_
  by_cases e : v.ownBlock = none
  · exact .inl e
  · exact .inr e
theorem OwnS.nil (w : World) (base : Nat) : OwnS T w base (.slice none 0 0) [] := World.ownsRow_nil _ _ _ _
theorem OwnS.wide {w : World} {b0 b1 : Nat} {v : Value} {l : List α} (h : OwnS T w b1 v l) (hb : b0 ≤ b1) : OwnS T w b0 v l := by
  refine ⟨h.1, ?_⟩
  rcases h.2 with h | ⟨g, cap, cur, e, h1, h2⟩
  · exact .inl h
  · exact .inr ⟨g, cap, cur, e, Nat.le_trans hb h1, h2⟩
/-- .. is read as such. -/
theorem OwnS.sls {w : World} {base : Nat} {v : Value} {l : List α} (h : OwnS T w base v l) : Sls E w v l := by
  have h2 := h
  rcases h.2 with ⟨rfl, h0⟩ | ⟨g, cap, cur, rfl, hb, hg, hnc, hcm, hcs, htake⟩
  · have : l = [] := List.length_eq_zero_iff.1 h0
    subst this
    exact sls_nil _
  · refine ⟨_, cap, rfl, ⟨(fun e => by cases e), hnc⟩, ?_⟩
    by_cases hl : l = []
    · exact .inl hl
    · refine .inr ⟨g, 0, rfl, fun t ht i u hu => ?_⟩
      have hi : i < E.k := by
        rw [← E.len (l.getD t E.d)]
        rcases Nat.lt_or_ge i (E.arr (l.getD t E.d)).length with h | h
        · exact h
        · rw [List.getElem?_eq_none h] at hu; cases hu
      have := World.ownsRow.cells h2 (g := g) rfl (t * E.k + i) u (by rw [flat_get l t i ht hi]; exact hu)
      rw [add_at] at this
      rw [← this]
      congr 2
      omega
theorem OwnS.shape {w : World} {base : Nat} {v : Value} {l : List α} (h : OwnS T w base v l) : ∃ a c, v = .slice a l.length c := h.sls.shape
theorem OwnS.grows {w w' : World} {base : Nat} {v : Value} {l : List α} (h : OwnS T w base v l) (hb : base ≤ w.heap.size) (hg : w.grownBy w' v.ownBlock) : Below base w w' := (Below.refl base w).grown hg hb (fun k hk => (h.lt k hk).1)
/-- append(s, x...). -/
theorem appRb (T : RowTy E) {w : World} {ops : Array Oper} {rest : List Oper} {o : Oper} {a : Act} {Q : Exit → Act → World → Prop} (hgd : o.guard = none) (s x : Operand)
    (ho : o.op = .call { callee := .builtin .append, args := #[s, x], argTypes := #[T.st, T.st] })
    (base : Nat) (v u : Value) (l m : List α) (hs : a.eval s = v) (hx : a.eval x = u)
    (hown : OwnS T w base v l) (hm : Sls E w u m) (hbase : base ≤ w.heap.size) (hlen : l.length + m.length ≤ 4398046511104) (hbb : (l.length + m.length) * T.bytes ≤ 140737488355328)
    (h : ∀ v' w', OwnS T w' base v' (l ++ m) → w.grownBy w' v.ownBlock → wpList Try.prog ops Q rest (a.put o.dst v') w') :
    wpList Try.prog ops Q (o :: rest) a w := by
  obtain ⟨i0, hi, hz0, hz1, hz2⟩ := info_parts T.hi
  obtain ⟨ad, c, rfl, hnil, hcell⟩ := hm
  cases ad with
  | none =>
    have hms : m = [] := by
      rcases hcell with hcell | ⟨_, _, e, _⟩
      · exact hcell
      · cases e
    subst hms
    obtain rfl := hnil.1 rfl
    refine wpList_append_own_none hgd s x T.st ho base T.et i0 E.k T.hu hi v l.length (flat E l) hs hown hx ?_
    exact h v w (by simpa using hown) (grown_refl _ _)
  | some ad =>
    refine wpList_append_own _ hgd s x T.st ho base T.et i0 T.z E.k T.bytes T.hu hi hz0 hz1 hz2 T.hz E.pos v l.length (flat E l) hs hown ad m.length c (flat E m) hx (flat_len m) ?_ (flat_one m) (by unfold maxLen; omega) hbb hbase ?_
    · intro j y hj
      rcases hcell with rfl | ⟨b, o, e, hr⟩
      · simp [flat] at hj
      · cases e
        have hjl : j < m.length * E.k := by
          rw [← flat_len (E := E)]
          rcases Nat.lt_or_ge j (flat E m).length with h | h
          · exact h
          · rw [List.getElem?_eq_none h] at hj; cases hj
        have hd : j / E.k < m.length := (Nat.div_lt_iff_lt_mul E.pos).2 hjl
        have hmd : j % E.k < E.k := Nat.mod_lt _ E.pos
        have hjj : j / E.k * E.k + j % E.k = j := Nat.div_add_mod' j E.k
        have hg := flat_get (E := E) m (j / E.k) (j % E.k) hd hmd
        rw [hjj, hj] at hg
        have := hr (j / E.k) hd (j % E.k) y hg.symm
        rw [add_at]
        rw [Nat.add_assoc, hjj] at this
        exact this
    · intro v' w' h1 h2 _
      refine h v' w' ?_ h2
      unfold OwnS
      rw [flat_app]
      simpa using h1
theorem appR (T : RowTy E) {w : World} {ops : Array Oper} {rest : List Oper} {o : Oper} {a : Act} {Q : Exit → Act → World → Prop} (hgd : o.guard = none) (s x : Operand)
    (ho : o.op = .call { callee := .builtin .append, args := #[s, x], argTypes := #[T.st, T.st] })
    (base : Nat) (v u : Value) (l m : List α) (hs : a.eval s = v) (hx : a.eval x = u)
    (hown : OwnS T w base v l) (hm : Sls E w u m) (hbase : base ≤ w.heap.size) (hlen : l.length + m.length ≤ 1000000000)
    (h : ∀ v' w', OwnS T w' base v' (l ++ m) → w.grownBy w' v.ownBlock → wpList Try.prog ops Q rest (a.put o.dst v') w') :
    wpList Try.prog ops Q (o :: rest) a w :=
  appRb T hgd s x ho base v u l m hs hx hown hm hbase (by omega) (by have h1 := Nat.mul_le_mul hlen T.hb; omega) h
/-- The same inside a region that draws (x is not nil). -/
theorem stepRb (T : RowTy E) {ops : Array Oper} {o : Oper} {a : Act} {w : World} {K : Act → World → Prop} {Q : Exit → Act → World → Prop} {F : Prop} (hg : o.guard = none) (s x : Operand)
    (hop : o.op = Op.call { callee := Callee.builtin Builtin.append, args := #[s, x], argTypes := #[T.st, T.st] }) (base : Nat) (v : Value) (ad : Addr) (n c : Nat) (l m : List α) (hs : a.eval s = v) (hx : a.eval x = .slice (some ad) n c)
    (hown : OwnS T w base v l) (hm : Sls E w (.slice (some ad) n c) m) (hbase : base ≤ w.heap.size) (hlen : l.length + m.length ≤ 4398046511104) (hbb : (l.length + m.length) * T.bytes ≤ 140737488355328)
    (h : ∀ v' w', OwnS T w' base v' (l ++ m) → w.grownBy w' v.ownBlock → K (a.put o.dst v') w') : if Region.wanted o (yielded ops a.tmps) = true then Oper.wp Try.prog o a w K Q else F := by
  have hw : Region.wanted o (yielded ops a.tmps) = true := by simp [Region.wanted, hg]
  rw [if_pos hw]
  obtain ⟨i0, hi, hz0, hz1, hz2⟩ := info_parts T.hi
  obtain ⟨a', c', e, hnil, hcell⟩ := hm
  cases e
  refine wp_append_own w s x T.st hop base T.et i0 T.z E.k T.bytes T.hu hi hz0 hz1 hz2 T.hz E.pos v l.length (flat E l) hs hown ad m.length c (flat E m) hx (flat_len m) ?_ (flat_one m) (by unfold maxLen; omega) hbb hbase ?_
  · intro j y hj
    rcases hcell with rfl | ⟨b, o, e, hr⟩
    · simp [flat] at hj
    · cases e
      have hjl : j < m.length * E.k := by
        rw [← flat_len (E := E)]
        rcases Nat.lt_or_ge j (flat E m).length with h | h
        · exact h
        · rw [List.getElem?_eq_none h] at hj; cases hj
      have hd : j / E.k < m.length := (Nat.div_lt_iff_lt_mul E.pos).2 hjl
      have hmd : j % E.k < E.k := Nat.mod_lt _ E.pos
      have hjj : j / E.k * E.k + j % E.k = j := Nat.div_add_mod' j E.k
      have hg := flat_get (E := E) m (j / E.k) (j % E.k) hd hmd
      rw [hjj, hj] at hg
      have := hr (j / E.k) hd (j % E.k) y hg.symm
      rw [add_at]
      rw [Nat.add_assoc, hjj] at this
      exact this
  · intro v' w' h1 h2 _
    refine h v' w' ?_ h2
    unfold OwnS
    rw [flat_app]
    simpa using h1
theorem stepR (T : RowTy E) {ops : Array Oper} {o : Oper} {a : Act} {w : World} {K : Act → World → Prop} {Q : Exit → Act → World → Prop} {F : Prop} (hg : o.guard = none) (s x : Operand)
    (hop : o.op = Op.call { callee := Callee.builtin Builtin.append, args := #[s, x], argTypes := #[T.st, T.st] }) (base : Nat) (v : Value) (ad : Addr) (n c : Nat) (l m : List α) (hs : a.eval s = v) (hx : a.eval x = .slice (some ad) n c)
    (hown : OwnS T w base v l) (hm : Sls E w (.slice (some ad) n c) m) (hbase : base ≤ w.heap.size) (hlen : l.length + m.length ≤ 1000000000)
    (h : ∀ v' w', OwnS T w' base v' (l ++ m) → w.grownBy w' v.ownBlock → K (a.put o.dst v') w') : if Region.wanted o (yielded ops a.tmps) = true then Oper.wp Try.prog o a w K Q else F :=
  stepRb T hg s x hop base v ad n c l m hs hx hown hm hbase (by omega) (by have h1 := Nat.mul_le_mul hlen T.hb; omega) h
/-- An empty slice that is not nil. -/
theorem own_empty (w : World) (base : Nat) (h : base ≤ w.heap.size) : OwnS T (w.alloc (.cells #[] T.et)) base (.slice (some ⟨w.heap.size, 0, none⟩) 0 0) [] := by
  exact ⟨by simp [flat], .inr ⟨w.heap.size, 0, #[], rfl, h, heap_new _ _, Nat.le_refl _, by unfold maxLen; omega, by simp, by simp [flat]⟩⟩
/-- One element in a new block of its own. -/
theorem sls_one (w : World) (x : α) (cs : Array Value) (ty : TypeId) (hcs : cs.toList = E.arr x) : Sls E (w.alloc (.cells cs ty)) (.slice (some ⟨w.heap.size, 0, none⟩) 1 1) [x] := by
  refine ⟨_, 1, rfl, ⟨(fun e => by cases e), Nat.le_refl _⟩, .inr ⟨w.heap.size, 0, rfl, fun t ht i u hu => ?_⟩⟩
  have : t = 0 := by simpa using ht
  subst this
  simp only [List.getD_cons_zero, ← hcs] at hu
  rw [show 0 + 0 * E.k + i = i by omega]
  simp only [World.cell?, heap_new]
  simpa using hu
end
/-! ### Jobs -/
structure Jb where
  fo : ByteArray
  gr : ByteArray
  id : Int
  iv : Int
  off : Int
  pa : Bool
  la : Int
def jb0 : Jb := ⟨⟨#[]⟩, ⟨#[]⟩, 0, 0, 0, false, 0⟩
def eJb : Enc Jb where
  arr j := [.string j.fo, .string j.gr, .int .i64 j.id, .int .i64 j.iv, .int .i64 j.off, .bool j.pa, .int .i64 j.la]
  d := jb0
  k := 7
  len _ := rfl
  one _ u hu := by simp at hu; rcases hu with rfl | rfl | rfl | rfl | rfl | rfl | rfl <;> rfl
  pos := by decide
def encJ (j : Jb) : Value := .agg #[.string j.fo, .string j.gr, .int .i64 j.id, .int .i64 j.iv, .int .i64 j.off, .bool j.pa, .int .i64 j.la]
def celJ (j : Jb) : Array Value := #[.string j.fo, .string j.gr, .int .i64 j.id, .int .i64 j.iv, .int .i64 j.off, .bool j.pa, .int .i64 j.la]
def TJ : RowTy eJb where
  st := 22
  et := 27
  z := .agg #[.string ⟨#[]⟩, .string ⟨#[]⟩, .int .i64 0, .int .i64 0, .int .i64 0, .bool false, .int .i64 0]
  bytes := 72
  hu := Try.underlying22
  hi := by kernel_rfl
  hz := rfl
  hb := by decide
abbrev Jbs := Sls eJb
theorem at_jb {w : World} {b o : Nat} {j : Jb} (h : At eJb w b o j) : w.cell? ⟨b, o, none⟩ = some (.string j.fo) ∧ w.cell? ⟨b, o + 1, none⟩ = some (.string j.gr) ∧ w.cell? ⟨b, o + 2, none⟩ = some (.int .i64 j.id) ∧ w.cell? ⟨b, o + 3, none⟩ = some (.int .i64 j.iv) ∧
    w.cell? ⟨b, o + 4, none⟩ = some (.int .i64 j.off) ∧ w.cell? ⟨b, o + 5, none⟩ = some (.bool j.pa) ∧ w.cell? ⟨b, o + 6, none⟩ = some (.int .i64 j.la) := ⟨h 0 _ rfl, h 1 _ rfl, h 2 _ rfl, h 3 _ rfl, h 4 _ rfl, h 5 _ rfl, h 6 _ rfl⟩
theorem jb_at {w : World} {a : Option Addr} {n c : Nat} {l : List Jb} (h : Jbs w (.slice a n c) l) (t : Nat) (ht : t < l.length) : ∃ b o, a = some ⟨b, o, none⟩ ∧ At eJb w b (o + t * 7) (l.getD t jb0) := h.at t ht
theorem getD_mem {α : Type} (l : List α) (d : α) (k : Nat) (h : k < l.length) : l.getD k d ∈ l := by
  rw [List.getD_eq_getElem?_getD, List.getElem?_eq_getElem h]; exact List.getElem_mem h
theorem take_getD {α : Type} (l : List α) (d : α) (k : Nat) (h : k < l.length) : l.take (k + 1) = l.take k ++ [l.getD k d] := by
  rw [List.take_add_one, List.getElem?_eq_getElem h, List.getD_eq_getElem?_getD, List.getElem?_eq_getElem h]; rfl
/-! ### Worlds in which all that lay lies unturned -/
structure Bel (w : World) where
  W : World
  h : Below w.heap.size w W
instance (w : World) : Nonempty (Bel w) := ⟨⟨w, Below.refl _ _⟩⟩
theorem wp_region_bel {P : Program} {id : Nat} {Q : Exit → Act → World → Prop} {a : Act} {w : World} {l : List Oper} (hm : P.follows .mixedOrders = true) (hB : Region.lexB .any l.toArray = true)
    (h : wpQuiet P l.toArray (fun w' => ∃ p : Bel w, w' = p.W) (fun a' => ∀ w', (∃ p : Bel w, w' = p.W) → Q .normal a' w') l a) : (Code.region id l.toArray true).wp P Q a w :=
  wp_region_quiet (C := fun w' => ∃ p : Bel w, w' = p.W) hm hB ⟨⟨w.drew, (Below.refl _ _).drew⟩, rfl⟩ (by simpa using h)
theorem Calls.bel {P : Program} {f : FuncId} {args : Array Value} {w : World} {p : Bel w} {v : Value}
    (h : Calls P f args p.W fun e w' => e = .returned v ∧ Below p.W.heap.size p.W w') : Calls P f args p.W fun e w'' => e = .returned v ∧ ∃ q : Bel w, w'' = q.W :=
  h.mono fun _ w' ⟨he, hb⟩ => ⟨he, ⟨w', p.h.trans (hb.mono p.h.size)⟩, rfl⟩
theorem Bel.cell {w : World} (p : Bel w) {b o : Nat} {v : Value} (h : w.cell? ⟨b, o, none⟩ = some v) : p.W.cell? ⟨b, o, none⟩ = some v :=
  (p.h.cell (p := ⟨b, o, none⟩) (World.block_lt_of_cell? w _ h)).trans h
theorem calls_alloc {P : Program} {f : FuncId} {args : Array Value} {W : World} {v : Value} {o : Obj} (h : Calls P f args W fun e w' => e = .returned v ∧ w' = W.alloc o) : Calls P f args W fun e w' => e = .returned v ∧ Below W.heap.size W w' :=
  h.mono fun _ _ ⟨he, hw⟩ => ⟨he, hw ▸ (Below.refl _ _).alloc (Nat.le_refl _) _⟩
theorem calls_same {P : Program} {f : FuncId} {args : Array Value} {W : World} {v : Value} (h : Calls P f args W fun e w' => e = .returned v ∧ w' = W) : Calls P f args W fun e w' => e = .returned v ∧ Below W.heap.size W w' :=
  h.mono fun _ _ ⟨he, hw⟩ => ⟨he, hw ▸ Below.refl _ _⟩
end Go.Proofs.Ytnbhnnjgnojgbaa
