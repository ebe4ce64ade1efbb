/- Rows of elements of k cells each (labels, matchers, texts): read, or of the call's own; append. -/
import Derived.Test.YtiajafljgfpdcaaGreatBa
import Derived.Laws.AppendOwn
namespace Go.Proofs.YtiajafljgfpdcaaGreat
set_option linter.unusedVariables false
open Go.RowKit
theorem grown_refl (w : World) (k : Option Nat) : w.grownBy w k := ⟨rfl, rfl, rfl, Nat.le_refl _, fun _ _ _ => rfl⟩
/-- How an element lies in cells. -/
structure Enc (α : Type) where
  arr : α → List Value
  d : α
  k : Nat
  len : ∀ x, (arr x).length = k
  one : ∀ x, ∀ u ∈ arr x, u.oneCell' = true
  pos : 0 < k
/-- The types of a row: of the slice, of an element. -/
structure RowTy {α : Type} (E : Enc α) where
  st : TypeId
  et : TypeId
  z : Value
  bytes : Nat
  hu : Tryz.prog.underlying st = some (.slice et)
  hi : (Tryz.prog.info? et).map (fun i => (i.zero, i.size, i.bytes)) = some (some z, E.k, bytes)
  hz : z.cells.size = E.k
  hb : bytes ≤ 200
section
variable {α : Type} {E : Enc α}
/-- An element in memory, from place o of block b on. -/
def At (E : Enc α) (w : World) (b o : Nat) (x : α) : Prop := ∀ i u, (E.arr x)[i]? = some u → w.cell? ⟨b, o + i, none⟩ = some u
/-- A slice value whose elements are l. -/
def Sls (E : Enc α) (w : World) (v : Value) (l : List α) : Prop :=
  ∃ a c, v = .slice a l.length c ∧ ((a = none → c = 0) ∧ l.length ≤ c) ∧ (l = [] ∨ ∃ b o, a = some ⟨b, o, none⟩ ∧ ∀ t, t < l.length → At E w b (o + t * E.k) (l.getD t E.d))
theorem At.grow {w w' : World} {b o : Nat} {x : α} (h : At E w b o x) (hb : Below w.heap.size w w') : At E w' b o x := fun i u hu =>
  (hb.cell (p := ⟨b, o + i, none⟩) (World.block_lt_of_cell? w _ (h i u hu))).trans (h i u hu)
theorem Sls.grow {w w' : World} {v : Value} {l : List α} (h : Sls E w v l) (hb : Below w.heap.size w w') : Sls E w' v l := by
  obtain ⟨a, c, rfl, hn, h⟩ := h
  refine ⟨a, c, rfl, hn, ?_⟩
  rcases h with h | ⟨b, o, rfl, h⟩
  · exact .inl h
  · exact .inr ⟨b, o, rfl, fun t ht => (h t ht).grow hb⟩
theorem Sls.alloc {w : World} {v : Value} {l : List α} (h : Sls E w v l) (o : Obj) : Sls E (w.alloc o) v l := h.grow ((Below.refl _ w).alloc (Nat.le_refl _) o)
theorem Sls.drew {w : World} {v : Value} {l : List α} (h : Sls E w v l) : Sls E w.drew v l := h.grow ((Below.refl _ w).drew)
theorem Sls.shape {w : World} {v : Value} {l : List α} (h : Sls E w v l) : ∃ a c, v = .slice a l.length c := by
  obtain ⟨a, c, h, _⟩ := h
  exact ⟨a, c, h⟩
theorem sls_nil (w : World) : Sls E w (.slice none 0 0) [] := ⟨none, 0, rfl, ⟨fun _ => rfl, Nat.le_refl _⟩, .inl rfl⟩
/-- The element at place t. -/
theorem Sls.at {w : World} {a : Option Addr} {n c : Nat} {l : List α} (h : Sls E w (.slice a n c) l) (t : Nat) (ht : t < l.length) : ∃ b o, a = some ⟨b, o, none⟩ ∧ At E w b (o + t * E.k) (l.getD t E.d) := by
  obtain ⟨a', c', e, _, h⟩ := h
  cases e
  rcases h with h | ⟨b, o, rfl, h⟩
  · rw [h] at ht; simp at ht
  · exact ⟨b, o, rfl, h t ht⟩
theorem Sls.len {w : World} {a : Option Addr} {n c : Nat} {l : List α} (h : Sls E w (.slice a n c) l) : n = l.length := by
  obtain ⟨a', c', e, _⟩ := h
  cases e; rfl
def flat (E : Enc α) (l : List α) : List Value := (l.map E.arr).flatten
theorem flat_len (l : List α) : (flat E l).length = l.length * E.k := by
  unfold flat
  induction l with
  | nil => simp
  | cons c r ih => simp only [List.map_cons, List.flatten_cons, List.length_append, ih, List.length_cons, E.len]; rw [Nat.add_mul]; omega
theorem flat_app (l m : List α) : flat E (l ++ m) = flat E l ++ flat E m := by simp [flat]
theorem flat_one (l : List α) : ∀ u ∈ flat E l, u.oneCell' = true := by
  intro u hu
  obtain ⟨x, hx, hux⟩ := List.mem_flatten.1 hu
  obtain ⟨c, _, rfl⟩ := List.mem_map.1 hx
  exact E.one c u hux
theorem flat_get (l : List α) (t i : Nat) (ht : t < l.length) (hi : i < E.k) : (flat E l)[t * E.k + i]? = (E.arr (l.getD t E.d))[i]? := by
  induction l generalizing t with
  | nil => simp at ht
  | cons c r ih =>
    have e : flat E (c :: r) = E.arr c ++ flat E r := rfl
    have hc : (E.arr c).length = E.k := E.len c
    rw [e]
    cases t with
    | zero =>
      rw [List.getElem?_append_left (by rw [hc]; omega)]
      simp
    | succ t =>
      have h1 : (t + 1) * E.k = t * E.k + E.k := by rw [Nat.add_mul]; omega
      rw [List.getElem?_append_right (by rw [hc]; omega), hc, show (t + 1) * E.k + i - E.k = t * E.k + i by omega, ih t (by simpa using ht)]
      simp
/-- A slice of the call's own (blocks from base on), or nil. -/
def OwnS (T : RowTy E) (w : World) (base : Nat) (v : Value) (l : List α) : Prop := w.ownsRow base T.et E.k v l.length (flat E l)
variable {T : RowTy E}
theorem OwnS.cast {w : World} {base : Nat} {v : Value} {l m : List α} (h : OwnS T w base v l) (e : l = m) : OwnS T w base v m := e ▸ h
theorem OwnS.alloc {w : World} {base : Nat} {v : Value} {l : List α} (h : OwnS T w base v l) (o : Obj) : OwnS T (w.alloc o) base v l := World.ownsRow.alloc h o
theorem OwnS.lt {w : World} {base : Nat} {v : Value} {l : List α} (h : OwnS T w base v l) : ∀ k, v.ownBlock = some k → base ≤ k ∧ k < w.heap.size := World.ownsRow.lt h
theorem OwnS.stay {w w' : World} {base : Nat} {v : Value} {l : List α} (h : OwnS T w base v l) (hb : Below w.heap.size w w') : OwnS T w' base v l := by
  refine World.ownsRow.kept (row := none) h ⟨hb.os, hb.tape, hb.output, hb.size, fun k hk _ => hb.block k hk⟩ ?_
  by_cases e : v.ownBlock = none
  · exact .inl e
  · exact .inr e
theorem OwnS.nil (w : World) (base : Nat) : OwnS T w base (.slice none 0 0) [] := World.ownsRow_nil _ _ _ _
theorem OwnS.wide {w : World} {b0 b1 : Nat} {v : Value} {l : List α} (h : OwnS T w b1 v l) (hb : b0 ≤ b1) : OwnS T w b0 v l := by
  refine ⟨h.1, ?_⟩
  rcases h.2 with h | ⟨g, cap, cur, e, h1, h2⟩
  · exact .inl h
  · exact .inr ⟨g, cap, cur, e, Nat.le_trans hb h1, h2⟩
/-- .. is read as such. -/
theorem OwnS.sls {w : World} {base : Nat} {v : Value} {l : List α} (h : OwnS T w base v l) : Sls E w v l := by
  have h2 := h
  rcases h.2 with ⟨rfl, h0⟩ | ⟨g, cap, cur, rfl, hb, hg, hnc, hcm, hcs, htake⟩
  · have : l = [] := List.length_eq_zero_iff.1 h0
    subst this
    exact sls_nil _
  · refine ⟨_, cap, rfl, ⟨(fun e => by cases e), hnc⟩, ?_⟩
    by_cases hl : l = []
    · exact .inl hl
    · refine .inr ⟨g, 0, rfl, fun t ht i u hu => ?_⟩
      have hi : i < E.k := by
        rw [← E.len (l.getD t E.d)]
        rcases Nat.lt_or_ge i (E.arr (l.getD t E.d)).length with h | h
        · exact h
        · rw [List.getElem?_eq_none h] at hu; cases hu
      have := World.ownsRow.cells h2 (g := g) rfl (t * E.k + i) u (by rw [flat_get l t i ht hi]; exact hu)
      rw [add_at] at this
      rw [← this]
      congr 2
      omega
theorem OwnS.shape {w : World} {base : Nat} {v : Value} {l : List α} (h : OwnS T w base v l) : ∃ a c, v = .slice a l.length c := h.sls.shape
theorem OwnS.grows {w w' : World} {base : Nat} {v : Value} {l : List α} (h : OwnS T w base v l) (hb : base ≤ w.heap.size) (hg : w.grownBy w' v.ownBlock) : Below base w w' := (Below.refl base w).grown hg hb (fun k hk => (h.lt k hk).1)
/-- append(s, x...). -/
theorem appR (T : RowTy E) {w : World} {ops : Array Oper} {rest : List Oper} {o : Oper} {a : Act} {Q : Exit → Act → World → Prop} (hgd : o.guard = none) (s x : Operand)
    (ho : o.op = .call { callee := .builtin .append, args := #[s, x], argTypes := #[T.st, T.st] })
    (base : Nat) (v u : Value) (l m : List α) (hs : a.eval s = v) (hx : a.eval x = u)
    (hown : OwnS T w base v l) (hm : Sls E w u m) (hbase : base ≤ w.heap.size) (hlen : l.length + m.length ≤ 1000000000)
    (h : ∀ v' w', OwnS T w' base v' (l ++ m) → w.grownBy w' v.ownBlock → wpList Tryz.prog ops Q rest (a.put o.dst v') w') :
    wpList Tryz.prog ops Q (o :: rest) a w := by
  obtain ⟨i0, hi, hz0, hz1, hz2⟩ := info_parts T.hi
  obtain ⟨ad, c, rfl, hnil, hcell⟩ := hm
  cases ad with
  | none =>
    have hms : m = [] := by
      rcases hcell with hcell | ⟨_, _, e, _⟩
      · exact hcell
      · cases e
    subst hms
    obtain rfl := hnil.1 rfl
    refine wpList_append_own_none hgd s x T.st ho base T.et i0 E.k T.hu hi v l.length (flat E l) hs hown hx ?_
    exact h v w (by simpa using hown) (grown_refl _ _)
  | some ad =>
    have hbb : (l.length + m.length) * T.bytes ≤ 140737488355328 := by
      have h1 := Nat.mul_le_mul hlen T.hb
      omega
    refine wpList_append_own _ hgd s x T.st ho base T.et i0 T.z E.k T.bytes T.hu hi hz0 hz1 hz2 T.hz E.pos v l.length (flat E l) hs hown ad m.length c (flat E m) hx (flat_len m) ?_ (flat_one m) (by unfold maxLen; omega) hbb hbase ?_
    · intro j y hj
      rcases hcell with rfl | ⟨b, o, e, hr⟩
      · simp [flat] at hj
      · cases e
        have hjl : j < m.length * E.k := by
          rw [← flat_len (E := E)]
          rcases Nat.lt_or_ge j (flat E m).length with h | h
          · exact h
          · rw [List.getElem?_eq_none h] at hj; cases hj
        have hd : j / E.k < m.length := (Nat.div_lt_iff_lt_mul E.pos).2 hjl
        have hmd : j % E.k < E.k := Nat.mod_lt _ E.pos
        have hjj : j / E.k * E.k + j % E.k = j := Nat.div_add_mod' j E.k
        have hg := flat_get (E := E) m (j / E.k) (j % E.k) hd hmd
        rw [hjj, hj] at hg
        have := hr (j / E.k) hd (j % E.k) y hg.symm
        rw [add_at, ← this]
        exact congrArg (fun t => w.cell? ⟨_, t, none⟩) (by omega)
    · intro v' w' h1 h2 _
      refine h v' w' ?_ h2
      unfold OwnS
      rw [flat_app]
      simpa using h1
/-- The same inside a region that draws (x is not nil). -/
theorem stepR (T : RowTy E) {ops : Array Oper} {o : Oper} {a : Act} {w : World} {K : Act → World → Prop} {Q : Exit → Act → World → Prop} {F : Prop} (hg : o.guard = none) (s x : Operand)
    (hop : o.op = Op.call { callee := Callee.builtin Builtin.append, args := #[s, x], argTypes := #[T.st, T.st] }) (base : Nat) (v : Value) (ad : Addr) (n c : Nat) (l m : List α) (hs : a.eval s = v) (hx : a.eval x = .slice (some ad) n c)
    (hown : OwnS T w base v l) (hm : Sls E w (.slice (some ad) n c) m) (hbase : base ≤ w.heap.size) (hlen : l.length + m.length ≤ 1000000000)
    (h : ∀ v' w', OwnS T w' base v' (l ++ m) → w.grownBy w' v.ownBlock → K (a.put o.dst v') w') : if Region.wanted o (yielded ops a.tmps) = true then Oper.wp Tryz.prog o a w K Q else F := by
  have hw : Region.wanted o (yielded ops a.tmps) = true := by simp [Region.wanted, hg]
  rw [if_pos hw]
  obtain ⟨i0, hi, hz0, hz1, hz2⟩ := info_parts T.hi
  obtain ⟨a', c', e, hnil, hcell⟩ := hm
  cases e
  have hbb : (l.length + m.length) * T.bytes ≤ 140737488355328 := by
    have h1 := Nat.mul_le_mul hlen T.hb
    omega
  refine wp_append_own w s x T.st hop base T.et i0 T.z E.k T.bytes T.hu hi hz0 hz1 hz2 T.hz E.pos v l.length (flat E l) hs hown ad m.length c (flat E m) hx (flat_len m) ?_ (flat_one m) (by unfold maxLen; omega) hbb hbase ?_
  · intro j y hj
    rcases hcell with rfl | ⟨b, o, e, hr⟩
    · simp [flat] at hj
    · cases e
      have hjl : j < m.length * E.k := by
        rw [← flat_len (E := E)]
        rcases Nat.lt_or_ge j (flat E m).length with h | h
        · exact h
        · rw [List.getElem?_eq_none h] at hj; cases hj
      have hd : j / E.k < m.length := (Nat.div_lt_iff_lt_mul E.pos).2 hjl
      have hmd : j % E.k < E.k := Nat.mod_lt _ E.pos
      have hjj : j / E.k * E.k + j % E.k = j := Nat.div_add_mod' j E.k
      have hg := flat_get (E := E) m (j / E.k) (j % E.k) hd hmd
      rw [hjj, hj] at hg
      have := hr (j / E.k) hd (j % E.k) y hg.symm
      rw [add_at, ← this]
      exact congrArg (fun t => w.cell? ⟨_, t, none⟩) (by omega)
  · intro v' w' h1 h2 _
    refine h v' w' ?_ h2
    unfold OwnS
    rw [flat_app]
    simpa using h1
/-- An empty slice that is not nil. -/
theorem own_empty (w : World) (base : Nat) (h : base ≤ w.heap.size) : OwnS T (w.alloc (.cells #[] T.et)) base (.slice (some ⟨w.heap.size, 0, none⟩) 0 0) [] := by
  exact ⟨by simp [flat], .inr ⟨w.heap.size, 0, #[], rfl, h, heap_new _ _, Nat.le_refl _, by unfold maxLen; omega, by simp, by simp [flat]⟩⟩
/-- One element in a new block of its own. -/
theorem sls_one (w : World) (x : α) (cs : Array Value) (ty : TypeId) (hcs : cs.toList = E.arr x) : Sls E (w.alloc (.cells cs ty)) (.slice (some ⟨w.heap.size, 0, none⟩) 1 1) [x] := by
  refine ⟨_, 1, rfl, ⟨(fun e => by cases e), Nat.le_refl _⟩, .inr ⟨w.heap.size, 0, rfl, fun t ht i u hu => ?_⟩⟩
  have : t = 0 := by simpa using ht
  subst this
  simp only [List.getD_cons_zero, ← hcs] at hu
  rw [show 0 + 0 * E.k + i = i by omega]
  simp only [World.cell?, heap_new]
  simpa using hu
end
/-! ### Labels, texts, matchers -/
/-- A matcher. -/
structure Mt where
  name : ByteArray
  op : ByteArray
  value : ByteArray
def lb0 : Lb := ⟨⟨#[]⟩, ⟨#[]⟩⟩
def encL : Enc Lb where
  arr a := [.string a.name, .string a.value]
  d := lb0
  k := 2
  len _ := rfl
  one _ u hu := by simp at hu; rcases hu with rfl | rfl <;> rfl
  pos := by decide
def mt0 : Mt := ⟨⟨#[]⟩, ⟨#[]⟩, ⟨#[]⟩⟩
def encM : Enc Mt where
  arr a := [.string a.name, .string a.op, .string a.value]
  d := mt0
  k := 3
  len _ := rfl
  one _ u hu := by simp at hu; rcases hu with rfl | rfl | rfl <;> rfl
  pos := by decide
def encS : Enc ByteArray where
  arr a := [.string a]
  d := ⟨#[]⟩
  k := 1
  len _ := rfl
  one _ u hu := by simp at hu; subst hu; rfl
  pos := by decide
def TL : RowTy encL where
  st := 24
  et := 70
  z := .agg #[.string ⟨#[]⟩, .string ⟨#[]⟩]
  bytes := 32
  hu := Tryz.underlying24
  hi := by kernel_rfl
  hz := rfl
  hb := by decide
def TS : RowTy encS where
  st := 136
  et := 9
  z := .string ⟨#[]⟩
  bytes := 16
  hu := Tryz.underlying136
  hi := by kernel_rfl
  hz := rfl
  hb := by decide
abbrev Lbs := Sls encL
abbrev Mts := Sls encM
abbrev Txs := Sls encS
abbrev OwnL := OwnS TL
abbrev OwnT := OwnS TS
theorem at_lb {w : World} {b o : Nat} {a : Lb} (h : At encL w b o a) : w.cell? ⟨b, o, none⟩ = some (.string a.name) ∧ w.cell? ⟨b, o + 1, none⟩ = some (.string a.value) := ⟨h 0 _ rfl, h 1 _ rfl⟩
theorem at_mt {w : World} {b o : Nat} {a : Mt} (h : At encM w b o a) : w.cell? ⟨b, o, none⟩ = some (.string a.name) ∧ w.cell? ⟨b, o + 1, none⟩ = some (.string a.op) ∧ w.cell? ⟨b, o + 2, none⟩ = some (.string a.value) := ⟨h 0 _ rfl, h 1 _ rfl, h 2 _ rfl⟩
theorem at_tx {w : World} {b o : Nat} {a : ByteArray} (h : At encS w b o a) : w.cell? ⟨b, o, none⟩ = some (.string a) := h 0 _ rfl
/-- The label at place t. -/
theorem lb_at {w : World} {a : Option Addr} {n c : Nat} {l : List Lb} (h : Lbs w (.slice a n c) l) (t : Nat) (ht : t < l.length) : ∃ b o, a = some ⟨b, o, none⟩ ∧ w.cell? ⟨b, o + t * 2, none⟩ = some (.string (l.getD t lb0).name) ∧ w.cell? ⟨b, o + t * 2 + 1, none⟩ = some (.string (l.getD t lb0).value) := by
  obtain ⟨b, o, e, h⟩ := h.at t ht
  exact ⟨b, o, e, at_lb h⟩
theorem mt_at {w : World} {a : Option Addr} {n c : Nat} {l : List Mt} (h : Mts w (.slice a n c) l) (t : Nat) (ht : t < l.length) : ∃ b o, a = some ⟨b, o, none⟩ ∧ w.cell? ⟨b, o + t * 3, none⟩ = some (.string (l.getD t mt0).name) ∧ w.cell? ⟨b, o + t * 3 + 1, none⟩ = some (.string (l.getD t mt0).op) ∧ w.cell? ⟨b, o + t * 3 + 2, none⟩ = some (.string (l.getD t mt0).value) := by
  obtain ⟨b, o, e, h⟩ := h.at t ht
  exact ⟨b, o, e, at_mt h⟩
theorem tx_at {w : World} {a : Option Addr} {n c : Nat} {l : List ByteArray} (h : Txs w (.slice a n c) l) (t : Nat) (ht : t < l.length) : ∃ b o, a = some ⟨b, o, none⟩ ∧ w.cell? ⟨b, o + t, none⟩ = some (.string (l.getD t ⟨#[]⟩)) := by
  obtain ⟨b, o, e, h⟩ := h.at t ht
  have := at_tx h
  rw [show t * encS.k = t from Nat.mul_one t] at this
  exact ⟨b, o, e, this⟩
end Go.Proofs.YtiajafljgfpdcaaGreat
