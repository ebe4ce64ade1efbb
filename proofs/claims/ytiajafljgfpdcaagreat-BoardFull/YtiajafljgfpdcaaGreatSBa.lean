/- Rows of elements of k cells each: read; instances, holds, acts; worlds in which all that lay lies unturned. -/
import Derived.Test.YtiajafljgfpdcaaGreatRows
import Derived.WalkKit
import Derived.WalkSpells
import Derived.WalkLawsBesides
import Derived.Outline
import Derived.Below
import Derived.Lib.Strings
import Derived.Deep.RegionLaw
import Derived.Deep.RegionHeld3
import Derived.BigQuiet
import Derived.Deep.QuietTactic
namespace Go.Proofs.YtiajafljgfpdcaaGreat.S
set_option linter.unusedVariables false
open Go.RowKit
theorem add_at (b o j : Nat) : (⟨b, o, none⟩ : Addr).add j = ⟨b, o + j, none⟩ := by cases j <;> simp [Addr.add]
theorem heap_new (w : World) (o : Obj) : (w.alloc o).heap[w.heap.size]? = some o := by
  show (w.heap.push o)[w.heap.size]? = _
  simp
theorem heap_old (w : World) (o : Obj) {g : Nat} (h : g < w.heap.size) : (w.alloc o).heap[g]? = w.heap[g]? := by
  show (w.heap.push o)[g]? = _
  rw [Array.getElem?_push, if_neg (by omega)]
theorem grown_refl (w : World) (k : Option Nat) : w.grownBy w k := ⟨rfl, rfl, rfl, Nat.le_refl _, fun _ _ _ => rfl⟩
/-- How an element lies in cells. -/
structure Enc (α : Type) where
  arr : α → List Value
  d : α
  k : Nat
  len : ∀ x, (arr x).length = k
  one : ∀ x, ∀ u ∈ arr x, u.oneCell' = true
  pos : 0 < k
/-- The types of a row: of the slice, of an element. -/
structure RowTy {α : Type} (E : Enc α) where
  st : TypeId
  et : TypeId
  z : Value
  bytes : Nat
  hu : Tryz.prog.underlying st = some (.slice et)
  hi : (Tryz.prog.info? et).map (fun i => (i.zero, i.size, i.bytes)) = some (some z, E.k, bytes)
  hz : z.cells.size = E.k
  hb : bytes ≤ 64
section
variable {α : Type} {E : Enc α}
/-- An element in memory, from place o of block b on. -/
def At (E : Enc α) (w : World) (b o : Nat) (x : α) : Prop := ∀ i u, (E.arr x)[i]? = some u → w.cell? ⟨b, o + i, none⟩ = some u
/-- A slice value whose elements are l. -/
def Sls (E : Enc α) (w : World) (v : Value) (l : List α) : Prop :=
  ∃ a c, v = .slice a l.length c ∧ ((a = none → c = 0) ∧ l.length ≤ c) ∧ (l = [] ∨ ∃ b o, a = some ⟨b, o, none⟩ ∧ ∀ t, t < l.length → At E w b (o + t * E.k) (l.getD t E.d))
theorem At.grow {w w' : World} {b o : Nat} {x : α} (h : At E w b o x) (hb : Below w.heap.size w w') : At E w' b o x := fun i u hu =>
  (hb.cell (p := ⟨b, o + i, none⟩) (World.block_lt_of_cell? w _ (h i u hu))).trans (h i u hu)
theorem Sls.grow {w w' : World} {v : Value} {l : List α} (h : Sls E w v l) (hb : Below w.heap.size w w') : Sls E w' v l := by
  obtain ⟨a, c, rfl, hn, h⟩ := h
  refine ⟨a, c, rfl, hn, ?_⟩
  rcases h with h | ⟨b, o, rfl, h⟩
  · exact .inl h
  · exact .inr ⟨b, o, rfl, fun t ht => (h t ht).grow hb⟩
theorem Sls.alloc {w : World} {v : Value} {l : List α} (h : Sls E w v l) (o : Obj) : Sls E (w.alloc o) v l := h.grow ((Below.refl _ w).alloc (Nat.le_refl _) o)
theorem Sls.drew {w : World} {v : Value} {l : List α} (h : Sls E w v l) : Sls E w.drew v l := h.grow ((Below.refl _ w).drew)
theorem Sls.shape {w : World} {v : Value} {l : List α} (h : Sls E w v l) : ∃ a c, v = .slice a l.length c := by
  obtain ⟨a, c, h, _⟩ := h
  exact ⟨a, c, h⟩
theorem sls_nil (w : World) : Sls E w (.slice none 0 0) [] := ⟨none, 0, rfl, ⟨fun _ => rfl, Nat.le_refl _⟩, .inl rfl⟩
/-- The element at place t. -/
theorem Sls.at {w : World} {a : Option Addr} {n c : Nat} {l : List α} (h : Sls E w (.slice a n c) l) (t : Nat) (ht : t < l.length) : ∃ b o, a = some ⟨b, o, none⟩ ∧ At E w b (o + t * E.k) (l.getD t E.d) := by
  obtain ⟨a', c', e, _, h⟩ := h
  cases e
  rcases h with h | ⟨b, o, rfl, h⟩
  · rw [h] at ht; simp at ht
  · exact ⟨b, o, rfl, h t ht⟩
theorem Sls.len {w : World} {a : Option Addr} {n c : Nat} {l : List α} (h : Sls E w (.slice a n c) l) : n = l.length := by
  obtain ⟨a', c', e, _⟩ := h
  cases e; rfl
/-- One element in a new block of its own. -/
theorem sls_one (w : World) (x : α) (cs : Array Value) (ty : TypeId) (hcs : cs.toList = E.arr x) : Sls E (w.alloc (.cells cs ty)) (.slice (some ⟨w.heap.size, 0, none⟩) 1 1) [x] := by
  refine ⟨_, 1, rfl, ⟨(fun e => by cases e), Nat.le_refl _⟩, .inr ⟨w.heap.size, 0, rfl, fun t ht i u hu => ?_⟩⟩
  have : t = 0 := by simpa using ht
  subst this
  simp only [List.getD_cons_zero, ← hcs] at hu
  rw [show 0 + 0 * E.k + i = i by omega]
  simp only [World.cell?, heap_new]
  simpa using hu
end
/-! ### Ints, acts -/
def eIn : Enc Int where
  arr a := [.int .i64 a]
  d := 0
  k := 1
  len _ := rfl
  one _ u hu := by simp at hu; subst hu; rfl
  pos := by decide
/-- An evaluation: how much later, its result, its value's Kind and N. -/
structure Ac where
  later : Int
  res : Int
  vk : Int
  vn : Int
def ac0 : Ac := ⟨0, 0, 0, 0⟩
def eAc : Enc Ac where
  arr a := [.int .i64 a.later, .int .i64 a.res, .int .i64 a.vk, .int .i64 a.vn]
  d := ac0
  k := 4
  len _ := rfl
  one _ u hu := by simp at hu; rcases hu with rfl | rfl | rfl | rfl <;> rfl
  pos := by decide
def TI : RowTy eIn where
  st := 76
  et := 2
  z := .int .i64 0
  bytes := 8
  hu := Tryz.underlying76
  hi := by kernel_rfl
  hz := rfl
  hb := by decide
abbrev Ins := Sls eIn
abbrev Acs := Sls eAc
theorem in_at {w : World} {a : Option Addr} {n c : Nat} {l : List Int} (h : Ins w (.slice a n c) l) (t : Nat) (ht : t < l.length) : ∃ b o, a = some ⟨b, o, none⟩ ∧ w.cell? ⟨b, o + t, none⟩ = some (.int .i64 (l.getD t 0)) := by
  obtain ⟨b, o, e, h⟩ := h.at t ht
  have := h 0 _ rfl
  rw [show t * eIn.k = t from Nat.mul_one t] at this
  exact ⟨b, o, e, this⟩
theorem ac_at {w : World} {a : Option Addr} {n c : Nat} {l : List Ac} (h : Acs w (.slice a n c) l) (t : Nat) (ht : t < l.length) : ∃ b o, a = some ⟨b, o, none⟩ ∧ w.cell? ⟨b, o + t * 4, none⟩ = some (.int .i64 (l.getD t ac0).later) ∧ w.cell? ⟨b, o + t * 4 + 1, none⟩ = some (.int .i64 (l.getD t ac0).res) ∧ w.cell? ⟨b, o + t * 4 + 2, none⟩ = some (.int .i64 (l.getD t ac0).vk) ∧ w.cell? ⟨b, o + t * 4 + 3, none⟩ = some (.int .i64 (l.getD t ac0).vn) := by
  obtain ⟨b, o, e, h⟩ := h.at t ht
  exact ⟨b, o, e, h 0 _ rfl, h 1 _ rfl, h 2 _ rfl, h 3 _ rfl⟩
/-! ### Worlds in which all that lay lies unturned -/
structure Bel (w : World) where
  W : World
  h : Below w.heap.size w W
instance (w : World) : Nonempty (Bel w) := ⟨⟨w, Below.refl _ _⟩⟩
theorem wp_region_bel {P : Program} {id : Nat} {Q : Exit → Act → World → Prop} {a : Act} {w : World} {l : List Oper} (hm : P.follows .mixedOrders = true) (hB : Region.lexB .any l.toArray = true)
    (h : wpQuiet P l.toArray (fun w' => ∃ p : Bel w, w' = p.W) (fun a' => ∀ w', (∃ p : Bel w, w' = p.W) → Q .normal a' w') l a) : (Code.region id l.toArray true).wp P Q a w :=
  wp_region_quiet (C := fun w' => ∃ p : Bel w, w' = p.W) hm hB ⟨⟨w.drew, (Below.refl _ _).drew⟩, rfl⟩ (by simpa using h)
theorem Calls.bel {P : Program} {f : FuncId} {args : Array Value} {w : World} {p : Bel w} {v : Value}
    (h : Calls P f args p.W fun e w' => e = .returned v ∧ Below p.W.heap.size p.W w') : Calls P f args p.W fun e w'' => e = .returned v ∧ ∃ q : Bel w, w'' = q.W :=
  h.mono fun _ w' ⟨he, hb⟩ => ⟨he, ⟨w', p.h.trans (hb.mono p.h.size)⟩, rfl⟩
theorem Bel.cell {w : World} (p : Bel w) {b o : Nat} {v : Value} (h : w.cell? ⟨b, o, none⟩ = some v) : p.W.cell? ⟨b, o, none⟩ = some v :=
  (p.h.cell (p := ⟨b, o, none⟩) (World.block_lt_of_cell? w _ h)).trans h
theorem calls_alloc {P : Program} {f : FuncId} {args : Array Value} {W : World} {v : Value} {o : Obj} (h : Calls P f args W fun e w' => e = .returned v ∧ w' = W.alloc o) : Calls P f args W fun e w' => e = .returned v ∧ Below W.heap.size W w' :=
  h.mono fun _ _ ⟨he, hw⟩ => ⟨he, hw ▸ (Below.refl _ _).alloc (Nat.le_refl _) _⟩
theorem calls_same {P : Program} {f : FuncId} {args : Array Value} {W : World} {v : Value} (h : Calls P f args W fun e w' => e = .returned v ∧ w' = W) : Calls P f args W fun e w' => e = .returned v ∧ Below W.heap.size W w' :=
  h.mono fun _ _ ⟨he, hw⟩ => ⟨he, hw ▸ Below.refl _ _⟩
end Go.Proofs.YtiajafljgfpdcaaGreat.S
