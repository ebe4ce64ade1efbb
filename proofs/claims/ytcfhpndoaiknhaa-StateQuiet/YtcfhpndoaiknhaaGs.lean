/- How worlds grow in a region that draws its order and lays an instance: what lay ahead of it is unturned; of what it lays only a zero box turns, into a box of a. -/
import Derived.Test.YtcfhpndoaiknhaaGq
import Derived.Test.YtcfhpndoaiknhaaEq
namespace Go.Proofs.Ytcfhpndoaiknhaa.Gq
set_option linter.unusedVariables false
open Go.RowKit
def growS (B : Nat) (a : Inst) : Grow where
  R W W' := Below B W W' ∧ ∀ (x : Nat) o, W.heap[x]? = some o → W'.heap[x]? = some o ∨ (o = iO zI ∧ W'.heap[x]? = some (iO a))
  refl w := ⟨Below.refl _ _, fun _ _ h => .inl h⟩
  trans := fun {W X Y} h g => ⟨h.1.trans g.1, fun x o ho => by
    rcases h.2 x o ho with h1 | ⟨e, h1⟩
    · exact g.2 x o h1
    · rcases g.2 x _ h1 with h2 | ⟨_, h2⟩
      · exact .inr ⟨e, h2⟩
      · exact .inr ⟨e, h2⟩⟩
theorem growS_of {B : Nat} {a : Inst} {W W' : World} (hB : B ≤ W.heap.size) (h : Below W.heap.size W W') : (growS B a).R W W' :=
  ⟨h.mono hB, fun x o ho => .inl ((h.block x (Array.getElem?_eq_some_iff.1 ho).1).trans ho)⟩
theorem growS_size {B : Nat} {a : Inst} {w W : World} (hB : B ≤ w.heap.size) (h : (growS B a).R w W) : B ≤ W.heap.size := Nat.le_trans hB h.1.size
/-- The box that is laid in the region. -/
def BoxS (B : Nat) (a : Inst) (u : Value) (W : World) : Prop := ∃ x, B ≤ x ∧ u = .pointer (some ⟨x, 0, none⟩) ∧ (IAt W x zI ∨ IAt W x a)
def DoneS (B : Nat) (a : Inst) (vs : Array Value) (W : World) : Prop := ∃ x, B ≤ x ∧ vs[0]? = some (.pointer (some ⟨x, 0, none⟩)) ∧ IAt W x a
theorem BoxS.keep {B : Nat} {a : Inst} {u : Value} {W W' : World} (h : BoxS B a u W) (g : (growS B a).R W W') : BoxS B a u W' := by
  obtain ⟨x, hx, e, h⟩ := h
  refine ⟨x, hx, e, ?_⟩
  rcases h with h | h
  · rcases g.2 x _ h with h1 | ⟨_, h1⟩
    · exact .inl h1
    · exact .inr h1
  · rcases g.2 x _ h with h1 | ⟨_, h1⟩
    · exact .inr h1
    · exact .inr h1
theorem DoneS.keep {B : Nat} {a : Inst} {vs : Array Value} {W W' : World} (h : DoneS B a vs W) (g : (growS B a).R W W') : DoneS B a vs W' := by
  obtain ⟨x, hx, e, h⟩ := h
  refine ⟨x, hx, e, ?_⟩
  rcases g.2 x _ h with h1 | ⟨_, h1⟩
  · exact h1
  · exact h1
theorem box_new (W : World) {B : Nat} (hB : B ≤ W.heap.size) (a : Inst) : BoxS B a (.pointer (some ⟨W.heap.size, 0, none⟩)) (W.alloc (.cells #[.int .i64 0, .int .i64 0, .int .i64 0, .int .i64 0, .int .i64 0, .int .i64 0, .int .i64 0] 25)) := ⟨_, hB, rfl, .inl (iNew W zI)⟩
theorem heap_set7 {W : World} {x y : Nat} {a : Inst} (e : x ≠ y) : (set7 W x a).heap[y]? = W.heap[y]? := by
  unfold set7
  rw [heap_setCell e, heap_setCell e, heap_setCell e, heap_setCell e, heap_setCell e, heap_setCell e, heap_setCell e]
/-- The store. -/
theorem store_R {B x : Nat} {a : Inst} {W : World} (hx : B ≤ x) (h : IAt W x zI ∨ IAt W x a) : (growS B a).R W (set7 W x a) := by
  refine ⟨belSet7 (Below.refl _ _) hx, fun y o ho => ?_⟩
  by_cases e : y = x
  · subst e
    rcases h with h | h
    · have h1 : o = iO zI := by unfold IAt at h; rw [h] at ho; exact (Option.some.inj ho).symm
      exact .inr ⟨h1, iSet h⟩
    · have h1 : o = iO a := by unfold IAt at h; rw [h] at ho; exact (Option.some.inj ho).symm
      rw [h1]
      exact .inl (iSet h)
  · rw [heap_set7 (Ne.symm e)]
    exact .inl ho
theorem store_done {B x : Nat} {a : Inst} {W : World} (vs : Array Value) (hx : B ≤ x) (hv : vs[0]? = some (.pointer (some ⟨x, 0, none⟩))) (h : IAt W x zI ∨ IAt W x a) : DoneS B a vs (set7 W x a) := by
  refine ⟨x, hx, hv, ?_⟩
  rcases h with h | h
  · exact iSet h
  · exact iSet h
end Go.Proofs.Ytcfhpndoaiknhaa.Gq
