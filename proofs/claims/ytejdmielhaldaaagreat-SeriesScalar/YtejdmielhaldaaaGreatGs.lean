/- How worlds grow in the two regions of ValueSigns that draw their order: what lay ahead of them is unturned; of what they lay only a zero box turns, into a box of a. -/
import Derived.Test.YtejdmielhaldaaaGreatGq
import Derived.Test.YtejdmielhaldaaaGreatVpVw
namespace Go.Proofs.YtejdmielhaldaaaGreat.Gq
set_option linter.unusedVariables false
open Go.RowKit
/-- A box turns into a box of a alone. -/
def growS (B : Nat) (a : Vl) : Grow where
  R W W' := Below B W W' ∧ ∀ (x : Nat) o, W.heap[x]? = some o → W'.heap[x]? = some o ∨ (o = vlO zer ∧ W'.heap[x]? = some (vlO a))
  refl w := ⟨Below.refl _ _, fun _ _ h => .inl h⟩
  trans := fun {W X Y} h g => ⟨h.1.trans g.1, fun x o ho => by
    rcases h.2 x o ho with h1 | ⟨e, h1⟩
    · exact g.2 x o h1
    · rcases g.2 x _ h1 with h2 | ⟨_, h2⟩
      · exact .inr ⟨e, h2⟩
      · exact .inr ⟨e, h2⟩⟩
theorem growS_of {B : Nat} {a : Vl} {W W' : World} (hB : B ≤ W.heap.size) (h : Below W.heap.size W W') : (growS B a).R W W' :=
  ⟨h.mono hB, fun x o ho => .inl ((h.block x (Array.getElem?_eq_some_iff.1 ho).1).trans ho)⟩
theorem growS_size {B : Nat} {a : Vl} {w W : World} (hB : B ≤ w.heap.size) (h : (growS B a).R w W) : B ≤ W.heap.size := Nat.le_trans hB h.1.size
/-- The row of the two arguments. -/
def Row2 (a b : Vl) (u : Value) (W : World) : Prop := ∃ x, u = .slice (some ⟨x, 0, none⟩) 2 2 ∧ W.heap[x]? = some (.cells #[.int .i64 a.kind, .int .i64 a.n, .int .i64 b.kind, .int .i64 b.n] 25)
/-- The box that is laid in the region. -/
def BoxS (B : Nat) (a : Vl) (u : Value) (W : World) : Prop := ∃ x, B ≤ x ∧ u = .pointer (some ⟨x, 0, none⟩) ∧ (VlAt W x zer ∨ VlAt W x a)
def DoneS (B : Nat) (a : Vl) (vs : Array Value) (W : World) : Prop := ∃ x, B ≤ x ∧ vs[0]? = some (.pointer (some ⟨x, 0, none⟩)) ∧ VlAt W x a
theorem Row2.keep {B : Nat} {c a b : Vl} {u : Value} {W W' : World} (h : Row2 a b u W) (g : (growS B c).R W W') : Row2 a b u W' := by
  obtain ⟨x, e, h⟩ := h
  rcases g.2 x _ h with h1 | ⟨e1, _⟩
  · exact ⟨x, e, h1⟩
  · injection e1 with e1 _ _
    have := congrArg Array.size e1
    simp at this
theorem BoxS.keep {B : Nat} {a : Vl} {u : Value} {W W' : World} (h : BoxS B a u W) (g : (growS B a).R W W') : BoxS B a u W' := by
  obtain ⟨x, hx, e, h⟩ := h
  refine ⟨x, hx, e, ?_⟩
  rcases h with h | h
  · rcases g.2 x _ h with h1 | ⟨_, h1⟩
    · exact .inl h1
    · exact .inr h1
  · rcases g.2 x _ h with h1 | ⟨_, h1⟩
    · exact .inr h1
    · exact .inr h1
theorem DoneS.keep {B : Nat} {a : Vl} {vs : Array Value} {W W' : World} (h : DoneS B a vs W) (g : (growS B a).R W W') : DoneS B a vs W' := by
  obtain ⟨x, hx, e, h⟩ := h
  refine ⟨x, hx, e, ?_⟩
  rcases g.2 x _ h with h1 | ⟨_, h1⟩
  · exact h1
  · exact h1
theorem row2_new (W : World) (a b : Vl) : Row2 a b (.slice (some ⟨W.heap.size, 0, none⟩) 2 2) (W.alloc (.cells #[.int .i64 a.kind, .int .i64 a.n, .int .i64 b.kind, .int .i64 b.n] 25)) := ⟨_, rfl, by
  show (W.heap.push _)[W.heap.size]? = _; simp⟩
theorem Row2.vls {a b : Vl} {u : Value} {W : World} (h : Row2 a b u W) : Vls W u [a, b] := by
  obtain ⟨x, rfl, h⟩ := h
  refine ⟨_, _, rfl, .inr ⟨_, _, rfl, fun t ht => ?_⟩⟩
  have ht2 : t = 0 ∨ t = 1 := by simp at ht; omega
  unfold VAt World.cell?
  rw [h]
  rcases ht2 with rfl | rfl <;> simp
theorem box_new (W : World) {B : Nat} (hB : B ≤ W.heap.size) (a : Vl) : BoxS B a (.pointer (some ⟨W.heap.size, 0, none⟩)) (W.alloc (.cells #[.int .i64 0, .int .i64 0] 25)) := ⟨_, hB, rfl, .inl (vlNew W zer)⟩
/-- The store. -/
theorem store_R {B x : Nat} {a : Vl} {W : World} (hx : B ≤ x) (h : VlAt W x zer ∨ VlAt W x a) : (growS B a).R W ((W.setCell ⟨x, 0, none⟩ (.int .i64 a.kind)).setCell ⟨x, 1, none⟩ (.int .i64 a.n)) := by
  refine ⟨belTwo _ _ (Below.refl _ _) hx, fun y o ho => ?_⟩
  by_cases e : y = x
  · subst e
    rcases h with h | h
    · have h1 : o = vlO zer := by rw [h] at ho; exact (Option.some.inj ho).symm
      exact .inr ⟨h1, vlSet h⟩
    · have h1 : o = vlO a := by rw [h] at ho; exact (Option.some.inj ho).symm
      rw [h1]
      exact .inl (vlSet h)
  · rw [Below.heap_setCell _ _ _ _ e, Below.heap_setCell _ _ _ _ e]
    exact .inl ho
theorem store_done {B x : Nat} {a : Vl} {W : World} (vs : Array Value) (hx : B ≤ x) (hv : vs[0]? = some (.pointer (some ⟨x, 0, none⟩))) (h : VlAt W x zer ∨ VlAt W x a) : DoneS B a vs ((W.setCell ⟨x, 0, none⟩ (.int .i64 a.kind)).setCell ⟨x, 1, none⟩ (.int .i64 a.n)) := by
  refine ⟨x, hx, hv, ?_⟩
  rcases h with h | h
  · exact vlSet h
  · exact vlSet h
end Go.Proofs.YtejdmielhaldaaaGreat.Gq
