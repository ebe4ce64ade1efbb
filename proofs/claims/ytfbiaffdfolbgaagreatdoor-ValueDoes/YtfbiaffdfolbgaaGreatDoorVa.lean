/- Values in memory; the contracts of Num, Null, NaN, Plus, Minus, Truth, isValue, isNum, sign, endless, size, eitherNaN. -/
import Derived.Test.YtfbiaffdfolbgaaGreatDoorVt
import Derived.Test.YtfbiaffdfolbgaaGreatDoorRows
import Derived.WalkKit
import Derived.WalkSpells
import Derived.WalkLawsBesides
import Derived.Outline
import Derived.Laws.StructEq
namespace Go.Proofs.YtfbiaffdfolbgaaGreatDoor
set_option linter.unusedVariables false
open Go.RowKit
/-- A value, as the program holds it. -/
def vlV (v : Vl) : Value := .agg #[.int .i64 v.kind, .int .i64 v.n]
/-- A block that holds a value. -/
def VlAt (w : World) (x : Nat) (v : Vl) : Prop := w.heap[x]? = some (.cells #[.int .i64 v.kind, .int .i64 v.n] 25 (0, 0))
/-- The block. -/
abbrev vlO (v : Vl) : Obj := .cells #[.int .i64 v.kind, .int .i64 v.n] 25
section
variable {w w' : World} {x : Nat} {v u : Vl}
theorem VlAt.cells (h : VlAt w x v) : w.cell? ⟨x, 0, none⟩ = some (.int .i64 v.kind) ∧ w.cell? ⟨x, 1, none⟩ = some (.int .i64 v.n) := by
  unfold VlAt at h
  simp [World.cell?, h]
theorem VlAt.frozen (h : VlAt w x v) : w.frozen? ⟨x, 0, none⟩ = false ∧ w.frozen? ⟨x, 1, none⟩ = false := by
  unfold VlAt at h
  simp [World.frozen?, h]
theorem VlAt.lt (h : VlAt w x v) : x < w.heap.size := (Array.getElem?_eq_some_iff.1 h).1
theorem VlAt.keep (h : VlAt w x v) (e : w'.heap[x]? = w.heap[x]?) : VlAt w' x v := e.trans h
theorem VlAt.grow (h : VlAt w x v) (hb : Below w.heap.size w w') : VlAt w' x v := h.keep (hb.block x h.lt)
theorem VlAt.alloc (h : VlAt w x v) (o : Obj) : VlAt (w.alloc o) x v := h.grow ((Below.refl _ w).alloc (Nat.le_refl _) o)
theorem VlAt.drew (h : VlAt w x v) : VlAt w.drew x v := h.grow (Below.refl _ w).drew
theorem vlNew (w : World) (v : Vl) : VlAt (w.alloc (vlO v)) w.heap.size v := by
  show (w.heap.push _)[w.heap.size]? = _
  simp
theorem vlNew1 (w : World) (o : Obj) (v : Vl) : VlAt ((w.alloc o).alloc (vlO v)) (w.heap.size + 1) v := by
  have := vlNew (w.alloc o) v
  rwa [World.size_alloc] at this
theorem vlNew2 (w : World) (o p : Obj) (v : Vl) : VlAt (((w.alloc o).alloc p).alloc (vlO v)) (w.heap.size + 1 + 1) v := by
  have := vlNew1 (w.alloc o) p v
  rwa [World.size_alloc] at this
theorem block_setCell {g i : Nat} {C : Array Value} {t : TypeId} {u : Value} (h : w.heap[g]? = some (.cells C t (0, 0))) : (w.setCell ⟨g, i, none⟩ u).heap[g]? = some (.cells (C.setIfInBounds i u) t (0, 0)) := by
  unfold World.setCell
  rw [Array.getElem?_modify, if_pos rfl, h]
  rfl
theorem vlSet {k n : Int} (h : VlAt w x v) : VlAt ((w.setCell ⟨x, 0, none⟩ (.int .i64 k)).setCell ⟨x, 1, none⟩ (.int .i64 n)) x ⟨k, n⟩ := by
  have h1 := block_setCell (i := 0) (u := .int .i64 k) h
  have h2 := block_setCell (i := 1) (u := .int .i64 n) h1
  unfold VlAt
  rw [h2]
  simp
theorem belTwo {W : World} {n : Nat} (a b : Value) (h : Below n w W) (hx : n ≤ x) : Below n w ((W.setCell ⟨x, 0, none⟩ a).setCell ⟨x, 1, none⟩ b) :=
  (h.setCell (p := ⟨x, 0, none⟩) hx a).setCell (p := ⟨x, 1, none⟩) hx b
end
/-- A result that lies in a block. -/
theorem ret_cell {fn : Func} {p : Tmp} {tmps : Array Value} {w' : World} {x : Nat} {v : Vl} {Q : Ending → World → Prop} (hr : fn.results = #[.cell p 25]) (ht : tmps[p]?.getD undef = .pointer (some ⟨x, 0, none⟩)) (hv : VlAt w' x v)
    (hq : Q (.returned (vlV v)) w') : bodyPost Tryz.prog fn Q .ret { tmps := tmps, defers := [] } w' := by
  obtain ⟨c0, c1⟩ := hv.cells
  refine bodyPost_ret (v := vlV v) ?_ rfl hq
  simp [results, hr, ht, go_sem, vlV, c0, c1]
/-- A result in a block, and one in a slot. -/
theorem ret_cell2 {fn : Func} {p q : Tmp} {tmps : Array Value} {w' : World} {x : Nat} {v : Vl} {r : Value} {Q : Ending → World → Prop} (hr : fn.results = #[.cell p 25, .tmp q]) (ht : tmps[p]?.getD undef = .pointer (some ⟨x, 0, none⟩)) (hv : VlAt w' x v)
    (hs : tmps[q]?.getD undef = r) (hq : Q (.returned (.tuple #[vlV v, r])) w') : bodyPost Tryz.prog fn Q .ret { tmps := tmps, defers := [] } w' := by
  obtain ⟨c0, c1⟩ := hv.cells
  refine bodyPost_ret (v := .tuple #[vlV v, r]) ?_ rfl hq
  simp [results, hr, ht, hs, go_sem, vlV, c0, c1]
theorem ret_bool {a b : Bool} (h : a = b) : Ending.returned (.bool a) = .returned (.bool b) := by rw [h]
theorem ret_int {k : IntKind} {a b : Int} (h : a = b) : Ending.returned (.int k a) = .returned (.int k b) := by rw [h]
/-- What a call hands back that is a value; the world has only grown. -/
def VQ (v : Vl) (w : World) (e : Ending) (w' : World) : Prop := e = .returned (vlV v) ∧ Below w.heap.size w w'
set_option maxRecDepth 100000 in
theorem null_any (w : World) : Calls Tryz.prog 22 #[] w fun e w' => e = .returned (vlV nul) ∧ w' = w.alloc (vlO nul) := by
  go_enter Tryz.func22, Tryz.ntmps22
  go_wp2
  exact ret_cell Tryz.results22 rfl (vlNew w nul) ⟨rfl, rfl⟩
set_option maxRecDepth 100000 in
theorem nan_any (w : World) : Calls Tryz.prog 24 #[] w fun e w' => e = .returned (vlV nan) ∧ w' = w.alloc (vlO nan) := by
  go_enter Tryz.func24, Tryz.ntmps24
  go_wp2
  exact ret_cell Tryz.results24 rfl (vlNew w nan) ⟨rfl, rfl⟩
set_option maxRecDepth 100000 in
theorem plus_any (w : World) : Calls Tryz.prog 26 #[] w fun e w' => e = .returned (vlV pls) ∧ w' = w.alloc (vlO pls) := by
  go_enter Tryz.func26, Tryz.ntmps26
  go_wp2
  exact ret_cell Tryz.results26 rfl (vlNew w pls) ⟨rfl, rfl⟩
set_option maxRecDepth 100000 in
theorem minus_any (w : World) : Calls Tryz.prog 28 #[] w fun e w' => e = .returned (vlV mns) ∧ w' = w.alloc (vlO mns) := by
  go_enter Tryz.func28, Tryz.ntmps28
  go_wp2
  exact ret_cell Tryz.results28 rfl (vlNew w mns) ⟨rfl, rfl⟩
set_option maxRecDepth 100000 in
theorem num_any (n : Int) (w : World) : Calls Tryz.prog 18 #[.int .i64 n] w fun e w' => e = .returned (vlV (num n)) ∧ Below w.heap.size w w' := by
  have hB : ∀ o, Below w.heap.size w (w.alloc o) := fun o => (Below.refl _ w).alloc (Nat.le_refl _) o
  have hB2 : ∀ o p, Below w.heap.size w ((w.alloc o).alloc p) := fun o p => (hB o).alloc (by simp) p
  by_cases h1 : 1000000000000000 < n
  · have e : num n = pls := by rw [num, if_pos h1]
    rw [e]; clear e
    go_enter Tryz.func18, Tryz.ntmps18
    go_wp2_with (go_at_call 26; refine (plus_any _).mono ?_; rintro e w1 ⟨rfl, hw⟩; subst hw; unfold vlV)
    exact ret_cell Tryz.results18 rfl ((vlNew w pls).alloc _) ⟨rfl, hB2 _ _⟩
  · by_cases h2 : n < -1000000000000000
    · have e : num n = mns := by rw [num, if_neg h1, if_pos h2]
      rw [e]; clear e
      go_enter Tryz.func18, Tryz.ntmps18
      go_wp2_with (go_at_call 28; refine (minus_any _).mono ?_; rintro e w1 ⟨rfl, hw⟩; subst hw; unfold vlV)
      exact ret_cell Tryz.results18 rfl ((vlNew w mns).alloc _) ⟨rfl, hB2 _ _⟩
    · have e : num n = ⟨1, n⟩ := by rw [num, if_neg h1, if_neg h2]
      rw [e]; clear e
      go_enter Tryz.func18, Tryz.ntmps18
      go_wp2
      exact ret_cell Tryz.results18 rfl (vlNew w ⟨1, n⟩) ⟨rfl, hB _⟩
end Go.Proofs.YtfbiaffdfolbgaaGreatDoor
