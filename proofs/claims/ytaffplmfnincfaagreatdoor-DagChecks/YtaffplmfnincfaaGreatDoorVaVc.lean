/- Va; Vb; Vc. -/
import Derived.Test.YtaffplmfnincfaaGreatDoorVmVt
import Derived.Test.YtaffplmfnincfaaGreatDoorRows
import Derived.WalkKit
import Derived.WalkSpells
import Derived.WalkLawsBesides
import Derived.Outline
import Derived.Laws.StructEq
import Derived.Deep.RegionHeld3
import Derived.Deep.DrawnRows
/- Values in memory; the contracts of Num, Null, NaN, Plus, Minus, Truth, isValue, isNum, sign, endless, size, eitherNaN. -/
namespace Go.Proofs.YtaffplmfnincfaaGreatDoor
set_option linter.unusedVariables false
open Go.RowKit
/-- A value, as the program holds it. -/
def vlV (v : Vl) : Value := .agg #[.int .i64 v.kind, .int .i64 v.n]
/-- A block that holds a value. -/
def VlAt (w : World) (x : Nat) (v : Vl) : Prop := w.heap[x]? = some (.cells #[.int .i64 v.kind, .int .i64 v.n] 34 (0, 0))
/-- The block. -/
abbrev vlO (v : Vl) : Obj := .cells #[.int .i64 v.kind, .int .i64 v.n] 34
section
variable {w w' : World} {x : Nat} {v u : Vl}
theorem VlAt.cells (h : VlAt w x v) : w.cell? ⟨x, 0, none⟩ = some (.int .i64 v.kind) ∧ w.cell? ⟨x, 1, none⟩ = some (.int .i64 v.n) := by
  unfold VlAt at h
  simp [World.cell?, h]
theorem VlAt.frozen (h : VlAt w x v) : w.frozen? ⟨x, 0, none⟩ = false ∧ w.frozen? ⟨x, 1, none⟩ = false := by
  unfold VlAt at h
  simp [World.frozen?, h]
theorem VlAt.lt (h : VlAt w x v) : x < w.heap.size := (Array.getElem?_eq_some_iff.1 h).1
theorem VlAt.keep (h : VlAt w x v) (e : w'.heap[x]? = w.heap[x]?) : VlAt w' x v := e.trans h
theorem VlAt.grow (h : VlAt w x v) (hb : Below w.heap.size w w') : VlAt w' x v := h.keep (hb.block x h.lt)
theorem VlAt.alloc (h : VlAt w x v) (o : Obj) : VlAt (w.alloc o) x v := h.grow ((Below.refl _ w).alloc (Nat.le_refl _) o)
theorem vlNew (w : World) (v : Vl) : VlAt (w.alloc (vlO v)) w.heap.size v := by
  show (w.heap.push _)[w.heap.size]? = _
  simp
theorem block_setCell {g i : Nat} {C : Array Value} {t : TypeId} {u : Value} (h : w.heap[g]? = some (.cells C t (0, 0))) : (w.setCell ⟨g, i, none⟩ u).heap[g]? = some (.cells (C.setIfInBounds i u) t (0, 0)) := by
  unfold World.setCell
  rw [Array.getElem?_modify, if_pos rfl, h]
  rfl
theorem vlSet {k n : Int} (h : VlAt w x v) : VlAt ((w.setCell ⟨x, 0, none⟩ (.int .i64 k)).setCell ⟨x, 1, none⟩ (.int .i64 n)) x ⟨k, n⟩ := by
  have h1 := block_setCell (i := 0) (u := .int .i64 k) h
  have h2 := block_setCell (i := 1) (u := .int .i64 n) h1
  unfold VlAt
  rw [h2]
  simp
theorem belTwo {W : World} {n : Nat} (a b : Value) (h : Below n w W) (hx : n ≤ x) : Below n w ((W.setCell ⟨x, 0, none⟩ a).setCell ⟨x, 1, none⟩ b) :=
  (h.setCell (p := ⟨x, 0, none⟩) hx a).setCell (p := ⟨x, 1, none⟩) hx b
end
/-- A result that lies in a block. -/
theorem ret_cell {fn : Func} {p : Tmp} {tmps : Array Value} {w' : World} {x : Nat} {v : Vl} {Q : Ending → World → Prop} (hr : fn.results = #[.cell p 34]) (ht : tmps[p]?.getD undef = .pointer (some ⟨x, 0, none⟩)) (hv : VlAt w' x v)
    (hq : Q (.returned (vlV v)) w') : bodyPost Tryz.prog fn Q .ret { tmps := tmps, defers := [] } w' := by
  obtain ⟨c0, c1⟩ := hv.cells
  refine bodyPost_ret (v := vlV v) ?_ rfl hq
  simp [results, hr, ht, go_sem, vlV, c0, c1]
/-- A result in a block, and one in a slot. -/
theorem ret_cell2 {fn : Func} {p q : Tmp} {tmps : Array Value} {w' : World} {x : Nat} {v : Vl} {r : Value} {Q : Ending → World → Prop} (hr : fn.results = #[.cell p 34, .tmp q]) (ht : tmps[p]?.getD undef = .pointer (some ⟨x, 0, none⟩)) (hv : VlAt w' x v)
    (hs : tmps[q]?.getD undef = r) (hq : Q (.returned (.tuple #[vlV v, r])) w') : bodyPost Tryz.prog fn Q .ret { tmps := tmps, defers := [] } w' := by
  obtain ⟨c0, c1⟩ := hv.cells
  refine bodyPost_ret (v := .tuple #[vlV v, r]) ?_ rfl hq
  simp [results, hr, ht, hs, go_sem, vlV, c0, c1]
theorem ret_bool {a b : Bool} (h : a = b) : Ending.returned (.bool a) = .returned (.bool b) := by rw [h]
/-- What a call hands back that is a value; the world has only grown. -/
def VQ (v : Vl) (w : World) (e : Ending) (w' : World) : Prop := e = .returned (vlV v) ∧ Below w.heap.size w w'
set_option maxRecDepth 100000 in
theorem null_any (w : World) : Calls Tryz.prog 135 #[] w fun e w' => e = .returned (vlV nul) ∧ w' = w.alloc (vlO nul) := by
  go_enter Tryz.func135, Tryz.ntmps135
  go_wp2
  exact ret_cell Tryz.results135 rfl (vlNew w nul) ⟨rfl, rfl⟩
set_option maxRecDepth 100000 in
theorem nan_any (w : World) : Calls Tryz.prog 136 #[] w fun e w' => e = .returned (vlV nan) ∧ w' = w.alloc (vlO nan) := by
  go_enter Tryz.func136, Tryz.ntmps136
  go_wp2
  exact ret_cell Tryz.results136 rfl (vlNew w nan) ⟨rfl, rfl⟩
set_option maxRecDepth 100000 in
theorem plus_any (w : World) : Calls Tryz.prog 137 #[] w fun e w' => e = .returned (vlV pls) ∧ w' = w.alloc (vlO pls) := by
  go_enter Tryz.func137, Tryz.ntmps137
  go_wp2
  exact ret_cell Tryz.results137 rfl (vlNew w pls) ⟨rfl, rfl⟩
set_option maxRecDepth 100000 in
theorem minus_any (w : World) : Calls Tryz.prog 154 #[] w fun e w' => e = .returned (vlV mns) ∧ w' = w.alloc (vlO mns) := by
  go_enter Tryz.func154, Tryz.ntmps154
  go_wp2
  exact ret_cell Tryz.results154 rfl (vlNew w mns) ⟨rfl, rfl⟩
set_option maxRecDepth 100000 in
theorem num_any (n : Int) (w : World) : Calls Tryz.prog 155 #[.int .i64 n] w fun e w' => e = .returned (vlV (num n)) ∧ Below w.heap.size w w' := by
  have hB : ∀ o, Below w.heap.size w (w.alloc o) := fun o => (Below.refl _ w).alloc (Nat.le_refl _) o
  have hB2 : ∀ o p, Below w.heap.size w ((w.alloc o).alloc p) := fun o p => (hB o).alloc (by simp) p
  by_cases h1 : 1000000000000000 < n
  · have e : num n = pls := by rw [num, if_pos h1]
    rw [e]; clear e
    go_enter Tryz.func155, Tryz.ntmps155
    go_wp2_with (go_at_call 137; refine (plus_any _).mono ?_; rintro e w1 ⟨rfl, hw⟩; subst hw; unfold vlV)
    exact ret_cell Tryz.results155 rfl ((vlNew w pls).alloc _) ⟨rfl, hB2 _ _⟩
  · by_cases h2 : n < -1000000000000000
    · have e : num n = mns := by rw [num, if_neg h1, if_pos h2]
      rw [e]; clear e
      go_enter Tryz.func155, Tryz.ntmps155
      go_wp2_with (go_at_call 154; refine (minus_any _).mono ?_; rintro e w1 ⟨rfl, hw⟩; subst hw; unfold vlV)
      exact ret_cell Tryz.results155 rfl ((vlNew w mns).alloc _) ⟨rfl, hB2 _ _⟩
    · have e : num n = ⟨1, n⟩ := by rw [num, if_neg h1, if_neg h2]
      rw [e]; clear e
      go_enter Tryz.func155, Tryz.ntmps155
      go_wp2
      exact ret_cell Tryz.results155 rfl (vlNew w ⟨1, n⟩) ⟨rfl, hB _⟩
end Go.Proofs.YtaffplmfnincfaaGreatDoor
/- Values: the contracts of Truth, isValue, isNum, sign, endless, size, eitherNaN, turned, unsigned, floor, height. -/
namespace Go.Proofs.YtaffplmfnincfaaGreatDoor
set_option linter.unusedVariables false
open Go.RowKit
/-- The world with one value boxed and a result. -/
abbrev W1 (w : World) (v : Vl) : World := (w.alloc (vlO v)).alloc (vlO zer)
abbrev W2 (w : World) (a b : Vl) : World := ((w.alloc (vlO a)).alloc (vlO b)).alloc (vlO zer)
theorem bW0 (w : World) (o : Obj) : Below w.heap.size w (w.alloc o) := (Below.refl _ w).alloc (Nat.le_refl _) o
/-- The end of a function whose result lies in block x: it was stored there. -/
theorem end_set {fn : Func} {p : Tmp} {tmps : Array Value} {w W0 W : World} {x : Nat} {v u : Vl} (hr : fn.results = #[.cell p 34]) (ht : tmps[p]?.getD undef = .pointer (some ⟨x, 0, none⟩)) (hx : w.heap.size ≤ x)
    (h0 : Below w.heap.size w W0) (hB : Below W0.heap.size W0 W) (hv : VlAt W0 x u) :
    bodyPost Tryz.prog fn (fun e w' => e = .returned (vlV v) ∧ Below w.heap.size w w') .ret { tmps := tmps, defers := [] } ((W.setCell ⟨x, 0, none⟩ (.int .i64 v.kind)).setCell ⟨x, 1, none⟩ (.int .i64 v.n)) :=
  ret_cell hr ht (vlSet (hv.grow hB)) ⟨rfl, belTwo _ _ (h0.trans (hB.mono h0.size)) hx⟩
/-- Is it a value? -/
def isB (v : Vl) : Bool := decide (IsV v)
set_option maxRecDepth 100000 in
theorem isValue_any (v : Vl) (w : World) : Calls Tryz.prog 160 #[vlV v] w fun e w' => e = .returned (.bool (isB v)) ∧ w' = w.alloc (vlO v) := by
  obtain ⟨k, n⟩ := v
  unfold vlV
  obtain ⟨R, hR⟩ : ∃ R, Hid (R = isB ⟨k, n⟩) := ⟨_, rfl⟩
  rw [← hR.out]
  have hR2 : Hid (R = decide ((k = 1 ∧ -1000000000000000 ≤ n ∧ n ≤ 1000000000000000) ∨ (2 ≤ k ∧ k ≤ 5 ∧ n = 0))) := hR.out
  clear hR
  go_enter Tryz.func160, Tryz.ntmps160
  go_wp2
  all_goals
    go_ret
    refine ⟨?_, rfl⟩
    rw [hR2.out]
    refine ret_bool ?_
    simp_all
    try first | rfl | omega
/-- As the code's sign tells it. -/
def sgB (v : Vl) : Int := if v.kind = 4 then 1 else if v.kind = 5 then -1 else if v.n < 0 then -1 else if 0 < v.n then 1 else 0
set_option maxRecDepth 100000 in
theorem size_any (n : Int) (w : World) (h1 : -1000000000000000 ≤ n) (h2 : n ≤ 1000000000000000) : Calls Tryz.prog 196 #[.int .i64 n] w fun e w' => e = .returned (.int .u64 (n.natAbs : Int)) ∧ w' = w := by
  by_cases h : n < 0
  · have e : (n.natAbs : Int) = -n := by omega
    rw [e]
    go_enter Tryz.func196, Tryz.ntmps196
    go_wp2
    go_ret
    exact ⟨rfl, rfl⟩
  · have e : (n.natAbs : Int) = n := by omega
    rw [e]
    go_enter Tryz.func196, Tryz.ntmps196
    go_wp2
    go_ret
    exact ⟨rfl, rfl⟩
end Go.Proofs.YtaffplmfnincfaaGreatDoor
/- Values: the contracts of turned, unsigned, floor, height, order, sum, not, True, Check. -/
namespace Go.Proofs.YtaffplmfnincfaaGreatDoor
set_option linter.unusedVariables false
open Go.RowKit
theorem null_b (w : World) : Calls Tryz.prog 135 #[] w fun e w' => e = .returned (vlV nul) ∧ Below w.heap.size w w' := (null_any w).mono fun e w' ⟨h, hw⟩ => ⟨h, by rw [hw]; exact bW0 w _⟩
theorem nan_b (w : World) : Calls Tryz.prog 136 #[] w fun e w' => e = .returned (vlV nan) ∧ Below w.heap.size w w' := (nan_any w).mono fun e w' ⟨h, hw⟩ => ⟨h, by rw [hw]; exact bW0 w _⟩
theorem plus_b (w : World) : Calls Tryz.prog 137 #[] w fun e w' => e = .returned (vlV pls) ∧ Below w.heap.size w w' := (plus_any w).mono fun e w' ⟨h, hw⟩ => ⟨h, by rw [hw]; exact bW0 w _⟩
theorem minus_b (w : World) : Calls Tryz.prog 154 #[] w fun e w' => e = .returned (vlV mns) ∧ Below w.heap.size w w' := (minus_any w).mono fun e w' ⟨h, hw⟩ => ⟨h, by rw [hw]; exact bW0 w _⟩
theorem isValue_b (v : Vl) (w : World) : Calls Tryz.prog 160 #[vlV v] w fun e w' => e = .returned (.bool (isB v)) ∧ Below w.heap.size w w' := (isValue_any v w).mono fun e w' ⟨h, hw⟩ => ⟨h, by rw [hw]; exact bW0 w _⟩
/-- As height tells it. -/
def hgt (v : Vl) : Int := if v.kind = 1 then 0 else sgB v
end Go.Proofs.YtaffplmfnincfaaGreatDoor
