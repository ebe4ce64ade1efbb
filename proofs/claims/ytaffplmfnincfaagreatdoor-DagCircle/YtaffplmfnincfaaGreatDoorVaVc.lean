/- Va; Vb; Vc. -/
import Derived.Test.YtaffplmfnincfaaGreatDoorVmVt
import Derived.Test.YtaffplmfnincfaaGreatDoorRows
import Derived.WalkKit
import Derived.WalkSpells
import Derived.WalkLawsBesides
import Derived.Outline
import Derived.Laws.StructEq
import Derived.Deep.RegionHeld3
import Derived.Deep.DrawnRows
/- Values in memory; the contracts of Num, Null, NaN, Plus, Minus, Truth, isValue, isNum, sign, endless, size, eitherNaN. -/
namespace Go.Proofs.YtaffplmfnincfaaGreatDoor
set_option linter.unusedVariables false
open Go.RowKit
/-- A value, as the program holds it. -/
def vlV (v : Vl) : Value := .agg #[.int .i64 v.kind, .int .i64 v.n]
/-- A block that holds a value. -/
def VlAt (w : World) (x : Nat) (v : Vl) : Prop := w.heap[x]? = some (.cells #[.int .i64 v.kind, .int .i64 v.n] 34 (0, 0))
/-- The block. -/
abbrev vlO (v : Vl) : Obj := .cells #[.int .i64 v.kind, .int .i64 v.n] 34
section
variable {w w' : World} {x : Nat} {v u : Vl}
theorem VlAt.cells (h : VlAt w x v) : w.cell? ⟨x, 0, none⟩ = some (.int .i64 v.kind) ∧ w.cell? ⟨x, 1, none⟩ = some (.int .i64 v.n) := by
  unfold VlAt at h
  simp [World.cell?, h]
theorem VlAt.frozen (h : VlAt w x v) : w.frozen? ⟨x, 0, none⟩ = false ∧ w.frozen? ⟨x, 1, none⟩ = false := by
  unfold VlAt at h
  simp [World.frozen?, h]
theorem VlAt.lt (h : VlAt w x v) : x < w.heap.size := (Array.getElem?_eq_some_iff.1 h).1
theorem VlAt.keep (h : VlAt w x v) (e : w'.heap[x]? = w.heap[x]?) : VlAt w' x v := e.trans h
theorem VlAt.grow (h : VlAt w x v) (hb : Below w.heap.size w w') : VlAt w' x v := h.keep (hb.block x h.lt)
theorem VlAt.alloc (h : VlAt w x v) (o : Obj) : VlAt (w.alloc o) x v := h.grow ((Below.refl _ w).alloc (Nat.le_refl _) o)
theorem VlAt.drew (h : VlAt w x v) : VlAt w.drew x v := h.grow (Below.refl _ w).drew
theorem vlNew (w : World) (v : Vl) : VlAt (w.alloc (vlO v)) w.heap.size v := by
  show (w.heap.push _)[w.heap.size]? = _
  simp
theorem vlNew1 (w : World) (o : Obj) (v : Vl) : VlAt ((w.alloc o).alloc (vlO v)) (w.heap.size + 1) v := by
  have := vlNew (w.alloc o) v
  rwa [World.size_alloc] at this
theorem vlNew2 (w : World) (o p : Obj) (v : Vl) : VlAt (((w.alloc o).alloc p).alloc (vlO v)) (w.heap.size + 1 + 1) v := by
  have := vlNew1 (w.alloc o) p v
  rwa [World.size_alloc] at this
theorem block_setCell {g i : Nat} {C : Array Value} {t : TypeId} {u : Value} (h : w.heap[g]? = some (.cells C t (0, 0))) : (w.setCell ⟨g, i, none⟩ u).heap[g]? = some (.cells (C.setIfInBounds i u) t (0, 0)) := by
  unfold World.setCell
  rw [Array.getElem?_modify, if_pos rfl, h]
  rfl
theorem vlSet {k n : Int} (h : VlAt w x v) : VlAt ((w.setCell ⟨x, 0, none⟩ (.int .i64 k)).setCell ⟨x, 1, none⟩ (.int .i64 n)) x ⟨k, n⟩ := by
  have h1 := block_setCell (i := 0) (u := .int .i64 k) h
  have h2 := block_setCell (i := 1) (u := .int .i64 n) h1
  unfold VlAt
  rw [h2]
  simp
theorem belTwo {W : World} {n : Nat} (a b : Value) (h : Below n w W) (hx : n ≤ x) : Below n w ((W.setCell ⟨x, 0, none⟩ a).setCell ⟨x, 1, none⟩ b) :=
  (h.setCell (p := ⟨x, 0, none⟩) hx a).setCell (p := ⟨x, 1, none⟩) hx b
end
/-- A result that lies in a block. -/
theorem ret_cell {fn : Func} {p : Tmp} {tmps : Array Value} {w' : World} {x : Nat} {v : Vl} {Q : Ending → World → Prop} (hr : fn.results = #[.cell p 34]) (ht : tmps[p]?.getD undef = .pointer (some ⟨x, 0, none⟩)) (hv : VlAt w' x v)
    (hq : Q (.returned (vlV v)) w') : bodyPost Tryz.prog fn Q .ret { tmps := tmps, defers := [] } w' := by
  obtain ⟨c0, c1⟩ := hv.cells
  refine bodyPost_ret (v := vlV v) ?_ rfl hq
  simp [results, hr, ht, go_sem, vlV, c0, c1]
/-- A result in a block, and one in a slot. -/
theorem ret_cell2 {fn : Func} {p q : Tmp} {tmps : Array Value} {w' : World} {x : Nat} {v : Vl} {r : Value} {Q : Ending → World → Prop} (hr : fn.results = #[.cell p 34, .tmp q]) (ht : tmps[p]?.getD undef = .pointer (some ⟨x, 0, none⟩)) (hv : VlAt w' x v)
    (hs : tmps[q]?.getD undef = r) (hq : Q (.returned (.tuple #[vlV v, r])) w') : bodyPost Tryz.prog fn Q .ret { tmps := tmps, defers := [] } w' := by
  obtain ⟨c0, c1⟩ := hv.cells
  refine bodyPost_ret (v := .tuple #[vlV v, r]) ?_ rfl hq
  simp [results, hr, ht, hs, go_sem, vlV, c0, c1]
theorem ret_bool {a b : Bool} (h : a = b) : Ending.returned (.bool a) = .returned (.bool b) := by rw [h]
theorem ret_int {k : IntKind} {a b : Int} (h : a = b) : Ending.returned (.int k a) = .returned (.int k b) := by rw [h]
/-- What a call hands back that is a value; the world has only grown. -/
def VQ (v : Vl) (w : World) (e : Ending) (w' : World) : Prop := e = .returned (vlV v) ∧ Below w.heap.size w w'
set_option maxRecDepth 100000 in
theorem null_any (w : World) : Calls Tryz.prog 135 #[] w fun e w' => e = .returned (vlV nul) ∧ w' = w.alloc (vlO nul) := by
  go_enter Tryz.func135, Tryz.ntmps135
  go_wp2
  exact ret_cell Tryz.results135 rfl (vlNew w nul) ⟨rfl, rfl⟩
set_option maxRecDepth 100000 in
theorem nan_any (w : World) : Calls Tryz.prog 136 #[] w fun e w' => e = .returned (vlV nan) ∧ w' = w.alloc (vlO nan) := by
  go_enter Tryz.func136, Tryz.ntmps136
  go_wp2
  exact ret_cell Tryz.results136 rfl (vlNew w nan) ⟨rfl, rfl⟩
set_option maxRecDepth 100000 in
theorem plus_any (w : World) : Calls Tryz.prog 137 #[] w fun e w' => e = .returned (vlV pls) ∧ w' = w.alloc (vlO pls) := by
  go_enter Tryz.func137, Tryz.ntmps137
  go_wp2
  exact ret_cell Tryz.results137 rfl (vlNew w pls) ⟨rfl, rfl⟩
set_option maxRecDepth 100000 in
theorem minus_any (w : World) : Calls Tryz.prog 154 #[] w fun e w' => e = .returned (vlV mns) ∧ w' = w.alloc (vlO mns) := by
  go_enter Tryz.func154, Tryz.ntmps154
  go_wp2
  exact ret_cell Tryz.results154 rfl (vlNew w mns) ⟨rfl, rfl⟩
set_option maxRecDepth 100000 in
theorem num_any (n : Int) (w : World) : Calls Tryz.prog 155 #[.int .i64 n] w fun e w' => e = .returned (vlV (num n)) ∧ Below w.heap.size w w' := by
  have hB : ∀ o, Below w.heap.size w (w.alloc o) := fun o => (Below.refl _ w).alloc (Nat.le_refl _) o
  have hB2 : ∀ o p, Below w.heap.size w ((w.alloc o).alloc p) := fun o p => (hB o).alloc (by simp) p
  by_cases h1 : 1000000000000000 < n
  · have e : num n = pls := by rw [num, if_pos h1]
    rw [e]; clear e
    go_enter Tryz.func155, Tryz.ntmps155
    go_wp2_with (go_at_call 137; refine (plus_any _).mono ?_; rintro e w1 ⟨rfl, hw⟩; subst hw; unfold vlV)
    exact ret_cell Tryz.results155 rfl ((vlNew w pls).alloc _) ⟨rfl, hB2 _ _⟩
  · by_cases h2 : n < -1000000000000000
    · have e : num n = mns := by rw [num, if_neg h1, if_pos h2]
      rw [e]; clear e
      go_enter Tryz.func155, Tryz.ntmps155
      go_wp2_with (go_at_call 154; refine (minus_any _).mono ?_; rintro e w1 ⟨rfl, hw⟩; subst hw; unfold vlV)
      exact ret_cell Tryz.results155 rfl ((vlNew w mns).alloc _) ⟨rfl, hB2 _ _⟩
    · have e : num n = ⟨1, n⟩ := by rw [num, if_neg h1, if_neg h2]
      rw [e]; clear e
      go_enter Tryz.func155, Tryz.ntmps155
      go_wp2
      exact ret_cell Tryz.results155 rfl (vlNew w ⟨1, n⟩) ⟨rfl, hB _⟩
end Go.Proofs.YtaffplmfnincfaaGreatDoor
/- Values: the contracts of Truth, isValue, isNum, sign, endless, size, eitherNaN, turned, unsigned, floor, height. -/
namespace Go.Proofs.YtaffplmfnincfaaGreatDoor
set_option linter.unusedVariables false
open Go.RowKit
/-- The world with one value boxed and a result. -/
abbrev W1 (w : World) (v : Vl) : World := (w.alloc (vlO v)).alloc (vlO zer)
abbrev W2 (w : World) (a b : Vl) : World := ((w.alloc (vlO a)).alloc (vlO b)).alloc (vlO zer)
theorem bW0 (w : World) (o : Obj) : Below w.heap.size w (w.alloc o) := (Below.refl _ w).alloc (Nat.le_refl _) o
theorem bW1 (w : World) (v : Vl) : Below w.heap.size w (W1 w v) := (bW0 w _).alloc (by simp) _
theorem bW2 (w : World) (a b : Vl) : Below w.heap.size w (W2 w a b) := ((bW0 w _).alloc (by simp) _).alloc (by simp; omega) _
theorem pW1 (w : World) (v : Vl) : VlAt (W1 w v) w.heap.size v ∧ VlAt (W1 w v) (w.heap.size + 1) zer := ⟨(vlNew w v).alloc _, vlNew1 w _ zer⟩
theorem pW2 (w : World) (a b : Vl) : VlAt (W2 w a b) w.heap.size a ∧ VlAt (W2 w a b) (w.heap.size + 1) b ∧ VlAt (W2 w a b) (w.heap.size + 1 + 1) zer :=
  ⟨((vlNew w a).alloc _).alloc _, (vlNew1 w _ b).alloc _, vlNew2 w _ _ zer⟩
/-- The end of a function whose result lies in block x: it was stored there. -/
theorem end_set {fn : Func} {p : Tmp} {tmps : Array Value} {w W0 W : World} {x : Nat} {v u : Vl} (hr : fn.results = #[.cell p 34]) (ht : tmps[p]?.getD undef = .pointer (some ⟨x, 0, none⟩)) (hx : w.heap.size ≤ x)
    (h0 : Below w.heap.size w W0) (hB : Below W0.heap.size W0 W) (hv : VlAt W0 x u) :
    bodyPost Tryz.prog fn (fun e w' => e = .returned (vlV v) ∧ Below w.heap.size w w') .ret { tmps := tmps, defers := [] } ((W.setCell ⟨x, 0, none⟩ (.int .i64 v.kind)).setCell ⟨x, 1, none⟩ (.int .i64 v.n)) :=
  ret_cell hr ht (vlSet (hv.grow hB)) ⟨rfl, belTwo _ _ (h0.trans (hB.mono h0.size)) hx⟩
set_option maxRecDepth 100000 in
theorem truth_any (b : Bool) (w : World) : Calls Tryz.prog 235 #[.bool b] w fun e w' => e = .returned (vlV (tru b)) ∧ Below w.heap.size w w' := by
  have hr := vlNew w zer
  have hB : Below (w.alloc (vlO zer)).heap.size (w.alloc (vlO zer)) (w.alloc (vlO zer)) := Below.refl _ _
  cases b
  · go_enter Tryz.func235, Tryz.ntmps235
    go_wp2_with (go_at_call 155; refine (num_any _ _).mono ?_; rintro e w2 ⟨rfl, hb2⟩; replace hB := hB.trans (hb2.mono hB.size); obtain ⟨r0, r1⟩ := (hr.grow hB).cells; obtain ⟨rf0, rf1⟩ := (hr.grow hB).frozen; unfold vlV)
    exact end_set (v := tru false) Tryz.results235 rfl (Nat.le_refl _) (bW0 w _) hB hr
  · go_enter Tryz.func235, Tryz.ntmps235
    go_wp2_with (go_at_call 155; refine (num_any _ _).mono ?_; rintro e w2 ⟨rfl, hb2⟩; replace hB := hB.trans (hb2.mono hB.size); obtain ⟨r0, r1⟩ := (hr.grow hB).cells; obtain ⟨rf0, rf1⟩ := (hr.grow hB).frozen; unfold vlV)
    exact end_set (v := tru true) Tryz.results235 rfl (Nat.le_refl _) (bW0 w _) hB hr
/-- Is it a value? -/
def isB (v : Vl) : Bool := decide (IsV v)
set_option maxRecDepth 100000 in
theorem isValue_any (v : Vl) (w : World) : Calls Tryz.prog 160 #[vlV v] w fun e w' => e = .returned (.bool (isB v)) ∧ w' = w.alloc (vlO v) := by
  obtain ⟨k, n⟩ := v
  unfold vlV
  obtain ⟨R, hR⟩ : ∃ R, Hid (R = isB ⟨k, n⟩) := ⟨_, rfl⟩
  rw [← hR.out]
  have hR2 : Hid (R = decide ((k = 1 ∧ -1000000000000000 ≤ n ∧ n ≤ 1000000000000000) ∨ (2 ≤ k ∧ k ≤ 5 ∧ n = 0))) := hR.out
  clear hR
  go_enter Tryz.func160, Tryz.ntmps160
  go_wp2
  all_goals
    go_ret
    refine ⟨?_, rfl⟩
    rw [hR2.out]
    refine ret_bool ?_
    simp_all
    try first | rfl | omega
set_option maxRecDepth 100000 in
theorem isNum_any (v : Vl) (w : World) : Calls Tryz.prog 251 #[vlV v] w fun e w' => e = .returned (.bool (v.kind == 1)) ∧ w' = w.alloc (vlO v) := by
  unfold vlV
  go_enter Tryz.func251, Tryz.ntmps251
  go_wp2
  go_ret
  exact ⟨rfl, rfl⟩
set_option maxRecDepth 100000 in
theorem eitherNaN_any (a b : Vl) (w : World) : Calls Tryz.prog 255 #[vlV a, vlV b] w fun e w' => e = .returned (.bool (noB a b)) ∧ w' = (w.alloc (vlO a)).alloc (vlO b) := by
  unfold vlV noB
  cases h : (a.kind == 3)
  · go_enter Tryz.func255, Tryz.ntmps255
    go_wp2
    go_ret
    exact ⟨rfl, rfl⟩
  · go_enter Tryz.func255, Tryz.ntmps255
    go_wp2
    go_ret
    exact ⟨rfl, rfl⟩
/-- As the code's sign tells it. -/
def sgB (v : Vl) : Int := if v.kind = 4 then 1 else if v.kind = 5 then -1 else if v.n < 0 then -1 else if 0 < v.n then 1 else 0
theorem sgB_sgn {v : Vl} (h : v.kind = 1 ∨ v.n = 0) : sgB v = sgn v := by
  unfold sgB sgn
  by_cases h4 : v.kind = 4
  · simp [h4]
  · by_cases h5 : v.kind = 5
    · have : v.n = 0 := by rcases h with h | h <;> omega
      simp [h5, this]
    · simp only [h4, h5, if_false, false_or]
      by_cases h1 : v.n < 0
      · have : ¬ 0 < v.n := by omega
        simp [h1, this]
      · simp [h1]
set_option maxRecDepth 100000 in
theorem cmp64_any (a b : Int) (w : World) : Calls Tryz.prog 268 #[.int .i64 a, .int .i64 b] w fun e w' => e = .returned (.int .i64 (if a < b then -1 else if b < a then 1 else 0)) ∧ w' = w := by
  obtain ⟨R, hR⟩ : ∃ R, Hid (R = if a < b then (-1 : Int) else if b < a then 1 else 0) := ⟨_, rfl⟩
  rw [← hR.out]
  rcases Int.lt_trichotomy a b with h | h | h
  · obtain rfl : R = -1 := by rw [hR.out, if_pos h]
    go_enter Tryz.func268, Tryz.ntmps268
    go_wp2
    go_ret
    exact ⟨rfl, rfl⟩
  · subst h
    obtain rfl : R = 0 := by rw [hR.out, if_neg (by omega), if_neg (by omega)]
    go_enter Tryz.func268, Tryz.ntmps268
    go_wp2
    go_ret
    exact ⟨rfl, rfl⟩
  · obtain rfl : R = 1 := by rw [hR.out, if_neg (by omega), if_pos h]
    have h2 : ¬ a < b := by omega
    go_enter Tryz.func268, Tryz.ntmps268
    go_wp2
    go_ret
    exact ⟨rfl, rfl⟩
set_option maxRecDepth 100000 in
theorem cmpI_any (a b : Int) (w : World) : Calls Tryz.prog 272 #[.int .i64 a, .int .i64 b] w fun e w' => e = .returned (.int .i64 (if a < b then -1 else if b < a then 1 else 0)) ∧ w' = w := by
  obtain ⟨R, hR⟩ : ∃ R, Hid (R = if a < b then (-1 : Int) else if b < a then 1 else 0) := ⟨_, rfl⟩
  rw [← hR.out]
  rcases Int.lt_trichotomy a b with h | h | h
  · obtain rfl : R = -1 := by rw [hR.out, if_pos h]
    go_enter Tryz.func272, Tryz.ntmps272
    go_wp2
    go_ret
    exact ⟨rfl, rfl⟩
  · subst h
    obtain rfl : R = 0 := by rw [hR.out, if_neg (by omega), if_neg (by omega)]
    go_enter Tryz.func272, Tryz.ntmps272
    go_wp2
    go_ret
    exact ⟨rfl, rfl⟩
  · obtain rfl : R = 1 := by rw [hR.out, if_neg (by omega), if_pos h]
    have h2 : ¬ a < b := by omega
    go_enter Tryz.func272, Tryz.ntmps272
    go_wp2
    go_ret
    exact ⟨rfl, rfl⟩
set_option maxRecDepth 100000 in
theorem sign_any (v : Vl) (w : World) : Calls Tryz.prog 250 #[vlV v] w fun e w' => e = .returned (.int .i64 (sgB v)) ∧ w' = w.alloc (vlO v) := by
  obtain ⟨k, n⟩ := v
  unfold vlV
  obtain ⟨R, hR⟩ : ∃ R, Hid (R = sgB ⟨k, n⟩) := ⟨_, rfl⟩
  rw [← hR.out]
  have hc := fun W => cmp64_any n 0 W
  obtain ⟨C, hC⟩ : ∃ C, Hid (C = if n < 0 then (-1 : Int) else if 0 < n then 1 else 0) := ⟨_, rfl⟩
  rw [← hC.out] at hc
  have hR2 : Hid (R = if k = 4 then 1 else if k = 5 then -1 else C) := by rw [hC.out]; exact hR.out
  clear hR hC
  go_enter Tryz.func250, Tryz.ntmps250
  go_wp2_with (go_at_call 268; refine (hc _).mono ?_; rintro e w1 ⟨rfl, hw⟩; subst w1)
  all_goals
    go_ret
    refine ⟨?_, rfl⟩
    rw [hR2.out]
    refine ret_int ?_
    simp_all
set_option maxRecDepth 100000 in
theorem endless_any (s : Int) (w : World) (hs : s = 1 ∨ s = -1 ∨ s = 0) : Calls Tryz.prog 249 #[.int .i64 s] w fun e w' => e = .returned (vlV (byd s)) ∧ Below w.heap.size w w' := by
  have hr := vlNew w zer
  have hB2 : ∀ o p, Below w.heap.size w ((w.alloc o).alloc p) := fun o p => (bW0 w o).alloc (by simp) p
  rcases hs with rfl | rfl | rfl
  · go_enter Tryz.func249, Tryz.ntmps249
    go_wp2_with (go_at_call 137; refine (plus_any _).mono ?_; rintro e w1 ⟨rfl, hw⟩; subst hw; unfold vlV)
    exact ret_cell Tryz.results249 rfl ((vlNew w pls).alloc _) ⟨rfl, hB2 _ _⟩
  · go_enter Tryz.func249, Tryz.ntmps249
    go_wp2_with (go_at_call 154; refine (minus_any _).mono ?_; rintro e w1 ⟨rfl, hw⟩; subst hw; unfold vlV)
    exact ret_cell Tryz.results249 rfl ((vlNew w mns).alloc _) ⟨rfl, hB2 _ _⟩
  · go_enter Tryz.func249, Tryz.ntmps249
    go_wp2_with (go_at_call 136; refine (nan_any _).mono ?_; rintro e w1 ⟨rfl, hw⟩; subst hw; unfold vlV)
    exact ret_cell Tryz.results249 rfl ((vlNew w nan).alloc _) ⟨rfl, hB2 _ _⟩
set_option maxRecDepth 100000 in
theorem size_any (n : Int) (w : World) (h1 : -1000000000000000 ≤ n) (h2 : n ≤ 1000000000000000) : Calls Tryz.prog 196 #[.int .i64 n] w fun e w' => e = .returned (.int .u64 (n.natAbs : Int)) ∧ w' = w := by
  by_cases h : n < 0
  · have e : (n.natAbs : Int) = -n := by omega
    rw [e]
    go_enter Tryz.func196, Tryz.ntmps196
    go_wp2
    go_ret
    exact ⟨rfl, rfl⟩
  · have e : (n.natAbs : Int) = n := by omega
    rw [e]
    go_enter Tryz.func196, Tryz.ntmps196
    go_wp2
    go_ret
    exact ⟨rfl, rfl⟩
end Go.Proofs.YtaffplmfnincfaaGreatDoor
/- Values: the contracts of turned, unsigned, floor, height, order, sum, not, True, Check. -/
namespace Go.Proofs.YtaffplmfnincfaaGreatDoor
set_option linter.unusedVariables false
open Go.RowKit
theorem null_b (w : World) : Calls Tryz.prog 135 #[] w fun e w' => e = .returned (vlV nul) ∧ Below w.heap.size w w' := (null_any w).mono fun e w' ⟨h, hw⟩ => ⟨h, by rw [hw]; exact bW0 w _⟩
theorem nan_b (w : World) : Calls Tryz.prog 136 #[] w fun e w' => e = .returned (vlV nan) ∧ Below w.heap.size w w' := (nan_any w).mono fun e w' ⟨h, hw⟩ => ⟨h, by rw [hw]; exact bW0 w _⟩
theorem plus_b (w : World) : Calls Tryz.prog 137 #[] w fun e w' => e = .returned (vlV pls) ∧ Below w.heap.size w w' := (plus_any w).mono fun e w' ⟨h, hw⟩ => ⟨h, by rw [hw]; exact bW0 w _⟩
theorem minus_b (w : World) : Calls Tryz.prog 154 #[] w fun e w' => e = .returned (vlV mns) ∧ Below w.heap.size w w' := (minus_any w).mono fun e w' ⟨h, hw⟩ => ⟨h, by rw [hw]; exact bW0 w _⟩
theorem isValue_b (v : Vl) (w : World) : Calls Tryz.prog 160 #[vlV v] w fun e w' => e = .returned (.bool (isB v)) ∧ Below w.heap.size w w' := (isValue_any v w).mono fun e w' ⟨h, hw⟩ => ⟨h, by rw [hw]; exact bW0 w _⟩
theorem isNum_b (v : Vl) (w : World) : Calls Tryz.prog 251 #[vlV v] w fun e w' => e = .returned (.bool (v.kind == 1)) ∧ Below w.heap.size w w' := (isNum_any v w).mono fun e w' ⟨h, hw⟩ => ⟨h, by rw [hw]; exact bW0 w _⟩
theorem sign_b (v : Vl) (w : World) : Calls Tryz.prog 250 #[vlV v] w fun e w' => e = .returned (.int .i64 (sgB v)) ∧ Below w.heap.size w w' := (sign_any v w).mono fun e w' ⟨h, hw⟩ => ⟨h, by rw [hw]; exact bW0 w _⟩
theorem eitherNaN_b (a b : Vl) (w : World) : Calls Tryz.prog 255 #[vlV a, vlV b] w fun e w' => e = .returned (.bool (noB a b)) ∧ Below w.heap.size w w' := (eitherNaN_any a b w).mono fun e w' ⟨h, hw⟩ => ⟨h, by rw [hw]; exact (bW0 w _).alloc (by simp) _⟩
theorem cmp64_b (a b : Int) (w : World) : Calls Tryz.prog 268 #[.int .i64 a, .int .i64 b] w fun e w' => e = .returned (.int .i64 (if a < b then -1 else if b < a then 1 else 0)) ∧ Below w.heap.size w w' := (cmp64_any a b w).mono fun e w' ⟨h, hw⟩ => ⟨h, by rw [hw]; exact Below.refl _ _⟩
theorem cmpI_b (a b : Int) (w : World) : Calls Tryz.prog 272 #[.int .i64 a, .int .i64 b] w fun e w' => e = .returned (.int .i64 (if a < b then -1 else if b < a then 1 else 0)) ∧ Below w.heap.size w w' := (cmpI_any a b w).mono fun e w' ⟨h, hw⟩ => ⟨h, by rw [hw]; exact Below.refl _ _⟩
set_option maxRecDepth 100000 in
theorem turned_any (v : Vl) (hv : IsV v) (w : World) : Calls Tryz.prog 216 #[vlV v] w fun e w' => e = .returned (vlV (neg v)) ∧ Below w.heap.size w w' := by
  obtain ⟨ha, hr⟩ := pW1 w v
  have hB : Below (W1 w v).heap.size (W1 w v) (W1 w v) := Below.refl _ _
  rcases hv.cases with ⟨n, rfl, h1, h2⟩ | rfl | rfl | rfl | rfl
  · have e : neg ⟨1, n⟩ = num (-n) := by rw [num_in (by omega) (by omega)]; simp [neg]
    rw [e]; clear e
    unfold vlV
    go_enter Tryz.func216, Tryz.ntmps216
    go_wp2_with (go_at_call 155; refine (num_any _ _).mono ?_; rintro e w2 ⟨rfl, hb2⟩; replace hB := hB.trans (hb2.mono hB.size); obtain ⟨a0, a1⟩ := (ha.grow hB).cells; obtain ⟨r0, r1⟩ := (hr.grow hB).cells; obtain ⟨rf0, rf1⟩ := (hr.grow hB).frozen; unfold vlV)
    exact end_set (v := num (-n)) Tryz.results216 rfl (by omega) (bW1 w _) hB hr
  · unfold vlV
    go_enter Tryz.func216, Tryz.ntmps216
    go_wp2
    exact ret_cell Tryz.results216 rfl (vlNew1 w _ nul) ⟨rfl, (bW0 w _).alloc (by simp) _⟩
  · unfold vlV
    go_enter Tryz.func216, Tryz.ntmps216
    go_wp2
    exact ret_cell Tryz.results216 rfl (vlNew1 w _ nan) ⟨rfl, (bW0 w _).alloc (by simp) _⟩
  · have hs : sgB pls = 1 := rfl
    have hs' := fun W => sign_b pls W
    rw [hs] at hs'
    unfold vlV at *
    go_enter Tryz.func216, Tryz.ntmps216
    go_wp2_with (first | (go_at_call 250; refine (hs' _).mono ?_; rintro e w2 ⟨rfl, hb2⟩; replace hB := hB.trans (hb2.mono hB.size); obtain ⟨a0, a1⟩ := (ha.grow hB).cells; obtain ⟨r0, r1⟩ := (hr.grow hB).cells; obtain ⟨rf0, rf1⟩ := (hr.grow hB).frozen) | (go_at_call 249; refine (endless_any (-1) _ (by decide)).mono ?_; rintro e w2 ⟨rfl, hb2⟩; replace hB := hB.trans (hb2.mono hB.size); obtain ⟨a0, a1⟩ := (ha.grow hB).cells; obtain ⟨r0, r1⟩ := (hr.grow hB).cells; obtain ⟨rf0, rf1⟩ := (hr.grow hB).frozen; unfold vlV))
    exact end_set (v := byd (-1)) Tryz.results216 rfl (by omega) (bW1 w _) hB hr
  · have hs : sgB mns = -1 := rfl
    have hs' := fun W => sign_b mns W
    rw [hs] at hs'
    unfold vlV at *
    go_enter Tryz.func216, Tryz.ntmps216
    go_wp2_with (first | (go_at_call 250; refine (hs' _).mono ?_; rintro e w2 ⟨rfl, hb2⟩; replace hB := hB.trans (hb2.mono hB.size); obtain ⟨a0, a1⟩ := (ha.grow hB).cells; obtain ⟨r0, r1⟩ := (hr.grow hB).cells; obtain ⟨rf0, rf1⟩ := (hr.grow hB).frozen) | (go_at_call 249; refine (endless_any 1 _ (by decide)).mono ?_; rintro e w2 ⟨rfl, hb2⟩; replace hB := hB.trans (hb2.mono hB.size); obtain ⟨a0, a1⟩ := (ha.grow hB).cells; obtain ⟨r0, r1⟩ := (hr.grow hB).cells; obtain ⟨rf0, rf1⟩ := (hr.grow hB).frozen; unfold vlV))
    exact end_set (v := byd 1) Tryz.results216 rfl (by omega) (bW1 w _) hB hr
theorem IsV.zn {v : Vl} (h : IsV v) : v.kind = 1 ∨ v.n = 0 := by
  rcases h with h | h
  · exact .inl h.1
  · exact .inr h.2.2
set_option maxRecDepth 100000 in
theorem unsigned_any (v : Vl) (hv : IsV v) (w : World) : Calls Tryz.prog 217 #[vlV v] w fun e w' => e = .returned (vlV (absV v)) ∧ Below w.heap.size w w' := by
  obtain ⟨ha, hr⟩ := pW1 w v
  have hB : Below (W1 w v).heap.size (W1 w v) (W1 w v) := Below.refl _ _
  have hs := fun W => sign_b v W
  have ht := fun W => turned_any v hv W
  rw [sgB_sgn hv.zn] at hs
  by_cases h : sgn v < 0
  · have e : absV v = neg v := by rw [absV, if_pos h]
    rw [e]; clear e
    generalize neg v = u at *
    generalize sgn v = S at *
    clear hv
    unfold vlV at hs ht ⊢
    go_enter Tryz.func217, Tryz.ntmps217
    go_wp2_with (first | (go_at_call 250; refine (hs _).mono ?_; rintro e w2 ⟨rfl, hb2⟩; replace hB := hB.trans (hb2.mono hB.size); obtain ⟨a0, a1⟩ := (ha.grow hB).cells; obtain ⟨r0, r1⟩ := (hr.grow hB).cells; obtain ⟨rf0, rf1⟩ := (hr.grow hB).frozen) | (go_at_call 216; refine (ht _).mono ?_; rintro e w2 ⟨rfl, hb2⟩; replace hB := hB.trans (hb2.mono hB.size); obtain ⟨a0, a1⟩ := (ha.grow hB).cells; obtain ⟨r0, r1⟩ := (hr.grow hB).cells; obtain ⟨rf0, rf1⟩ := (hr.grow hB).frozen))
    exact end_set (v := u) Tryz.results217 rfl (by omega) (bW1 w _) hB hr
  · have e : absV v = v := by rw [absV, if_neg h]
    rw [e]; clear e
    generalize sgn v = S at *
    clear hv ht
    unfold vlV at hs ⊢
    go_enter Tryz.func217, Tryz.ntmps217
    go_wp2_with (first | (go_at_call 250; refine (hs _).mono ?_; rintro e w2 ⟨rfl, hb2⟩; replace hB := hB.trans (hb2.mono hB.size); obtain ⟨a0, a1⟩ := (ha.grow hB).cells; obtain ⟨r0, r1⟩ := (hr.grow hB).cells; obtain ⟨rf0, rf1⟩ := (hr.grow hB).frozen))
    exact end_set (v := v) Tryz.results217 rfl (by omega) (bW1 w _) hB hr
set_option maxRecDepth 100000 in
theorem floor_any (v : Vl) (hv : IsV v) (w : World) : Calls Tryz.prog 218 #[vlV v] w fun e w' => e = .returned (vlV (floorV v)) ∧ Below w.heap.size w w' := by
  obtain ⟨ha, hr⟩ := pW1 w v
  have hB : Below (W1 w v).heap.size (W1 w v) (W1 w v) := Below.refl _ _
  have hi := fun W => isNum_b v W
  by_cases h1 : v.kind = 1
  · obtain ⟨k, n⟩ := v
    simp only at h1
    subst h1
    have hn : -1000000000000000 ≤ n ∧ n ≤ 1000000000000000 := by rcases hv with h | h <;> simp at h <;> omega
    obtain ⟨q, hq⟩ : ∃ q, Hid (q = n - n % 1000) := ⟨_, rfl⟩
    have hq2 : -1000000000000000 ≤ q ∧ q ≤ 1000000000000000 := by have := hq.out; omega
    have e : floorV ⟨1, n⟩ = num q := by rw [num_in hq2.1 hq2.2, hq.out]; simp [floorV]
    rw [e]
    have hf := floor_rest n
    rw [← hq.out] at hf
    obtain ⟨r, hr0⟩ : ∃ r, Hid (r = Int.tmod n 1000) := ⟨_, rfl⟩
    have hr1 : Int.tmod n 1000 = r := hr0.out.symm
    have hrb : -1000 < r ∧ r < 1000 := by rw [← hr1]; have h1 := Int.tmod_lt_of_pos n (show (0 : Int) < 1000 by decide); have h2 := Int.lt_tmod_of_pos n (show (0 : Int) < 1000 by decide); omega
    rw [hr1] at hf
    clear e hq hr0 hv hq2
    unfold vlV at hi ⊢
    by_cases hneg : r < 0
    · rw [if_pos hneg] at hf
      replace hf : Hid (n - (r + 1000) = q) := hf
      go_enter Tryz.func218, Tryz.ntmps218
      go_wp2_with (first | (go_at_call 251; refine (hi _).mono ?_; rintro e w2 ⟨rfl, hb2⟩; replace hB := hB.trans (hb2.mono hB.size); obtain ⟨a0, a1⟩ := (ha.grow hB).cells; obtain ⟨r0, r1⟩ := (hr.grow hB).cells; obtain ⟨rf0, rf1⟩ := (hr.grow hB).frozen) | (go_at_call 155; rw [hf.out]; refine (num_any q _).mono ?_; rintro e w2 ⟨rfl, hb2⟩; replace hB := hB.trans (hb2.mono hB.size); obtain ⟨a0, a1⟩ := (ha.grow hB).cells; obtain ⟨r0, r1⟩ := (hr.grow hB).cells; obtain ⟨rf0, rf1⟩ := (hr.grow hB).frozen; unfold vlV))
      exact end_set (v := num q) Tryz.results218 rfl (by omega) (bW1 w _) hB hr
    · rw [if_neg hneg] at hf
      replace hf : Hid (n - r = q) := hf
      go_enter Tryz.func218, Tryz.ntmps218
      go_wp2_with (first | (go_at_call 251; refine (hi _).mono ?_; rintro e w2 ⟨rfl, hb2⟩; replace hB := hB.trans (hb2.mono hB.size); obtain ⟨a0, a1⟩ := (ha.grow hB).cells; obtain ⟨r0, r1⟩ := (hr.grow hB).cells; obtain ⟨rf0, rf1⟩ := (hr.grow hB).frozen) | (go_at_call 155; rw [hf.out]; refine (num_any q _).mono ?_; rintro e w2 ⟨rfl, hb2⟩; replace hB := hB.trans (hb2.mono hB.size); obtain ⟨a0, a1⟩ := (ha.grow hB).cells; obtain ⟨r0, r1⟩ := (hr.grow hB).cells; obtain ⟨rf0, rf1⟩ := (hr.grow hB).frozen; unfold vlV))
      exact end_set (v := num q) Tryz.results218 rfl (by omega) (bW1 w _) hB hr
  · have e : floorV v = v := by rw [floorV, if_neg h1]
    rw [e]; clear e
    have h1b : (v.kind == 1) = false := by simpa using h1
    rw [h1b] at hi
    clear hv
    unfold vlV at hi ⊢
    go_enter Tryz.func218, Tryz.ntmps218
    go_wp2_with (first | (go_at_call 251; refine (hi _).mono ?_; rintro e w2 ⟨rfl, hb2⟩; replace hB := hB.trans (hb2.mono hB.size); obtain ⟨a0, a1⟩ := (ha.grow hB).cells; obtain ⟨r0, r1⟩ := (hr.grow hB).cells; obtain ⟨rf0, rf1⟩ := (hr.grow hB).frozen))
    exact end_set (v := v) Tryz.results218 rfl (by omega) (bW1 w _) hB hr
/-- As height tells it. -/
def hgt (v : Vl) : Int := if v.kind = 1 then 0 else sgB v
set_option maxRecDepth 100000 in
theorem height_any (v : Vl) (w : World) : Calls Tryz.prog 273 #[vlV v] w fun e w' => e = .returned (.int .i64 (hgt v)) ∧ Below w.heap.size w w' := by
  have ha := vlNew w v
  have hB : Below (w.alloc (vlO v)).heap.size (w.alloc (vlO v)) (w.alloc (vlO v)) := Below.refl _ _
  have hi := fun W => isNum_b v W
  have hs := fun W => sign_b v W
  unfold hgt
  by_cases h1 : v.kind = 1
  · rw [if_pos h1]
    have h1b : (v.kind == 1) = true := by simpa using h1
    rw [h1b] at hi
    clear h1 h1b
    unfold vlV at hi ⊢
    go_enter Tryz.func273, Tryz.ntmps273
    go_wp2_with (first | (go_at_call 251; refine (hi _).mono ?_; rintro e w2 ⟨rfl, hb2⟩; replace hB := hB.trans (hb2.mono hB.size); obtain ⟨a0, a1⟩ := (ha.grow hB).cells))
    go_ret
    exact ⟨rfl, (bW0 w _).trans (hB.mono (by simp))⟩
  · rw [if_neg h1]
    have h1b : (v.kind == 1) = false := by simpa using h1
    rw [h1b] at hi
    clear h1 h1b
    generalize sgB v = S at *
    unfold vlV at hi hs ⊢
    go_enter Tryz.func273, Tryz.ntmps273
    go_wp2_with (first | (go_at_call 251; refine (hi _).mono ?_; rintro e w2 ⟨rfl, hb2⟩; replace hB := hB.trans (hb2.mono hB.size); obtain ⟨a0, a1⟩ := (ha.grow hB).cells) | (go_at_call 250; refine (hs _).mono ?_; rintro e w2 ⟨rfl, hb2⟩; replace hB := hB.trans (hb2.mono hB.size); obtain ⟨a0, a1⟩ := (ha.grow hB).cells))
    go_ret
    exact ⟨rfl, (bW0 w _).trans (hB.mono (by simp))⟩
end Go.Proofs.YtaffplmfnincfaaGreatDoor
