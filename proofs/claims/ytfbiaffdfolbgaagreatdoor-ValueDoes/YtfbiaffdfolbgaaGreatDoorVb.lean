/- Values: the contracts of Truth, isValue, isNum, sign, endless, size, eitherNaN, turned, unsigned, floor, height. -/
import Derived.Test.YtfbiaffdfolbgaaGreatDoorVa
namespace Go.Proofs.YtfbiaffdfolbgaaGreatDoor
set_option linter.unusedVariables false
open Go.RowKit
/-- The world with one value boxed and a result. -/
abbrev W1 (w : World) (v : Vl) : World := (w.alloc (vlO v)).alloc (vlO zer)
abbrev W2 (w : World) (a b : Vl) : World := ((w.alloc (vlO a)).alloc (vlO b)).alloc (vlO zer)
theorem bW0 (w : World) (o : Obj) : Below w.heap.size w (w.alloc o) := (Below.refl _ w).alloc (Nat.le_refl _) o
theorem bW1 (w : World) (v : Vl) : Below w.heap.size w (W1 w v) := (bW0 w _).alloc (by simp) _
theorem bW2 (w : World) (a b : Vl) : Below w.heap.size w (W2 w a b) := ((bW0 w _).alloc (by simp) _).alloc (by simp; omega) _
theorem pW1 (w : World) (v : Vl) : VlAt (W1 w v) w.heap.size v ∧ VlAt (W1 w v) (w.heap.size + 1) zer := ⟨(vlNew w v).alloc _, vlNew1 w _ zer⟩
theorem pW2 (w : World) (a b : Vl) : VlAt (W2 w a b) w.heap.size a ∧ VlAt (W2 w a b) (w.heap.size + 1) b ∧ VlAt (W2 w a b) (w.heap.size + 1 + 1) zer :=
  ⟨((vlNew w a).alloc _).alloc _, (vlNew1 w _ b).alloc _, vlNew2 w _ _ zer⟩
/-- The end of a function whose result lies in block x: it was stored there. -/
theorem end_set {fn : Func} {p : Tmp} {tmps : Array Value} {w W0 W : World} {x : Nat} {v u : Vl} (hr : fn.results = #[.cell p 25]) (ht : tmps[p]?.getD undef = .pointer (some ⟨x, 0, none⟩)) (hx : w.heap.size ≤ x)
    (h0 : Below w.heap.size w W0) (hB : Below W0.heap.size W0 W) (hv : VlAt W0 x u) :
    bodyPost Tryz.prog fn (fun e w' => e = .returned (vlV v) ∧ Below w.heap.size w w') .ret { tmps := tmps, defers := [] } ((W.setCell ⟨x, 0, none⟩ (.int .i64 v.kind)).setCell ⟨x, 1, none⟩ (.int .i64 v.n)) :=
  ret_cell hr ht (vlSet (hv.grow hB)) ⟨rfl, belTwo _ _ (h0.trans (hB.mono h0.size)) hx⟩
set_option maxRecDepth 100000 in
theorem truth_any (b : Bool) (w : World) : Calls Tryz.prog 20 #[.bool b] w fun e w' => e = .returned (vlV (tru b)) ∧ Below w.heap.size w w' := by
  have hr := vlNew w zer
  have hB : Below (w.alloc (vlO zer)).heap.size (w.alloc (vlO zer)) (w.alloc (vlO zer)) := Below.refl _ _
  cases b
  · go_enter Tryz.func20, Tryz.ntmps20
    go_wp2_with (go_at_call 18; refine (num_any _ _).mono ?_; rintro e w2 ⟨rfl, hb2⟩; replace hB := hB.trans (hb2.mono hB.size); obtain ⟨r0, r1⟩ := (hr.grow hB).cells; obtain ⟨rf0, rf1⟩ := (hr.grow hB).frozen; unfold vlV)
    exact end_set (v := tru false) Tryz.results20 rfl (Nat.le_refl _) (bW0 w _) hB hr
  · go_enter Tryz.func20, Tryz.ntmps20
    go_wp2_with (go_at_call 18; refine (num_any _ _).mono ?_; rintro e w2 ⟨rfl, hb2⟩; replace hB := hB.trans (hb2.mono hB.size); obtain ⟨r0, r1⟩ := (hr.grow hB).cells; obtain ⟨rf0, rf1⟩ := (hr.grow hB).frozen; unfold vlV)
    exact end_set (v := tru true) Tryz.results20 rfl (Nat.le_refl _) (bW0 w _) hB hr
/-- Is it a value? -/
def isB (v : Vl) : Bool := decide (IsV v)
set_option maxRecDepth 100000 in
theorem isValue_any (v : Vl) (w : World) : Calls Tryz.prog 40 #[vlV v] w fun e w' => e = .returned (.bool (isB v)) ∧ w' = w.alloc (vlO v) := by
  obtain ⟨k, n⟩ := v
  unfold vlV
  obtain ⟨R, hR⟩ : ∃ R, Hid (R = isB ⟨k, n⟩) := ⟨_, rfl⟩
  rw [← hR.out]
  have hR2 : Hid (R = decide ((k = 1 ∧ -1000000000000000 ≤ n ∧ n ≤ 1000000000000000) ∨ (2 ≤ k ∧ k ≤ 5 ∧ n = 0))) := hR.out
  clear hR
  go_enter Tryz.func40, Tryz.ntmps40
  go_wp2
  all_goals
    go_ret
    refine ⟨?_, rfl⟩
    rw [hR2.out]
    refine ret_bool ?_
    simp_all
    try first | rfl | omega
set_option maxRecDepth 100000 in
theorem isNum_any (v : Vl) (w : World) : Calls Tryz.prog 78 #[vlV v] w fun e w' => e = .returned (.bool (v.kind == 1)) ∧ w' = w.alloc (vlO v) := by
  unfold vlV
  go_enter Tryz.func78, Tryz.ntmps78
  go_wp2
  go_ret
  exact ⟨rfl, rfl⟩
set_option maxRecDepth 100000 in
theorem eitherNaN_any (a b : Vl) (w : World) : Calls Tryz.prog 82 #[vlV a, vlV b] w fun e w' => e = .returned (.bool (noB a b)) ∧ w' = (w.alloc (vlO a)).alloc (vlO b) := by
  unfold vlV noB
  cases h : (a.kind == 3)
  · go_enter Tryz.func82, Tryz.ntmps82
    go_wp2
    go_ret
    exact ⟨rfl, rfl⟩
  · go_enter Tryz.func82, Tryz.ntmps82
    go_wp2
    go_ret
    exact ⟨rfl, rfl⟩
/-- As the code's sign tells it. -/
def sgB (v : Vl) : Int := if v.kind = 4 then 1 else if v.kind = 5 then -1 else if v.n < 0 then -1 else if 0 < v.n then 1 else 0
theorem sgB_sgn {v : Vl} (h : v.kind = 1 ∨ v.n = 0) : sgB v = sgn v := by
  unfold sgB sgn
  by_cases h4 : v.kind = 4
  · simp [h4]
  · by_cases h5 : v.kind = 5
    · have : v.n = 0 := by rcases h with h | h <;> omega
      simp [h5, this]
    · simp only [h4, h5, if_false, false_or]
      by_cases h1 : v.n < 0
      · have : ¬ 0 < v.n := by omega
        simp [h1, this]
      · simp [h1]
set_option maxRecDepth 100000 in
theorem cmp64_any (a b : Int) (w : World) : Calls Tryz.prog 97 #[.int .i64 a, .int .i64 b] w fun e w' => e = .returned (.int .i64 (if a < b then -1 else if b < a then 1 else 0)) ∧ w' = w := by
  obtain ⟨R, hR⟩ : ∃ R, Hid (R = if a < b then (-1 : Int) else if b < a then 1 else 0) := ⟨_, rfl⟩
  rw [← hR.out]
  rcases Int.lt_trichotomy a b with h | h | h
  · obtain rfl : R = -1 := by rw [hR.out, if_pos h]
    go_enter Tryz.func97, Tryz.ntmps97
    go_wp2
    go_ret
    exact ⟨rfl, rfl⟩
  · subst h
    obtain rfl : R = 0 := by rw [hR.out, if_neg (by omega), if_neg (by omega)]
    go_enter Tryz.func97, Tryz.ntmps97
    go_wp2
    go_ret
    exact ⟨rfl, rfl⟩
  · obtain rfl : R = 1 := by rw [hR.out, if_neg (by omega), if_pos h]
    have h2 : ¬ a < b := by omega
    go_enter Tryz.func97, Tryz.ntmps97
    go_wp2
    go_ret
    exact ⟨rfl, rfl⟩
set_option maxRecDepth 100000 in
theorem cmpI_any (a b : Int) (w : World) : Calls Tryz.prog 101 #[.int .i64 a, .int .i64 b] w fun e w' => e = .returned (.int .i64 (if a < b then -1 else if b < a then 1 else 0)) ∧ w' = w := by
  obtain ⟨R, hR⟩ : ∃ R, Hid (R = if a < b then (-1 : Int) else if b < a then 1 else 0) := ⟨_, rfl⟩
  rw [← hR.out]
  rcases Int.lt_trichotomy a b with h | h | h
  · obtain rfl : R = -1 := by rw [hR.out, if_pos h]
    go_enter Tryz.func101, Tryz.ntmps101
    go_wp2
    go_ret
    exact ⟨rfl, rfl⟩
  · subst h
    obtain rfl : R = 0 := by rw [hR.out, if_neg (by omega), if_neg (by omega)]
    go_enter Tryz.func101, Tryz.ntmps101
    go_wp2
    go_ret
    exact ⟨rfl, rfl⟩
  · obtain rfl : R = 1 := by rw [hR.out, if_neg (by omega), if_pos h]
    have h2 : ¬ a < b := by omega
    go_enter Tryz.func101, Tryz.ntmps101
    go_wp2
    go_ret
    exact ⟨rfl, rfl⟩
set_option maxRecDepth 100000 in
theorem sign_any (v : Vl) (w : World) : Calls Tryz.prog 77 #[vlV v] w fun e w' => e = .returned (.int .i64 (sgB v)) ∧ w' = w.alloc (vlO v) := by
  obtain ⟨k, n⟩ := v
  unfold vlV
  obtain ⟨R, hR⟩ : ∃ R, Hid (R = sgB ⟨k, n⟩) := ⟨_, rfl⟩
  rw [← hR.out]
  have hc := fun W => cmp64_any n 0 W
  obtain ⟨C, hC⟩ : ∃ C, Hid (C = if n < 0 then (-1 : Int) else if 0 < n then 1 else 0) := ⟨_, rfl⟩
  rw [← hC.out] at hc
  have hR2 : Hid (R = if k = 4 then 1 else if k = 5 then -1 else C) := by rw [hC.out]; exact hR.out
  clear hR hC
  go_enter Tryz.func77, Tryz.ntmps77
  go_wp2_with (go_at_call 97; refine (hc _).mono ?_; rintro e w1 ⟨rfl, hw⟩; subst w1)
  all_goals
    go_ret
    refine ⟨?_, rfl⟩
    rw [hR2.out]
    refine ret_int ?_
    simp_all
set_option maxRecDepth 100000 in
theorem endless_any (s : Int) (w : World) (hs : s = 1 ∨ s = -1 ∨ s = 0) : Calls Tryz.prog 76 #[.int .i64 s] w fun e w' => e = .returned (vlV (byd s)) ∧ Below w.heap.size w w' := by
  have hr := vlNew w zer
  have hB2 : ∀ o p, Below w.heap.size w ((w.alloc o).alloc p) := fun o p => (bW0 w o).alloc (by simp) p
  rcases hs with rfl | rfl | rfl
  · go_enter Tryz.func76, Tryz.ntmps76
    go_wp2_with (go_at_call 26; refine (plus_any _).mono ?_; rintro e w1 ⟨rfl, hw⟩; subst hw; unfold vlV)
    exact ret_cell Tryz.results76 rfl ((vlNew w pls).alloc _) ⟨rfl, hB2 _ _⟩
  · go_enter Tryz.func76, Tryz.ntmps76
    go_wp2_with (go_at_call 28; refine (minus_any _).mono ?_; rintro e w1 ⟨rfl, hw⟩; subst hw; unfold vlV)
    exact ret_cell Tryz.results76 rfl ((vlNew w mns).alloc _) ⟨rfl, hB2 _ _⟩
  · go_enter Tryz.func76, Tryz.ntmps76
    go_wp2_with (go_at_call 24; refine (nan_any _).mono ?_; rintro e w1 ⟨rfl, hw⟩; subst hw; unfold vlV)
    exact ret_cell Tryz.results76 rfl ((vlNew w nan).alloc _) ⟨rfl, hB2 _ _⟩
set_option maxRecDepth 100000 in
theorem size_any (n : Int) (w : World) (h1 : -1000000000000000 ≤ n) (h2 : n ≤ 1000000000000000) : Calls Tryz.prog 74 #[.int .i64 n] w fun e w' => e = .returned (.int .u64 (n.natAbs : Int)) ∧ w' = w := by
  by_cases h : n < 0
  · have e : (n.natAbs : Int) = -n := by omega
    rw [e]
    go_enter Tryz.func74, Tryz.ntmps74
    go_wp2
    go_ret
    exact ⟨rfl, rfl⟩
  · have e : (n.natAbs : Int) = n := by omega
    rw [e]
    go_enter Tryz.func74, Tryz.ntmps74
    go_wp2
    go_ret
    exact ⟨rfl, rfl⟩
end Go.Proofs.YtfbiaffdfolbgaaGreatDoor
