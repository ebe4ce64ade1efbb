/- Values: the contracts of turned, unsigned, floor, height, order, sum, not, True, Check. -/
import Derived.Test.YtfbiaffdfolbgaaGreatDoorVb
import Derived.Deep.RegionHeld3
import Derived.Deep.DrawnRows
namespace Go.Proofs.YtfbiaffdfolbgaaGreatDoor
set_option linter.unusedVariables false
open Go.RowKit
theorem null_b (w : World) : Calls Tryz.prog 22 #[] w fun e w' => e = .returned (vlV nul) ∧ Below w.heap.size w w' := (null_any w).mono fun e w' ⟨h, hw⟩ => ⟨h, by rw [hw]; exact bW0 w _⟩
theorem nan_b (w : World) : Calls Tryz.prog 24 #[] w fun e w' => e = .returned (vlV nan) ∧ Below w.heap.size w w' := (nan_any w).mono fun e w' ⟨h, hw⟩ => ⟨h, by rw [hw]; exact bW0 w _⟩
theorem plus_b (w : World) : Calls Tryz.prog 26 #[] w fun e w' => e = .returned (vlV pls) ∧ Below w.heap.size w w' := (plus_any w).mono fun e w' ⟨h, hw⟩ => ⟨h, by rw [hw]; exact bW0 w _⟩
theorem minus_b (w : World) : Calls Tryz.prog 28 #[] w fun e w' => e = .returned (vlV mns) ∧ Below w.heap.size w w' := (minus_any w).mono fun e w' ⟨h, hw⟩ => ⟨h, by rw [hw]; exact bW0 w _⟩
theorem isValue_b (v : Vl) (w : World) : Calls Tryz.prog 40 #[vlV v] w fun e w' => e = .returned (.bool (isB v)) ∧ Below w.heap.size w w' := (isValue_any v w).mono fun e w' ⟨h, hw⟩ => ⟨h, by rw [hw]; exact bW0 w _⟩
theorem isNum_b (v : Vl) (w : World) : Calls Tryz.prog 78 #[vlV v] w fun e w' => e = .returned (.bool (v.kind == 1)) ∧ Below w.heap.size w w' := (isNum_any v w).mono fun e w' ⟨h, hw⟩ => ⟨h, by rw [hw]; exact bW0 w _⟩
theorem sign_b (v : Vl) (w : World) : Calls Tryz.prog 77 #[vlV v] w fun e w' => e = .returned (.int .i64 (sgB v)) ∧ Below w.heap.size w w' := (sign_any v w).mono fun e w' ⟨h, hw⟩ => ⟨h, by rw [hw]; exact bW0 w _⟩
theorem eitherNaN_b (a b : Vl) (w : World) : Calls Tryz.prog 82 #[vlV a, vlV b] w fun e w' => e = .returned (.bool (noB a b)) ∧ Below w.heap.size w w' := (eitherNaN_any a b w).mono fun e w' ⟨h, hw⟩ => ⟨h, by rw [hw]; exact (bW0 w _).alloc (by simp) _⟩
theorem cmp64_b (a b : Int) (w : World) : Calls Tryz.prog 97 #[.int .i64 a, .int .i64 b] w fun e w' => e = .returned (.int .i64 (if a < b then -1 else if b < a then 1 else 0)) ∧ Below w.heap.size w w' := (cmp64_any a b w).mono fun e w' ⟨h, hw⟩ => ⟨h, by rw [hw]; exact Below.refl _ _⟩
theorem cmpI_b (a b : Int) (w : World) : Calls Tryz.prog 101 #[.int .i64 a, .int .i64 b] w fun e w' => e = .returned (.int .i64 (if a < b then -1 else if b < a then 1 else 0)) ∧ Below w.heap.size w w' := (cmpI_any a b w).mono fun e w' ⟨h, hw⟩ => ⟨h, by rw [hw]; exact Below.refl _ _⟩
set_option maxRecDepth 100000 in
theorem turned_any (v : Vl) (hv : IsV v) (w : World) : Calls Tryz.prog 45 #[vlV v] w fun e w' => e = .returned (vlV (neg v)) ∧ Below w.heap.size w w' := by
  obtain ⟨ha, hr⟩ := pW1 w v
  have hB : Below (W1 w v).heap.size (W1 w v) (W1 w v) := Below.refl _ _
  rcases hv.cases with ⟨n, rfl, h1, h2⟩ | rfl | rfl | rfl | rfl
  · have e : neg ⟨1, n⟩ = num (-n) := by rw [num_in (by omega) (by omega)]; simp [neg]
    rw [e]; clear e
    unfold vlV
    go_enter Tryz.func45, Tryz.ntmps45
    go_wp2_with (go_at_call 18; refine (num_any _ _).mono ?_; rintro e w2 ⟨rfl, hb2⟩; replace hB := hB.trans (hb2.mono hB.size); obtain ⟨a0, a1⟩ := (ha.grow hB).cells; obtain ⟨r0, r1⟩ := (hr.grow hB).cells; obtain ⟨rf0, rf1⟩ := (hr.grow hB).frozen; unfold vlV)
    exact end_set (v := num (-n)) Tryz.results45 rfl (by omega) (bW1 w _) hB hr
  · unfold vlV
    go_enter Tryz.func45, Tryz.ntmps45
    go_wp2
    exact ret_cell Tryz.results45 rfl (vlNew1 w _ nul) ⟨rfl, (bW0 w _).alloc (by simp) _⟩
  · unfold vlV
    go_enter Tryz.func45, Tryz.ntmps45
    go_wp2
    exact ret_cell Tryz.results45 rfl (vlNew1 w _ nan) ⟨rfl, (bW0 w _).alloc (by simp) _⟩
  · have hs : sgB pls = 1 := rfl
    have hs' := fun W => sign_b pls W
    rw [hs] at hs'
    unfold vlV at *
    go_enter Tryz.func45, Tryz.ntmps45
    go_wp2_with (first | (go_at_call 77; refine (hs' _).mono ?_; rintro e w2 ⟨rfl, hb2⟩; replace hB := hB.trans (hb2.mono hB.size); obtain ⟨a0, a1⟩ := (ha.grow hB).cells; obtain ⟨r0, r1⟩ := (hr.grow hB).cells; obtain ⟨rf0, rf1⟩ := (hr.grow hB).frozen) | (go_at_call 76; refine (endless_any (-1) _ (by decide)).mono ?_; rintro e w2 ⟨rfl, hb2⟩; replace hB := hB.trans (hb2.mono hB.size); obtain ⟨a0, a1⟩ := (ha.grow hB).cells; obtain ⟨r0, r1⟩ := (hr.grow hB).cells; obtain ⟨rf0, rf1⟩ := (hr.grow hB).frozen; unfold vlV))
    exact end_set (v := byd (-1)) Tryz.results45 rfl (by omega) (bW1 w _) hB hr
  · have hs : sgB mns = -1 := rfl
    have hs' := fun W => sign_b mns W
    rw [hs] at hs'
    unfold vlV at *
    go_enter Tryz.func45, Tryz.ntmps45
    go_wp2_with (first | (go_at_call 77; refine (hs' _).mono ?_; rintro e w2 ⟨rfl, hb2⟩; replace hB := hB.trans (hb2.mono hB.size); obtain ⟨a0, a1⟩ := (ha.grow hB).cells; obtain ⟨r0, r1⟩ := (hr.grow hB).cells; obtain ⟨rf0, rf1⟩ := (hr.grow hB).frozen) | (go_at_call 76; refine (endless_any 1 _ (by decide)).mono ?_; rintro e w2 ⟨rfl, hb2⟩; replace hB := hB.trans (hb2.mono hB.size); obtain ⟨a0, a1⟩ := (ha.grow hB).cells; obtain ⟨r0, r1⟩ := (hr.grow hB).cells; obtain ⟨rf0, rf1⟩ := (hr.grow hB).frozen; unfold vlV))
    exact end_set (v := byd 1) Tryz.results45 rfl (by omega) (bW1 w _) hB hr
theorem IsV.zn {v : Vl} (h : IsV v) : v.kind = 1 ∨ v.n = 0 := by
  rcases h with h | h
  · exact .inl h.1
  · exact .inr h.2.2
set_option maxRecDepth 100000 in
theorem unsigned_any (v : Vl) (hv : IsV v) (w : World) : Calls Tryz.prog 46 #[vlV v] w fun e w' => e = .returned (vlV (absV v)) ∧ Below w.heap.size w w' := by
  obtain ⟨ha, hr⟩ := pW1 w v
  have hB : Below (W1 w v).heap.size (W1 w v) (W1 w v) := Below.refl _ _
  have hs := fun W => sign_b v W
  have ht := fun W => turned_any v hv W
  rw [sgB_sgn hv.zn] at hs
  by_cases h : sgn v < 0
  · have e : absV v = neg v := by rw [absV, if_pos h]
    rw [e]; clear e
    generalize neg v = u at *
    generalize sgn v = S at *
    clear hv
    unfold vlV at hs ht ⊢
    go_enter Tryz.func46, Tryz.ntmps46
    go_wp2_with (first | (go_at_call 77; refine (hs _).mono ?_; rintro e w2 ⟨rfl, hb2⟩; replace hB := hB.trans (hb2.mono hB.size); obtain ⟨a0, a1⟩ := (ha.grow hB).cells; obtain ⟨r0, r1⟩ := (hr.grow hB).cells; obtain ⟨rf0, rf1⟩ := (hr.grow hB).frozen) | (go_at_call 45; refine (ht _).mono ?_; rintro e w2 ⟨rfl, hb2⟩; replace hB := hB.trans (hb2.mono hB.size); obtain ⟨a0, a1⟩ := (ha.grow hB).cells; obtain ⟨r0, r1⟩ := (hr.grow hB).cells; obtain ⟨rf0, rf1⟩ := (hr.grow hB).frozen))
    exact end_set (v := u) Tryz.results46 rfl (by omega) (bW1 w _) hB hr
  · have e : absV v = v := by rw [absV, if_neg h]
    rw [e]; clear e
    generalize sgn v = S at *
    clear hv ht
    unfold vlV at hs ⊢
    go_enter Tryz.func46, Tryz.ntmps46
    go_wp2_with (first | (go_at_call 77; refine (hs _).mono ?_; rintro e w2 ⟨rfl, hb2⟩; replace hB := hB.trans (hb2.mono hB.size); obtain ⟨a0, a1⟩ := (ha.grow hB).cells; obtain ⟨r0, r1⟩ := (hr.grow hB).cells; obtain ⟨rf0, rf1⟩ := (hr.grow hB).frozen))
    exact end_set (v := v) Tryz.results46 rfl (by omega) (bW1 w _) hB hr
set_option maxRecDepth 100000 in
theorem floor_any (v : Vl) (hv : IsV v) (w : World) : Calls Tryz.prog 47 #[vlV v] w fun e w' => e = .returned (vlV (floorV v)) ∧ Below w.heap.size w w' := by
  obtain ⟨ha, hr⟩ := pW1 w v
  have hB : Below (W1 w v).heap.size (W1 w v) (W1 w v) := Below.refl _ _
  have hi := fun W => isNum_b v W
  by_cases h1 : v.kind = 1
  · obtain ⟨k, n⟩ := v
    simp only at h1
    subst h1
    have hn : -1000000000000000 ≤ n ∧ n ≤ 1000000000000000 := by rcases hv with h | h <;> simp at h <;> omega
    obtain ⟨q, hq⟩ : ∃ q, Hid (q = n - n % 1000) := ⟨_, rfl⟩
    have hq2 : -1000000000000000 ≤ q ∧ q ≤ 1000000000000000 := by have := hq.out; omega
    have e : floorV ⟨1, n⟩ = num q := by rw [num_in hq2.1 hq2.2, hq.out]; simp [floorV]
    rw [e]
    have hf := floor_rest n
    rw [← hq.out] at hf
    obtain ⟨r, hr0⟩ : ∃ r, Hid (r = Int.tmod n 1000) := ⟨_, rfl⟩
    have hr1 : Int.tmod n 1000 = r := hr0.out.symm
    have hrb : -1000 < r ∧ r < 1000 := by rw [← hr1]; have h1 := Int.tmod_lt_of_pos n (show (0 : Int) < 1000 by decide); have h2 := Int.lt_tmod_of_pos n (show (0 : Int) < 1000 by decide); omega
    rw [hr1] at hf
    clear e hq hr0 hv hq2
    unfold vlV at hi ⊢
    by_cases hneg : r < 0
    · rw [if_pos hneg] at hf
      replace hf : Hid (n - (r + 1000) = q) := hf
      go_enter Tryz.func47, Tryz.ntmps47
      go_wp2_with (first | (go_at_call 78; refine (hi _).mono ?_; rintro e w2 ⟨rfl, hb2⟩; replace hB := hB.trans (hb2.mono hB.size); obtain ⟨a0, a1⟩ := (ha.grow hB).cells; obtain ⟨r0, r1⟩ := (hr.grow hB).cells; obtain ⟨rf0, rf1⟩ := (hr.grow hB).frozen) | (go_at_call 18; rw [hf.out]; refine (num_any q _).mono ?_; rintro e w2 ⟨rfl, hb2⟩; replace hB := hB.trans (hb2.mono hB.size); obtain ⟨a0, a1⟩ := (ha.grow hB).cells; obtain ⟨r0, r1⟩ := (hr.grow hB).cells; obtain ⟨rf0, rf1⟩ := (hr.grow hB).frozen; unfold vlV))
      exact end_set (v := num q) Tryz.results47 rfl (by omega) (bW1 w _) hB hr
    · rw [if_neg hneg] at hf
      replace hf : Hid (n - r = q) := hf
      go_enter Tryz.func47, Tryz.ntmps47
      go_wp2_with (first | (go_at_call 78; refine (hi _).mono ?_; rintro e w2 ⟨rfl, hb2⟩; replace hB := hB.trans (hb2.mono hB.size); obtain ⟨a0, a1⟩ := (ha.grow hB).cells; obtain ⟨r0, r1⟩ := (hr.grow hB).cells; obtain ⟨rf0, rf1⟩ := (hr.grow hB).frozen) | (go_at_call 18; rw [hf.out]; refine (num_any q _).mono ?_; rintro e w2 ⟨rfl, hb2⟩; replace hB := hB.trans (hb2.mono hB.size); obtain ⟨a0, a1⟩ := (ha.grow hB).cells; obtain ⟨r0, r1⟩ := (hr.grow hB).cells; obtain ⟨rf0, rf1⟩ := (hr.grow hB).frozen; unfold vlV))
      exact end_set (v := num q) Tryz.results47 rfl (by omega) (bW1 w _) hB hr
  · have e : floorV v = v := by rw [floorV, if_neg h1]
    rw [e]; clear e
    have h1b : (v.kind == 1) = false := by simpa using h1
    rw [h1b] at hi
    clear hv
    unfold vlV at hi ⊢
    go_enter Tryz.func47, Tryz.ntmps47
    go_wp2_with (first | (go_at_call 78; refine (hi _).mono ?_; rintro e w2 ⟨rfl, hb2⟩; replace hB := hB.trans (hb2.mono hB.size); obtain ⟨a0, a1⟩ := (ha.grow hB).cells; obtain ⟨r0, r1⟩ := (hr.grow hB).cells; obtain ⟨rf0, rf1⟩ := (hr.grow hB).frozen))
    exact end_set (v := v) Tryz.results47 rfl (by omega) (bW1 w _) hB hr
/-- As height tells it. -/
def hgt (v : Vl) : Int := if v.kind = 1 then 0 else sgB v
set_option maxRecDepth 100000 in
theorem height_any (v : Vl) (w : World) : Calls Tryz.prog 102 #[vlV v] w fun e w' => e = .returned (.int .i64 (hgt v)) ∧ Below w.heap.size w w' := by
  have ha := vlNew w v
  have hB : Below (w.alloc (vlO v)).heap.size (w.alloc (vlO v)) (w.alloc (vlO v)) := Below.refl _ _
  have hi := fun W => isNum_b v W
  have hs := fun W => sign_b v W
  unfold hgt
  by_cases h1 : v.kind = 1
  · rw [if_pos h1]
    have h1b : (v.kind == 1) = true := by simpa using h1
    rw [h1b] at hi
    clear h1 h1b
    unfold vlV at hi ⊢
    go_enter Tryz.func102, Tryz.ntmps102
    go_wp2_with (first | (go_at_call 78; refine (hi _).mono ?_; rintro e w2 ⟨rfl, hb2⟩; replace hB := hB.trans (hb2.mono hB.size); obtain ⟨a0, a1⟩ := (ha.grow hB).cells))
    go_ret
    exact ⟨rfl, (bW0 w _).trans (hB.mono (by simp))⟩
  · rw [if_neg h1]
    have h1b : (v.kind == 1) = false := by simpa using h1
    rw [h1b] at hi
    clear h1 h1b
    generalize sgB v = S at *
    unfold vlV at hi hs ⊢
    go_enter Tryz.func102, Tryz.ntmps102
    go_wp2_with (first | (go_at_call 78; refine (hi _).mono ?_; rintro e w2 ⟨rfl, hb2⟩; replace hB := hB.trans (hb2.mono hB.size); obtain ⟨a0, a1⟩ := (ha.grow hB).cells) | (go_at_call 77; refine (hs _).mono ?_; rintro e w2 ⟨rfl, hb2⟩; replace hB := hB.trans (hb2.mono hB.size); obtain ⟨a0, a1⟩ := (ha.grow hB).cells))
    go_ret
    exact ⟨rfl, (bW0 w _).trans (hB.mono (by simp))⟩
end Go.Proofs.YtfbiaffdfolbgaaGreatDoor
