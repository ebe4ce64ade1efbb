/- Values: the contracts of reckoned, compared, unlessNull, ofKind, twos, ones. -/
import Derived.Test.YtfbiaffdfolbgaaGreatDoorVk
namespace Go.Proofs.YtfbiaffdfolbgaaGreatDoor
set_option linter.unusedVariables false
open Go.RowKit Go.MapKept
attribute [local go_sem ↓] Go.wp_at_zero Go.wp_at_succ
/-- A function of two operands, made by unlessNull. -/
def IsTwo (w : World) (f : Value) (φ : Vl → Vl → Vl) : Prop := ∃ p, f = .func (.func 86) #[] #[.pointer (some ⟨p, 0, none⟩)] ∧ ∀ W, CellsKept w W → ∀ a b, IsV a → IsV b →
  Calls Tryz.prog 86 #[vlV a, vlV b, .pointer (some ⟨p, 0, none⟩)] W fun e w' => e = .returned (vlV (φ a b)) ∧ Below W.heap.size W w'
theorem IsTwo.keep (w w' : World) (f : Value) (φ : Vl → Vl → Vl) (hk : CellsKept w w') (h : IsTwo w f φ) : IsTwo w' f φ := by
  obtain ⟨p, h1, h2⟩ := h
  exact ⟨p, h1, fun W hW => h2 W (hk.trans hW)⟩
theorem noB_iff (a b : Vl) : noB a b = true ↔ a.kind = 3 ∨ b.kind = 3 := by simp [noB]
theorem ordy_of {a b : Vl} (h1 : ¬ (a.kind = 2 ∨ b.kind = 2)) (h2 : noB a b = false) : Ordy a ∧ Ordy b := by
  have h3 : ¬ (a.kind = 3 ∨ b.kind = 3) := fun h => by rw [(noB_iff a b).2 h] at h2; cases h2
  exact ⟨⟨fun h => h1 (.inl h), fun h => h3 (.inl h)⟩, ⟨fun h => h1 (.inr h), fun h => h3 (.inr h)⟩⟩
theorem nans_is (a b v : Vl) : nulls a b (if noB a b = true then nan else v) = nans a b v := by
  unfold nans
  congr 1
  by_cases h : a.kind = 3 ∨ b.kind = 3
  · rw [if_pos h, if_pos ((noB_iff a b).2 h)]
  · rw [if_neg h, if_neg (fun e => h ((noB_iff a b).1 e))]
theorem below2 (w : World) (o p : Obj) : Below w.heap.size w ((w.alloc o).alloc p) := (bW0 w o).alloc (by simp) p
theorem below3 (w : World) (o p q : Obj) : Below w.heap.size w (((w.alloc o).alloc p).alloc q) := (below2 w o p).alloc (by simp; omega) q
theorem cell1 (w : World) (v : Value) (t : TypeId) : (w.alloc (.cells #[v] t)).cell? ⟨w.heap.size, 0, none⟩ = some v := by
  have h : (w.alloc (.cells #[v] t)).heap[w.heap.size]? = some (.cells #[v] t) := by show (w.heap.push _)[w.heap.size]? = _; simp
  unfold World.cell?
  rw [h]
  simp
theorem cell1' (w : World) (o : Obj) (v : Value) (t : TypeId) : ((w.alloc o).alloc (.cells #[v] t)).cell? ⟨w.heap.size + 1, 0, none⟩ = some v := by
  have := cell1 (w.alloc o) v t
  rwa [World.size_alloc] at this
theorem cell1'' (w : World) (o p : Obj) (v : Value) (t : TypeId) : (((w.alloc o).alloc p).alloc (.cells #[v] t)).cell? ⟨w.heap.size + 1 + 1, 0, none⟩ = some v := by
  have := cell1' (w.alloc o) p v t
  rwa [World.size_alloc] at this
set_option maxRecDepth 100000 in
theorem mk_51 (w : World) : Calls Tryz.prog 50 #[.func (.func 51) #[] #[]] w fun e w' => ∃ f, e = .returned f ∧ IsTwo w' f addV ∧ Below w.heap.size w w' := by
  go_enter Tryz.func50, Tryz.ntmps50
  go_wp2
  go_ret
  refine ⟨_, rfl, ⟨w.heap.size + 1, rfl, fun W hW a b hva hvb => ?_⟩, below2 w _ _⟩
  have c1 := hW.cell (cell1' w (.cells #[.func (.func 51) #[] #[]] 52) (.func (.func 81) #[] #[.pointer (some ⟨w.heap.size, 0, none⟩)]) 52)
  have c0 := hW.cell (keepC (cell1 w (.func (.func 51) #[] #[]) 52) ((Below.refl _ _).alloc (Nat.le_refl _) (.cells #[.func (.func 81) #[] #[.pointer (some ⟨w.heap.size, 0, none⟩)]] 52)))
  have h := unl_81 a b (w.heap.size + 1) w.heap.size (if noB a b = true then nan else (add) a b) W c1 (fun hnn W2 hW2 => rec_51 a b w.heap.size ((add) a b) W2 (keepC c0 hW2) (fun hno W3 => by
    obtain ⟨oa, ob⟩ := ordy_of hnn hno
    exact sum_any a b hva hvb oa ob W3))
  rw [nans_is] at h
  exact h
set_option maxRecDepth 100000 in
theorem mk_52 (w : World) : Calls Tryz.prog 50 #[.func (.func 52) #[] #[]] w fun e w' => ∃ f, e = .returned f ∧ IsTwo w' f subV ∧ Below w.heap.size w w' := by
  go_enter Tryz.func50, Tryz.ntmps50
  go_wp2
  go_ret
  refine ⟨_, rfl, ⟨w.heap.size + 1, rfl, fun W hW a b hva hvb => ?_⟩, below2 w _ _⟩
  have c1 := hW.cell (cell1' w (.cells #[.func (.func 52) #[] #[]] 52) (.func (.func 81) #[] #[.pointer (some ⟨w.heap.size, 0, none⟩)]) 52)
  have c0 := hW.cell (keepC (cell1 w (.func (.func 52) #[] #[]) 52) ((Below.refl _ _).alloc (Nat.le_refl _) (.cells #[.func (.func 81) #[] #[.pointer (some ⟨w.heap.size, 0, none⟩)]] 52)))
  have h := unl_81 a b (w.heap.size + 1) w.heap.size (if noB a b = true then nan else (fun a b => add a (neg b)) a b) W c1 (fun hnn W2 hW2 => rec_52 a b w.heap.size ((fun a b => add a (neg b)) a b) W2 (keepC c0 hW2) (fun hno W3 => by
    obtain ⟨oa, ob⟩ := ordy_of hnn hno
    exact minus_any2 a b hva hvb oa ob W3))
  rw [nans_is] at h
  exact h
set_option maxRecDepth 100000 in
theorem mk_53 (w : World) : Calls Tryz.prog 50 #[.func (.func 53) #[] #[]] w fun e w' => ∃ f, e = .returned f ∧ IsTwo w' f mulV ∧ Below w.heap.size w w' := by
  go_enter Tryz.func50, Tryz.ntmps50
  go_wp2
  go_ret
  refine ⟨_, rfl, ⟨w.heap.size + 1, rfl, fun W hW a b hva hvb => ?_⟩, below2 w _ _⟩
  have c1 := hW.cell (cell1' w (.cells #[.func (.func 53) #[] #[]] 52) (.func (.func 81) #[] #[.pointer (some ⟨w.heap.size, 0, none⟩)]) 52)
  have c0 := hW.cell (keepC (cell1 w (.func (.func 53) #[] #[]) 52) ((Below.refl _ _).alloc (Nat.le_refl _) (.cells #[.func (.func 81) #[] #[.pointer (some ⟨w.heap.size, 0, none⟩)]] 52)))
  have h := unl_81 a b (w.heap.size + 1) w.heap.size (if noB a b = true then nan else (mul) a b) W c1 (fun hnn W2 hW2 => rec_53 a b w.heap.size ((mul) a b) W2 (keepC c0 hW2) (fun hno W3 => by
    obtain ⟨oa, ob⟩ := ordy_of hnn hno
    exact product_any a b hva hvb W3))
  rw [nans_is] at h
  exact h
set_option maxRecDepth 100000 in
theorem mk_54 (w : World) : Calls Tryz.prog 50 #[.func (.func 54) #[] #[]] w fun e w' => ∃ f, e = .returned f ∧ IsTwo w' f divV ∧ Below w.heap.size w w' := by
  go_enter Tryz.func50, Tryz.ntmps50
  go_wp2
  go_ret
  refine ⟨_, rfl, ⟨w.heap.size + 1, rfl, fun W hW a b hva hvb => ?_⟩, below2 w _ _⟩
  have c1 := hW.cell (cell1' w (.cells #[.func (.func 54) #[] #[]] 52) (.func (.func 81) #[] #[.pointer (some ⟨w.heap.size, 0, none⟩)]) 52)
  have c0 := hW.cell (keepC (cell1 w (.func (.func 54) #[] #[]) 52) ((Below.refl _ _).alloc (Nat.le_refl _) (.cells #[.func (.func 81) #[] #[.pointer (some ⟨w.heap.size, 0, none⟩)]] 52)))
  have h := unl_81 a b (w.heap.size + 1) w.heap.size (if noB a b = true then nan else (dvd) a b) W c1 (fun hnn W2 hW2 => rec_54 a b w.heap.size ((dvd) a b) W2 (keepC c0 hW2) (fun hno W3 => by
    obtain ⟨oa, ob⟩ := ordy_of hnn hno
    exact quotient_any a b hva hvb oa ob W3))
  rw [nans_is] at h
  exact h
theorem cmp_eq {a b : Vl} (ha : IsV a) (hb : IsV b) : nulls a b (tru (if noB a b = true then false else (ordI a b == 0))) = eqV a b := by
  by_cases h1 : a.kind = 2 ∨ b.kind = 2
  · simp [eqV, nulls, h1]
  · cases h2 : noB a b
    · obtain ⟨oa, ob⟩ := ordy_of h1 h2
      rw [eqV_place ha hb oa ob, nulls_ordy oa ob]
      simp only [Bool.false_eq_true, if_false]
      congr 1
      unfold ordI
      rw [Bool.eq_iff_iff]; simp; omega
    · simp [eqV, nulls, h1, h2]
theorem cmp_ne {a b : Vl} (ha : IsV a) (hb : IsV b) : nulls a b (tru (if noB a b = true then true else (ordI a b != 0))) = neV a b := by
  by_cases h1 : a.kind = 2 ∨ b.kind = 2
  · simp [neV, nulls, h1]
  · cases h2 : noB a b
    · obtain ⟨oa, ob⟩ := ordy_of h1 h2
      rw [neV_place ha hb oa ob, nulls_ordy oa ob]
      simp only [Bool.false_eq_true, if_false]
      congr 1
      unfold ordI
      rw [Bool.eq_iff_iff]; simp; omega
    · simp [neV, nulls, h1, h2]
theorem cmp_lt {a b : Vl} (ha : IsV a) (hb : IsV b) : nulls a b (tru (if noB a b = true then false else (decide (ordI a b < 0)))) = ltV a b := by
  by_cases h1 : a.kind = 2 ∨ b.kind = 2
  · simp [ltV, nulls, h1]
  · cases h2 : noB a b
    · obtain ⟨oa, ob⟩ := ordy_of h1 h2
      rw [ltV_place ha hb oa ob, nulls_ordy oa ob]
      simp only [Bool.false_eq_true, if_false]
      congr 1
      unfold ordI
      rw [Bool.eq_iff_iff]; simp; split <;> (try split) <;> omega
    · simp [ltV, nulls, h1, h2]
theorem cmp_le {a b : Vl} (ha : IsV a) (hb : IsV b) : nulls a b (tru (if noB a b = true then false else (decide (ordI a b ≤ 0)))) = leV a b := by
  by_cases h1 : a.kind = 2 ∨ b.kind = 2
  · simp [leV, nulls, h1]
  · cases h2 : noB a b
    · obtain ⟨oa, ob⟩ := ordy_of h1 h2
      rw [leV_place ha hb oa ob, nulls_ordy oa ob]
      simp only [Bool.false_eq_true, if_false]
      congr 1
      unfold ordI
      rw [Bool.eq_iff_iff]; simp; split <;> (try split) <;> omega
    · simp [leV, nulls, h1, h2]
theorem cmp_gt {a b : Vl} (ha : IsV a) (hb : IsV b) : nulls a b (tru (if noB a b = true then false else (decide (0 < ordI a b)))) = gtV a b := by
  by_cases h1 : a.kind = 2 ∨ b.kind = 2
  · simp [gtV, nulls, h1]
  · cases h2 : noB a b
    · obtain ⟨oa, ob⟩ := ordy_of h1 h2
      rw [gtV_place ha hb oa ob, nulls_ordy oa ob]
      simp only [Bool.false_eq_true, if_false]
      congr 1
      unfold ordI
      rw [Bool.eq_iff_iff]; simp; split <;> (try split) <;> omega
    · simp [gtV, nulls, h1, h2]
theorem cmp_ge {a b : Vl} (ha : IsV a) (hb : IsV b) : nulls a b (tru (if noB a b = true then false else (decide (0 ≤ ordI a b)))) = geV a b := by
  by_cases h1 : a.kind = 2 ∨ b.kind = 2
  · simp [geV, nulls, h1]
  · cases h2 : noB a b
    · obtain ⟨oa, ob⟩ := ordy_of h1 h2
      rw [geV_place ha hb oa ob, nulls_ordy oa ob]
      simp only [Bool.false_eq_true, if_false]
      congr 1
      unfold ordI
      rw [Bool.eq_iff_iff]; simp; split <;> (try split) <;> omega
    · simp [geV, nulls, h1, h2]
set_option maxRecDepth 100000 in
theorem mk_56 (w : World) : Calls Tryz.prog 55 #[.bool false, .func (.func 56) #[] #[]] w fun e w' => ∃ f, e = .returned f ∧ IsTwo w' f eqV ∧ Below w.heap.size w w' := by
  go_enter Tryz.func55, Tryz.ntmps55
  go_wp2
  go_ret
  refine ⟨_, rfl, ⟨w.heap.size + 1 + 1, rfl, fun W hW a b hva hvb => ?_⟩, below3 w _ _ _⟩
  have c2 := hW.cell (cell1'' w (.cells #[.bool false] 4) (.cells #[.func (.func 56) #[] #[]] 64) (.func (.func 84) #[] #[.pointer (some ⟨w.heap.size, 0, none⟩), .pointer (some ⟨w.heap.size + 1, 0, none⟩)]) 52)
  have c1 := hW.cell (keepC (cell1' w (.cells #[.bool false] 4) (.func (.func 56) #[] #[]) 64) ((Below.refl _ _).alloc (Nat.le_refl _) (.cells #[.func (.func 84) #[] #[.pointer (some ⟨w.heap.size, 0, none⟩), .pointer (some ⟨w.heap.size + 1, 0, none⟩)]] 52)))
  have c0 := hW.cell (keepC (cell1 w (.bool false) 4) (below2 _ (.cells #[.func (.func 56) #[] #[]] 64) (.cells #[.func (.func 84) #[] #[.pointer (some ⟨w.heap.size, 0, none⟩), .pointer (some ⟨w.heap.size + 1, 0, none⟩)]] 52)))
  have h := unl_84 a b (w.heap.size + 1 + 1) w.heap.size (w.heap.size + 1) (tru (if noB a b = true then false else (ordI a b == 0))) W c2 (fun hnn W2 hW2 => cmp_56 a b w.heap.size (w.heap.size + 1) false W2 (keepC c0 hW2) (keepC c1 hW2) (fun hno W3 => by
    obtain ⟨oa, ob⟩ := ordy_of hnn hno
    exact order_any a b hva hvb oa ob W3))
  rw [cmp_eq hva hvb] at h
  exact h
set_option maxRecDepth 100000 in
theorem mk_57 (w : World) : Calls Tryz.prog 55 #[.bool true, .func (.func 57) #[] #[]] w fun e w' => ∃ f, e = .returned f ∧ IsTwo w' f neV ∧ Below w.heap.size w w' := by
  go_enter Tryz.func55, Tryz.ntmps55
  go_wp2
  go_ret
  refine ⟨_, rfl, ⟨w.heap.size + 1 + 1, rfl, fun W hW a b hva hvb => ?_⟩, below3 w _ _ _⟩
  have c2 := hW.cell (cell1'' w (.cells #[.bool true] 4) (.cells #[.func (.func 57) #[] #[]] 64) (.func (.func 84) #[] #[.pointer (some ⟨w.heap.size, 0, none⟩), .pointer (some ⟨w.heap.size + 1, 0, none⟩)]) 52)
  have c1 := hW.cell (keepC (cell1' w (.cells #[.bool true] 4) (.func (.func 57) #[] #[]) 64) ((Below.refl _ _).alloc (Nat.le_refl _) (.cells #[.func (.func 84) #[] #[.pointer (some ⟨w.heap.size, 0, none⟩), .pointer (some ⟨w.heap.size + 1, 0, none⟩)]] 52)))
  have c0 := hW.cell (keepC (cell1 w (.bool true) 4) (below2 _ (.cells #[.func (.func 57) #[] #[]] 64) (.cells #[.func (.func 84) #[] #[.pointer (some ⟨w.heap.size, 0, none⟩), .pointer (some ⟨w.heap.size + 1, 0, none⟩)]] 52)))
  have h := unl_84 a b (w.heap.size + 1 + 1) w.heap.size (w.heap.size + 1) (tru (if noB a b = true then true else (ordI a b != 0))) W c2 (fun hnn W2 hW2 => cmp_57 a b w.heap.size (w.heap.size + 1) true W2 (keepC c0 hW2) (keepC c1 hW2) (fun hno W3 => by
    obtain ⟨oa, ob⟩ := ordy_of hnn hno
    exact order_any a b hva hvb oa ob W3))
  rw [cmp_ne hva hvb] at h
  exact h
set_option maxRecDepth 100000 in
theorem mk_58 (w : World) : Calls Tryz.prog 55 #[.bool false, .func (.func 58) #[] #[]] w fun e w' => ∃ f, e = .returned f ∧ IsTwo w' f ltV ∧ Below w.heap.size w w' := by
  go_enter Tryz.func55, Tryz.ntmps55
  go_wp2
  go_ret
  refine ⟨_, rfl, ⟨w.heap.size + 1 + 1, rfl, fun W hW a b hva hvb => ?_⟩, below3 w _ _ _⟩
  have c2 := hW.cell (cell1'' w (.cells #[.bool false] 4) (.cells #[.func (.func 58) #[] #[]] 64) (.func (.func 84) #[] #[.pointer (some ⟨w.heap.size, 0, none⟩), .pointer (some ⟨w.heap.size + 1, 0, none⟩)]) 52)
  have c1 := hW.cell (keepC (cell1' w (.cells #[.bool false] 4) (.func (.func 58) #[] #[]) 64) ((Below.refl _ _).alloc (Nat.le_refl _) (.cells #[.func (.func 84) #[] #[.pointer (some ⟨w.heap.size, 0, none⟩), .pointer (some ⟨w.heap.size + 1, 0, none⟩)]] 52)))
  have c0 := hW.cell (keepC (cell1 w (.bool false) 4) (below2 _ (.cells #[.func (.func 58) #[] #[]] 64) (.cells #[.func (.func 84) #[] #[.pointer (some ⟨w.heap.size, 0, none⟩), .pointer (some ⟨w.heap.size + 1, 0, none⟩)]] 52)))
  have h := unl_84 a b (w.heap.size + 1 + 1) w.heap.size (w.heap.size + 1) (tru (if noB a b = true then false else (decide (ordI a b < 0)))) W c2 (fun hnn W2 hW2 => cmp_58 a b w.heap.size (w.heap.size + 1) false W2 (keepC c0 hW2) (keepC c1 hW2) (fun hno W3 => by
    obtain ⟨oa, ob⟩ := ordy_of hnn hno
    exact order_any a b hva hvb oa ob W3))
  rw [cmp_lt hva hvb] at h
  exact h
set_option maxRecDepth 100000 in
theorem mk_59 (w : World) : Calls Tryz.prog 55 #[.bool false, .func (.func 59) #[] #[]] w fun e w' => ∃ f, e = .returned f ∧ IsTwo w' f leV ∧ Below w.heap.size w w' := by
  go_enter Tryz.func55, Tryz.ntmps55
  go_wp2
  go_ret
  refine ⟨_, rfl, ⟨w.heap.size + 1 + 1, rfl, fun W hW a b hva hvb => ?_⟩, below3 w _ _ _⟩
  have c2 := hW.cell (cell1'' w (.cells #[.bool false] 4) (.cells #[.func (.func 59) #[] #[]] 64) (.func (.func 84) #[] #[.pointer (some ⟨w.heap.size, 0, none⟩), .pointer (some ⟨w.heap.size + 1, 0, none⟩)]) 52)
  have c1 := hW.cell (keepC (cell1' w (.cells #[.bool false] 4) (.func (.func 59) #[] #[]) 64) ((Below.refl _ _).alloc (Nat.le_refl _) (.cells #[.func (.func 84) #[] #[.pointer (some ⟨w.heap.size, 0, none⟩), .pointer (some ⟨w.heap.size + 1, 0, none⟩)]] 52)))
  have c0 := hW.cell (keepC (cell1 w (.bool false) 4) (below2 _ (.cells #[.func (.func 59) #[] #[]] 64) (.cells #[.func (.func 84) #[] #[.pointer (some ⟨w.heap.size, 0, none⟩), .pointer (some ⟨w.heap.size + 1, 0, none⟩)]] 52)))
  have h := unl_84 a b (w.heap.size + 1 + 1) w.heap.size (w.heap.size + 1) (tru (if noB a b = true then false else (decide (ordI a b ≤ 0)))) W c2 (fun hnn W2 hW2 => cmp_59 a b w.heap.size (w.heap.size + 1) false W2 (keepC c0 hW2) (keepC c1 hW2) (fun hno W3 => by
    obtain ⟨oa, ob⟩ := ordy_of hnn hno
    exact order_any a b hva hvb oa ob W3))
  rw [cmp_le hva hvb] at h
  exact h
set_option maxRecDepth 100000 in
theorem mk_60 (w : World) : Calls Tryz.prog 55 #[.bool false, .func (.func 60) #[] #[]] w fun e w' => ∃ f, e = .returned f ∧ IsTwo w' f gtV ∧ Below w.heap.size w w' := by
  go_enter Tryz.func55, Tryz.ntmps55
  go_wp2
  go_ret
  refine ⟨_, rfl, ⟨w.heap.size + 1 + 1, rfl, fun W hW a b hva hvb => ?_⟩, below3 w _ _ _⟩
  have c2 := hW.cell (cell1'' w (.cells #[.bool false] 4) (.cells #[.func (.func 60) #[] #[]] 64) (.func (.func 84) #[] #[.pointer (some ⟨w.heap.size, 0, none⟩), .pointer (some ⟨w.heap.size + 1, 0, none⟩)]) 52)
  have c1 := hW.cell (keepC (cell1' w (.cells #[.bool false] 4) (.func (.func 60) #[] #[]) 64) ((Below.refl _ _).alloc (Nat.le_refl _) (.cells #[.func (.func 84) #[] #[.pointer (some ⟨w.heap.size, 0, none⟩), .pointer (some ⟨w.heap.size + 1, 0, none⟩)]] 52)))
  have c0 := hW.cell (keepC (cell1 w (.bool false) 4) (below2 _ (.cells #[.func (.func 60) #[] #[]] 64) (.cells #[.func (.func 84) #[] #[.pointer (some ⟨w.heap.size, 0, none⟩), .pointer (some ⟨w.heap.size + 1, 0, none⟩)]] 52)))
  have h := unl_84 a b (w.heap.size + 1 + 1) w.heap.size (w.heap.size + 1) (tru (if noB a b = true then false else (decide (0 < ordI a b)))) W c2 (fun hnn W2 hW2 => cmp_60 a b w.heap.size (w.heap.size + 1) false W2 (keepC c0 hW2) (keepC c1 hW2) (fun hno W3 => by
    obtain ⟨oa, ob⟩ := ordy_of hnn hno
    exact order_any a b hva hvb oa ob W3))
  rw [cmp_gt hva hvb] at h
  exact h
set_option maxRecDepth 100000 in
theorem mk_61 (w : World) : Calls Tryz.prog 55 #[.bool false, .func (.func 61) #[] #[]] w fun e w' => ∃ f, e = .returned f ∧ IsTwo w' f geV ∧ Below w.heap.size w w' := by
  go_enter Tryz.func55, Tryz.ntmps55
  go_wp2
  go_ret
  refine ⟨_, rfl, ⟨w.heap.size + 1 + 1, rfl, fun W hW a b hva hvb => ?_⟩, below3 w _ _ _⟩
  have c2 := hW.cell (cell1'' w (.cells #[.bool false] 4) (.cells #[.func (.func 61) #[] #[]] 64) (.func (.func 84) #[] #[.pointer (some ⟨w.heap.size, 0, none⟩), .pointer (some ⟨w.heap.size + 1, 0, none⟩)]) 52)
  have c1 := hW.cell (keepC (cell1' w (.cells #[.bool false] 4) (.func (.func 61) #[] #[]) 64) ((Below.refl _ _).alloc (Nat.le_refl _) (.cells #[.func (.func 84) #[] #[.pointer (some ⟨w.heap.size, 0, none⟩), .pointer (some ⟨w.heap.size + 1, 0, none⟩)]] 52)))
  have c0 := hW.cell (keepC (cell1 w (.bool false) 4) (below2 _ (.cells #[.func (.func 61) #[] #[]] 64) (.cells #[.func (.func 84) #[] #[.pointer (some ⟨w.heap.size, 0, none⟩), .pointer (some ⟨w.heap.size + 1, 0, none⟩)]] 52)))
  have h := unl_84 a b (w.heap.size + 1 + 1) w.heap.size (w.heap.size + 1) (tru (if noB a b = true then false else (decide (0 ≤ ordI a b)))) W c2 (fun hnn W2 hW2 => cmp_61 a b w.heap.size (w.heap.size + 1) false W2 (keepC c0 hW2) (keepC c1 hW2) (fun hno W3 => by
    obtain ⟨oa, ob⟩ := ordy_of hnn hno
    exact order_any a b hva hvb oa ob W3))
  rw [cmp_ge hva hvb] at h
  exact h
set_option maxRecDepth 100000 in
theorem mk_63 (w : World) : Calls Tryz.prog 62 #[.func (.func 63) #[] #[]] w fun e w' => ∃ f, e = .returned f ∧ IsTwo w' f andV ∧ Below w.heap.size w w' := by
  go_enter Tryz.func62, Tryz.ntmps62
  go_wp2
  go_ret
  refine ⟨_, rfl, ⟨w.heap.size, rfl, fun W hW a b hva hvb => ?_⟩, bW0 w _⟩
  have c0 := hW.cell (cell1 w (.func (.func 63) #[] #[]) 52)
  exact unl_63 a b w.heap.size (tru (truB a && truB b)) W c0 (fun hnn W2 hW2 => and_any a b hva hvb W2)
set_option maxRecDepth 100000 in
theorem mk_64 (w : World) : Calls Tryz.prog 62 #[.func (.func 64) #[] #[]] w fun e w' => ∃ f, e = .returned f ∧ IsTwo w' f orV ∧ Below w.heap.size w w' := by
  go_enter Tryz.func62, Tryz.ntmps62
  go_wp2
  go_ret
  refine ⟨_, rfl, ⟨w.heap.size, rfl, fun W hW a b hva hvb => ?_⟩, bW0 w _⟩
  have c0 := hW.cell (cell1 w (.func (.func 64) #[] #[]) 52)
  exact unl_64 a b w.heap.size (tru (truB a || truB b)) W c0 (fun hnn W2 hW2 => or_any a b hva hvb W2)
end Go.Proofs.YtfbiaffdfolbgaaGreatDoor
