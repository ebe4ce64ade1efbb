/- Strings and the order of their bytes. -/
import Derived.Test.YtkhnhnaefmcngaaArg
namespace Go.Proofs.Ytkhnhnaefmcngaa
set_option linter.unusedVariables false
open Go.RowKit
theorem less_list : ∀ x y : List UInt8, Op.bytesLess x y = decide (cmpL (x.map fun b => (b.toNat : Int)) (y.map fun b => (b.toNat : Int)) = -1)
  | [], [] => by simp [Op.bytesLess, cmpL]
  | [], _ :: _ => by simp [Op.bytesLess, cmpL]
  | _ :: _, [] => by simp [Op.bytesLess, cmpL]
  | a :: x, b :: y => by
    have ih := less_list x y
    rw [Op.bytesLess, List.map_cons, List.map_cons, cmpL, ih]
    by_cases h1 : a < b
    · have h1' : (a.toNat : Int) < (b.toNat : Int) := by have := UInt8.lt_iff_toNat_lt.1 h1; omega
      rw [if_pos h1']
      simp [h1]
    · have h1' : ¬ (a.toNat : Int) < (b.toNat : Int) := fun h => h1 (UInt8.lt_iff_toNat_lt.2 (by omega))
      rw [if_neg h1']
      by_cases h2 : a = b
      · subst h2
        rw [if_neg (by omega)]
        simp
      · have h2' : (b.toNat : Int) < (a.toNat : Int) := by
          have : a.toNat ≠ b.toNat := fun e => h2 (UInt8.toNat_inj.1 e)
          omega
        rw [if_pos h2']
        simp [h1, h2]
theorem less_cmp (a b : ByteArray) : Op.bytesLess a.toList b.toList = decide (cmpL (numsS a) (numsS b) = -1) := by
  rw [Lib.toList_data, Lib.toList_data]
  exact less_list _ _
theorem less_keys {xs ys : List Int} (hx : IsBytes xs) (hy : IsBytes ys) : Op.bytesLess (strOfNums xs).toList (strOfNums ys).toList = decide (cmpL xs ys = -1) := by
  rw [less_cmp, numsS_strOf _ hx, numsS_strOf _ hy]
theorem same_keys {xs ys : List Int} (hx : IsBytes xs) (hy : IsBytes ys) : ((strOfNums xs).toList == (strOfNums ys).toList) = decide (cmpL xs ys = 0) := by
  by_cases h : cmpL xs ys = 0
  · rw [cmpL_eq h, cmpL_self]; simp
  · rw [decide_eq_false h]
    cases e : ((strOfNums xs).toList == (strOfNums ys).toList) with
    | false => rfl
    | true =>
      exfalso
      have h2 := congrArg numsS (toList_eq e)
      rw [numsS_strOf _ hx, numsS_strOf _ hy] at h2
      rw [h2, cmpL_self] at h
      exact h rfl
theorem own_empty (w : World) (base : Nat) (h : base ≤ w.heap.size) : OwnP (w.alloc (.cells #[] 39)) base (.slice (some ⟨w.heap.size, 0, none⟩) 0 0) [] := by
  exact ⟨by simp [flat], .inr ⟨w.heap.size, 0, #[], rfl, h, heap_new _ _, Nat.le_refl _, by unfold maxLen; omega, by simp, by simp [flat]⟩⟩
theorem firstE_append (l m : List Pt) : firstE (l ++ m) = if firstE l = 0 then firstE m else firstE l := by
  induction l with
  | nil => simp [firstE]
  | cons p r ih =>
    rw [List.cons_append, firstE, firstE, ih]
    by_cases h : errP p = 0
    · simp only [if_pos h]
    · simp only [if_neg h]
theorem numB_cmp {a b : Int} (ha : I64 a) (hb : I64 b) : cmpL (numB a) (numB b) = if a < b then -1 else if a = b then 0 else 1 := by
  by_cases h1 : a < b
  · rw [if_pos h1]; exact (numB_lt ha hb h1).cmp
  · rw [if_neg h1]
    by_cases h2 : a = b
    · rw [if_pos h2, h2, cmpL_self]
    · rw [if_neg h2, cmpL_neg, (numB_lt hb ha (by omega)).cmp]; rfl
end Go.Proofs.Ytkhnhnaefmcngaa
