/- The mark's mathematics: what bits that are turned within 32 neighbouring ones do to it. -/
import Derived.WalkKit
namespace Go.Proofs.Ytcgjolonapndgaa
open Go.RowKit
def IsBytes (bs : List Int) : Prop := ∀ c ∈ bs, 0 ≤ c ∧ c < 256
/-- One bit's step. -/
def mstep (m : Nat) : Nat := if m % 2 = 1 then (m / 2) ^^^ 3945912366 else m / 2
def miter : Nat → Nat → Nat
  | 0, m => m
  | k + 1, m => mstep (miter k m)
/-- One byte's step. -/
def mbyte (m : Nat) (c : Int) : Nat := miter 8 (m ^^^ c.toNat)
def mfold (m : Nat) (bs : List Int) : Nat := bs.foldl mbyte m
theorem mstep_lt (m : Nat) (h : m < 2 ^ 32) : mstep m < 2 ^ 32 := by
  unfold mstep
  split
  · exact Nat.xor_lt_two_pow (by omega) (by decide)
  · omega
theorem miter_lt (k m : Nat) (h : m < 2 ^ 32) : miter k m < 2 ^ 32 := by
  induction k with
  | zero => exact h
  | succ k ih => exact mstep_lt _ ih
theorem mbyte_lt (m : Nat) (c : Int) (h : m < 2 ^ 32) (hc : c < 256) : mbyte m c < 2 ^ 32 := miter_lt _ _ (Nat.xor_lt_two_pow h (by omega))
theorem mfold_lt (bs : List Int) (hby : IsBytes bs) : ∀ m, m < 2 ^ 32 → mfold m bs < 2 ^ 32 := by
  induction bs with
  | nil => intro m h; exact h
  | cons c r ih => intro m h; exact ih (fun x hx => hby x (by simp [hx])) _ (mbyte_lt m c h (hby c (by simp)).2)
theorem mfold_append (m : Nat) (a b : List Int) : mfold m (a ++ b) = mfold (mfold m a) b := by simp [mfold]
theorem mfold_take (m : Nat) (bs : List Int) (k : Nat) (h : k < bs.length) : mfold m (bs.take (k + 1)) = mbyte (mfold m (bs.take k)) (bs.getD k 0) := by
  rw [List.take_succ_eq_append_getElem h, mfold_append]; simp [mfold, h]
theorem IsBytes.take {bs : List Int} (h : IsBytes bs) (k : Nat) : IsBytes (bs.take k) := fun c hc => h c (List.mem_of_mem_take hc)
theorem IsBytes.drop {bs : List Int} (h : IsBytes bs) (k : Nat) : IsBytes (bs.drop k) := fun c hc => h c (List.mem_of_mem_drop hc)
theorem isBytes_flatten (ls : List (List Int)) (h : ∀ p ∈ ls, IsBytes p) (k : Nat) : IsBytes (ls.take k).flatten := by
  intro c hc
  obtain ⟨p, hp, hcp⟩ := List.mem_flatten.1 hc
  exact h p (List.mem_of_mem_take hp) c hcp
theorem getD_mem {α : Type} (l : List α) (d : α) (k : Nat) (h : k < l.length) : l.getD k d ∈ l := by
  rw [List.getD_eq_getElem?_getD, List.getElem?_eq_getElem h]; simp

theorem xor_div2 (a b : Nat) : (a ^^^ b) / 2 = (a / 2) ^^^ (b / 2) := by
  have := Nat.shiftRight_xor_distrib (a := a) (b := b) (i := 1)
  simpa [Nat.shiftRight_eq_div_pow] using this
theorem xor_mod2 (a b : Nat) : (a ^^^ b) % 2 = (a % 2 + b % 2) % 2 := by
  have := Nat.xor_mod_two_eq_one (a := a) (b := b)
  by_cases h1 : a % 2 = 1 <;> by_cases h2 : b % 2 = 1 <;> simp only [h1, h2, iff_true, iff_false, not_true, not_false_eq_true] at this <;> omega
theorem mstep_xor (a b : Nat) : mstep (a ^^^ b) = mstep a ^^^ mstep b := by
  have hm := xor_mod2 a b
  unfold mstep
  rw [xor_div2]
  by_cases h1 : a % 2 = 1 <;> by_cases h2 : b % 2 = 1
  · rw [if_neg (by omega), if_pos h1, if_pos h2]
    rw [Nat.xor_assoc, Nat.xor_comm 3945912366, Nat.xor_assoc, Nat.xor_self, Nat.xor_zero]
  · rw [if_pos (by omega), if_pos h1, if_neg h2]
    rw [Nat.xor_assoc, Nat.xor_comm (b / 2), Nat.xor_assoc]
  · rw [if_pos (by omega), if_neg h1, if_pos h2, Nat.xor_assoc]
  · rw [if_neg (by omega), if_neg h1, if_neg h2]
theorem miter_xor (k a b : Nat) : miter k (a ^^^ b) = miter k a ^^^ miter k b := by
  induction k with
  | zero => rfl
  | succ k ih => show mstep _ = _; rw [ih, mstep_xor]; rfl
theorem miter_add (j k m : Nat) : miter (j + k) m = miter j (miter k m) := by
  induction j with
  | zero => simp [miter]
  | succ j ih => rw [Nat.succ_add]; show mstep _ = mstep _; rw [ih]
theorem miter_shift (k y : Nat) : miter k (2 ^ k * y) = y := by
  induction k generalizing y with
  | zero => simp [miter]
  | succ k ih =>
    show mstep (miter k _) = y
    rw [Nat.pow_succ, Nat.mul_assoc, ih]
    unfold mstep
    rw [if_neg (by omega)]; omega
theorem xor_cancel (a b p : Nat) (h : a ^^^ p = b ^^^ p) : a = b := by
  have h1 := congrArg (· ^^^ p) h
  simpa [Nat.xor_assoc, Nat.xor_self] using h1
theorem mstep_ne (m : Nat) (h : m < 2 ^ 32) (h0 : m ≠ 0) : mstep m ≠ 0 := by
  unfold mstep
  split
  · intro e
    have h1 : (m / 2) ^^^ 3945912366 = 3945912366 ^^^ 3945912366 := by rw [e, Nat.xor_self]
    have := xor_cancel _ _ _ h1
    omega
  · omega
theorem miter_ne (k m : Nat) (h : m < 2 ^ 32) (h0 : m ≠ 0) : miter k m ≠ 0 := by
  induction k with
  | zero => exact h0
  | succ k ih => exact mstep_ne _ (miter_lt k m h) ih

/-- Bytes as a number, the first the lowest. -/
def vals : List Int → Nat
  | [] => 0
  | c :: r => c.toNat + 256 * vals r
theorem add_xor (x y : Nat) (h : x < 256) : x + 256 * y = x ^^^ (2 ^ 8 * y) := by
  rw [Nat.xor_comm, Nat.add_comm]
  have := Nat.two_pow_add_eq_or_of_lt (i := 8) (b := x) (by omega) y
  rw [show (256 : Nat) = 2 ^ 8 from rfl, this]
  apply Nat.eq_of_testBit_eq
  intro i
  rw [Nat.testBit_or, Nat.testBit_xor]
  by_cases hi : i < 8
  · have : (2 ^ 8 * y).testBit i = false := by rw [Nat.testBit_two_pow_mul]; simp; omega
    rw [this]; simp
  · have : x.testBit i = false := Nat.testBit_lt_two_pow (Nat.lt_of_lt_of_le h (by rw [show (256 : Nat) = 2 ^ 8 from rfl]; exact Nat.pow_le_pow_right (by omega) (by omega)))
    rw [this]; simp
theorem mfold_vals (bs : List Int) (hby : IsBytes bs) : ∀ c, mfold c bs = miter (8 * bs.length) (c ^^^ vals bs) := by
  induction bs with
  | nil => intro c; simp [mfold, vals, miter]
  | cons x r ih =>
    intro c
    have hx := hby x (by simp)
    show mfold (mbyte c x) r = _
    rw [ih (fun z hz => hby z (by simp [hz]))]
    unfold mbyte
    rw [show vals (x :: r) = x.toNat + 256 * vals r from rfl, add_xor _ _ (by omega), ← Nat.xor_assoc, List.length_cons, show 8 * (r.length + 1) = 8 * r.length + 8 by omega, miter_add, miter_xor 8 (c ^^^ x.toNat), miter_shift]
/-- Bits turned within 32 neighbouring ones turn the mark. -/
theorem mfold_turned (c : Nat) (p q : List Int) (hp : IsBytes p) (hq : IsBytes q) (hl : q.length = p.length) (at_ M : Nat) (ha : at_ ≤ 8 * p.length) (hM : M < 2 ^ 32) (h0 : M ≠ 0) (hv : vals q = vals p ^^^ (2 ^ at_ * M)) : mfold c q ≠ mfold c p := by
  rw [mfold_vals p hp, mfold_vals q hq, hl, hv, ← Nat.xor_assoc, miter_xor _ (c ^^^ vals p)]
  intro e
  have h1 : miter (8 * p.length) (2 ^ at_ * M) = 0 := by
    have h2 := congrArg (miter (8 * p.length) (c ^^^ vals p) ^^^ ·) e
    simpa [← Nat.xor_assoc, Nat.xor_self] using h2
  rw [show 8 * p.length = (8 * p.length - at_) + at_ by omega, miter_add, miter_shift] at h1
  exact miter_ne _ _ hM h0 h1
/-- One bit of one byte. -/
theorem vals_set (p : List Int) (hp : IsBytes p) : ∀ (i j : Nat), i < p.length → j < 8 → vals (p.set i (((p.getD i 0).toNat ^^^ 2 ^ j : Nat) : Int)) = vals p ^^^ 2 ^ (8 * i + j) := by
  induction p with
  | nil => intro i j h _; simp at h
  | cons c r ih =>
    intro i j hi hj
    have hc := hp c (by simp)
    have hr : IsBytes r := fun z hz => hp z (by simp [hz])
    have hjl : 2 ^ j < 256 := by rw [show (256 : Nat) = 2 ^ 8 from rfl]; exact Nat.pow_lt_pow_right (by omega) hj
    cases i with
    | zero =>
      simp only [List.set_cons_zero, List.getD_cons_zero, vals, Int.toNat_natCast]
      rw [add_xor _ _ (Nat.xor_lt_two_pow (n := 8) (by omega) (by omega)), add_xor _ _ (by omega)]
      simp only [Nat.mul_zero, Nat.zero_add]
      rw [Nat.xor_assoc, Nat.xor_comm (2 ^ j), ← Nat.xor_assoc]
    | succ i =>
      simp only [List.set_cons_succ, List.getD_cons_succ, vals]
      rw [ih hr i j (by simpa using hi) hj, add_xor _ _ (by omega), add_xor _ _ (by omega), Nat.xor_assoc]
      congr 1
      rw [show 2 ^ (8 * (i + 1) + j) = 2 ^ 8 * 2 ^ (8 * i + j) by rw [← Nat.pow_add]; congr 1; omega]
      have hd := Nat.shiftLeft_xor_distrib (a := vals r) (b := 2 ^ (8 * i + j)) (i := 8)
      simp only [Nat.shiftLeft_eq] at hd
      rw [Nat.mul_comm (2 ^ 8), hd, Nat.mul_comm (2 ^ 8), Nat.mul_comm (2 ^ 8)]
theorem mfold_take_drop (m : Nat) (p : List Int) (k : Nat) : mfold m p = mfold (mfold m (p.take k)) (p.drop k) := by
  rw [← mfold_append, List.take_append_drop]
end Go.Proofs.Ytcgjolonapndgaa
