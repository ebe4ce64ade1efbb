/- One way: what is read is what is written of it; the bytes of numbers are in their order: the mathematics. -/
import Derived.Test.YtfbeilninpapaaaRound
import Derived.Lib.Bytes
namespace Go.Proofs.Ytfbeilninpapaaa
open Go.RowKit
theorem rdN_inv (bs : List Int) : ∀ (f : Bool) (m i n sz : Nat), IsBytes bs → rdN f m i bs = (n, sz, 0) →
    ∃ k, sz = i + k + 1 ∧ k < bs.length ∧ bs.take (k + 1) = hi n k ++ [((n % 128 : Nat) : Int)] ∧ n / 128 ^ (k + 1) = m ∧ (f = true → k = 0 ∨ 0 < n / 128 ^ k % 128) := by
  induction bs with
  | nil => intro f m i n sz _ h; simp [rdN] at h
  | cons c r ih =>
    intro f m i n sz hby h
    have hc := hby c (by simp)
    rw [rdN] at h
    split at h
    · simp at h
    · rename_i hA
      split at h
      · rename_i hlt
        simp only [Prod.mk.injEq] at h
        obtain ⟨rfl, rfl, _⟩ := h
        refine ⟨0, by omega, by simp, ?_, by simp; omega, fun _ => .inl rfl⟩
        simp [hi]; omega
      · rename_i hge
        split at h
        · simp at h
        · obtain ⟨k, h1, h2, h3, h4, _⟩ := ih false _ (i + 1) n sz (fun x hx => hby x (by simp [hx])) h
          have hd : n / 128 ^ (k + 1) % 128 = c.toNat % 128 := by rw [h4]; omega
          refine ⟨k + 1, by omega, by simp; omega, ?_, ?_, fun hf => .inr ?_⟩
          · rw [List.take_succ_cons, h3, hi, List.cons_append, hd]
            congr 1; omega
          · rw [Nat.pow_succ, ← Nat.div_div_eq_div_mul, h4]; omega
          · rw [hd]
            have : c ≠ 128 := fun e => hA ⟨hf, e⟩
            omega
theorem ahead_zero : ahead 0 = 0 := by decide
theorem ahead_unique (n k : Nat) (h1 : n < 128 ^ (k + 1)) (h2 : k = 0 ∨ 128 ^ k ≤ n) : ahead n = k := by
  have a2 := lt_ahead n
  rcases Nat.lt_trichotomy (ahead n) k with h | h | h
  · rcases h2 with h2 | h2
    · omega
    · have := Nat.pow_le_pow_right (n := 128) (by omega) (show ahead n + 1 ≤ k by omega)
      omega
  · exact h
  · have hp : 0 < n := by
      rcases Nat.eq_zero_or_pos n with e | e
      · subst e; rw [ahead_zero] at h; omega
      · exact e
    have a1 := ahead_le n hp
    have := Nat.pow_le_pow_right (n := 128) (by omega) (show k + 1 ≤ ahead n by omega)
    omega
/-- Bytes that are read as a number are those that are written of it. -/
theorem rdN_least (bs : List Int) (hby : IsBytes bs) (n sz : Nat) (h : rdN true 0 0 bs = (n, sz, 0)) : bs.take sz = enc n := by
  obtain ⟨k, h1, h2, h3, h4, h5⟩ := rdN_inv bs true 0 0 n sz hby h
  have hp : 0 < 128 ^ (k + 1) := Nat.pos_of_ne_zero (by simp)
  have hlt : n < 128 ^ (k + 1) := by
    rcases Nat.lt_or_ge n (128 ^ (k + 1)) with h | h
    · exact h
    · have := Nat.div_pos h hp; omega
  have hk : ahead n = k := by
    refine ahead_unique n k hlt ?_
    rcases h5 rfl with h | h
    · exact .inl h
    · refine .inr ?_
      rcases Nat.lt_or_ge n (128 ^ k) with h' | h'
      · rw [Nat.div_eq_of_lt h'] at h; simp at h
      · exact h'
  rw [h1, show 0 + k + 1 = k + 1 by omega, h3, enc, hk]
theorem rdS_least (bs : List Int) (hby : IsBytes bs) (z : Int) (sz : Nat) (h : rdS bs = (z, sz, 0)) : bs.take sz = encS z ∧ -9223372036854775808 ≤ z ∧ z ≤ 9223372036854775807 := by
  cases bs with
  | nil => simp [rdS] at h
  | cons c r =>
    rw [rdS] at h
    split at h
    · rename_i hc
      have hbr : IsBytes r := fun x hx => hby x (by simp [hx])
      have hbd := rdN_bounds r true 0 0 (by omega)
      split at h
      · rename_i he
        obtain ⟨n, s, e⟩ : ∃ n s, rdN true 0 0 r = (n, s, 0) := ⟨(rdN true 0 0 r).1, (rdN true 0 0 r).2.1, by rw [← he]⟩
        rw [e] at h hbd
        have hl := rdN_least r hbr n s e
        simp only [Prod.mk.injEq] at h
        obtain ⟨h1, rfl, h3⟩ := h
        rw [show 1 + s = s + 1 by omega, List.take_succ_cons, hl]
        unfold wS at h1 h3
        rcases hc with rfl | rfl
        · rw [if_neg (by decide)] at h1 h3
          split at h3
          · simp at h3
          · rename_i hn
            rw [if_neg hn] at h1
            simp only at h1
            subst h1
            unfold encS
            rw [if_neg (by omega), Int.toNat_natCast]
            exact ⟨rfl, by omega, by omega⟩
        · rw [if_pos rfl] at h1 h3
          split at h3
          · simp at h3
          · rename_i hn
            rw [if_neg hn] at h1
            split at h3
            · simp at h3
            · rename_i hn2
              rw [if_neg hn2] at h1
              simp only at h1
              subst h1
              unfold encS
              rw [if_pos (by omega), Int.neg_neg, Int.toNat_natCast]
              exact ⟨rfl, by omega, by omega⟩
      · rename_i he
        simp only [Prod.mk.injEq] at h
        omega
    · simp at h

/-! ### The order -/
theorem less_cons (a b : UInt8) (x y : List UInt8) : Op.bytesLess (a :: x) (b :: y) = (decide (a < b) || (a == b && Op.bytesLess x y)) := by
  simp [Op.bytesLess]
def toB (xs : List Int) : List UInt8 := xs.map fun n => UInt8.ofNat n.toNat
theorem toB_cons (x : Int) (xs : List Int) : toB (x :: xs) = UInt8.ofNat x.toNat :: toB xs := rfl
theorem less_hi (a b : Nat) : ∀ k, a / 128 ^ (k + 1) = b / 128 ^ (k + 1) → Op.bytesLess (toB (hi a k ++ [((a % 128 : Nat) : Int)])) (toB (hi b k ++ [((b % 128 : Nat) : Int)])) = decide (a < b) := by
  intro k
  induction k with
  | zero =>
    intro h
    simp only [Nat.zero_add, Nat.pow_one] at h
    simp only [hi, List.nil_append, toB_cons, Int.toNat_natCast]
    rw [less_cons, show toB [] = [] from rfl, show Op.bytesLess [] [] = false from rfl, Bool.and_false, Bool.or_false]
    rw [decide_eq_decide, UInt8.lt_iff_toNat_lt]
    simp only [UInt8.toNat_ofNat']
    omega
  | succ k ih =>
    intro h
    have ha := div_step a (k + 1)
    have hb := div_step b (k + 1)
    simp only [hi, List.cons_append, toB_cons, Int.toNat_natCast]
    rw [less_cons]
    by_cases hd : a / 128 ^ (k + 1) % 128 = b / 128 ^ (k + 1) % 128
    · have he : a / 128 ^ (k + 1) = b / 128 ^ (k + 1) := by rw [← ha, ← hb, h, hd]
      rw [hd, ih he]
      simp
    · have hne : (UInt8.ofNat (a / 128 ^ (k + 1) % 128 + 128) == UInt8.ofNat (b / 128 ^ (k + 1) % 128 + 128)) = false := by
        simp only [beq_eq_false_iff_ne]
        intro e
        have := congrArg UInt8.toNat e
        simp only [UInt8.toNat_ofNat'] at this
        omega
      rw [hne, Bool.false_and, Bool.or_false, decide_eq_decide, UInt8.lt_iff_toNat_lt]
      simp only [UInt8.toNat_ofNat']
      have hp : 0 < 128 ^ (k + 1) := Nat.pos_of_ne_zero (by simp)
      have hq : a / 128 ^ (k + 1) < b / 128 ^ (k + 1) ↔ a / 128 ^ (k + 1) % 128 < b / 128 ^ (k + 1) % 128 := by rw [← ha, ← hb, h]; omega
      have hab : a / 128 ^ (k + 1) < b / 128 ^ (k + 1) → a < b := fun hl => by
        rcases Nat.lt_or_ge a b with h | h
        · exact h
        · have := Nat.div_le_div_right (c := 128 ^ (k + 1)) h; omega
      have hba : b / 128 ^ (k + 1) < a / 128 ^ (k + 1) → b < a := fun hl => by
        rcases Nat.lt_or_ge b a with h | h
        · exact h
        · have := Nat.div_le_div_right (c := 128 ^ (k + 1)) h; omega
      have hne2 : a / 128 ^ (k + 1) ≠ b / 128 ^ (k + 1) := fun e => hd (by rw [e])
      constructor
      · intro h1
        exact hab (hq.2 (by omega))
      · intro h1
        rcases Nat.lt_or_ge (a / 128 ^ (k + 1)) (b / 128 ^ (k + 1)) with h2 | h2
        · have := hq.1 h2; omega
        · have := hba (by omega); omega
/-- The bytes of two numbers with as many bytes are in their order. -/
theorem less_enc (a b : Nat) (h : (enc a).length = (enc b).length) : Op.bytesLess (strOfNums (enc a)).toList (strOfNums (enc b)).toList = decide (a < b) := by
  have hk : ahead a = ahead b := by rw [enc_length, enc_length] at h; omega
  have h1 := less_hi a b (ahead a) (by rw [Nat.div_eq_of_lt (lt_ahead a), hk, Nat.div_eq_of_lt (lt_ahead b)])
  have e : ∀ xs : List Int, (strOfNums xs).toList = toB xs := fun xs => Lib.strOfNums_toList xs
  rw [e, e, enc, enc, ← hk]
  exact h1
theorem len_enc (a b : Nat) (h : (enc a).length < (enc b).length) : a < b := by
  rw [enc_length, enc_length] at h
  have h1 := lt_ahead a
  have hp : 0 < b := by
    rcases Nat.eq_zero_or_pos b with e | e
    · subst e; rw [ahead_zero] at h; omega
    · exact e
  have h2 := ahead_le b hp
  have := Nat.pow_le_pow_right (n := 128) (by omega) (show ahead a + 1 ≤ ahead b by omega)
  omega
end Go.Proofs.Ytfbeilninpapaaa
