/- Plain mathematics of quill's bytes: how a number is written to the base 128, and the table of bit lengths. Nothing of the program. -/
import Derived.WalkKit
namespace Go.Proofs.Ytfbeilninpapaaa
open Go.RowKit

/-- The bit lengths of the numbers below 256, as bytes. -/
def tab8 : List UInt8 := (List.range 256).map fun i => if i = 0 then 0 else UInt8.ofNat (i.log2 + 1)

theorem tab8_len : tab8.length = 256 := by decide +kernel
theorem tab8_get (i : Nat) (h0 : 0 < i) (h : i < 256) : tab8[i]? = some (UInt8.ofNat (i.log2 + 1)) := by
  simp [tab8, h, Nat.pos_iff_ne_zero.1 h0]

theorem log2_lt8 (i : Nat) (h0 : 0 < i) (h : i < 256) : i.log2 < 8 := (Nat.log2_lt (by omega)).2 (by omega)

theorem log2_div (x s : Nat) (h : 0 < x / 2 ^ s) : x.log2 = (x / 2 ^ s).log2 + s := by
  have hx : x ≠ 0 := by intro e; simp [e] at h
  rw [Nat.log2_eq_iff hx]
  have h1 := Nat.log2_self_le (n := x / 2 ^ s) (by omega)
  have h2 := Nat.lt_log2_self (n := x / 2 ^ s)
  have hp : 0 < 2 ^ s := Nat.pos_of_ne_zero (by simp)
  rw [Nat.le_div_iff_mul_le hp] at h1
  rw [Nat.div_lt_iff_lt_mul hp] at h2
  constructor
  · rw [Nat.pow_add]; exact h1
  · have : 2 ^ ((x / 2 ^ s).log2 + s + 1) = 2 ^ ((x / 2 ^ s).log2 + 1) * 2 ^ s := by rw [← Nat.pow_add]; congr 1; omega
    rw [this]; exact h2

theorem ba_get (T : ByteArray) (hT : T.data.toList = tab8) (i : Nat) (hi : i < T.size) (h0 : 0 < i) (h : i < 256) : T[i].toNat = i.log2 + 1 := by
  have e : T[i] = T.data.toList[i]'(by simpa using hi) := by simp [ByteArray.getElem_eq_getElem_data]
  have e2 : T.data.toList[i]? = some (UInt8.ofNat (i.log2 + 1)) := by rw [hT]; exact tab8_get i h0 h
  have e3 : T[i] = UInt8.ofNat (i.log2 + 1) := by
    rw [e]; exact (List.getElem?_eq_some_iff.1 e2).2
  rw [e3]
  have := log2_lt8 i h0 h
  simp [UInt8.toNat_ofNat']; omega

/-- Where the walk over Len64 ends. -/
theorem len_end (T : ByteArray) (hT : T.data.toList = tab8) (x : Int) (q : Int) (s : Nat) (S : Int) (hS : S = s) (hs : s ≤ 56) (hx : 0 ≤ x) (hq : q = x / 2 ^ s) (h1 : 0 < q) (h2 : q < 256) (hi : q.toNat < T.size) :
    wrap64 (S + wrap64 (T[q.toNat].toNat : Nat)) = (x.toNat.log2 : Int) + 1 := by
  obtain ⟨n, rfl⟩ : ∃ n : Nat, x = n := ⟨x.toNat, by omega⟩
  have hqn : q.toNat = n / 2 ^ s := by
    have e : ((n : Int) / 2 ^ s) = ((n / 2 ^ s : Nat) : Int) := by push_cast; rfl
    rw [hq, e, Int.toNat_natCast]
  rw [ba_get T hT q.toNat hi (by omega) (by omega)]
  have hl := log2_lt8 q.toNat (by omega) (by omega)
  rw [hqn] at hl ⊢
  rw [Int.toNat_natCast, log2_div n s (by rw [← hqn]; omega)]
  unfold wrap64
  omega

theorem len_end0 (T : ByteArray) (hT : T.data.toList = tab8) (x : Int) (h1 : 0 < x) (h2 : x < 256) (hi : x.toNat < T.size) :
    wrap64 (wrap64 (T[x.toNat].toNat : Nat)) = (x.toNat.log2 : Int) + 1 := by
  have := len_end T hT x x 0 0 rfl (by omega) (by omega) (by simp) h1 h2 hi
  rw [← this, Int.zero_add]

/-! ### A number's digits to the base 128 -/
/-- How many digits stand ahead of the last one. -/
def ahead (n : Nat) : Nat := (n ||| 1).log2 / 7
/-- The digits from place k down to place 1, each with 128 more. -/
def hi (n : Nat) : Nat → List Int
  | 0 => []
  | k + 1 => (((n / 128 ^ (k + 1)) % 128 + 128 : Nat) : Int) :: hi n k
/-- A number's bytes. -/
def enc (n : Nat) : List Int := hi n (ahead n) ++ [((n % 128 : Nat) : Int)]

theorem hi_length (n k : Nat) : (hi n k).length = k := by induction k with | zero => rfl | succ k ih => simp [hi, ih]
theorem enc_length (n : Nat) : (enc n).length = ahead n + 1 := by simp [enc, hi_length]

theorem or_one (n : Nat) : n ||| 1 = if n % 2 = 0 then n + 1 else n := by
  apply Nat.eq_of_testBit_eq
  intro i
  cases i with
  | zero => simp [Nat.testBit_zero]; split <;> omega
  | succ i =>
    rw [Nat.testBit_or, Nat.testBit_succ, Nat.testBit_succ, Nat.testBit_succ]
    have : 1 / 2 = 0 := rfl
    rw [this, Nat.zero_testBit, Bool.or_false]
    split
    · congr 1; omega
    · rfl

theorem ahead_lt (n : Nat) (h : n < 2 ^ 64) : ahead n < 10 := by
  have h1 : n ||| 1 < 2 ^ 64 := Nat.or_lt_two_pow h (by decide)
  have h2 : n ||| 1 ≠ 0 := by rw [or_one]; split <;> omega
  have := (Nat.log2_lt h2).2 h1
  unfold ahead; omega

theorem ahead_le (n : Nat) (h : 0 < n) : 128 ^ ahead n ≤ n := by
  have h2 : n ||| 1 ≠ 0 := by rw [or_one]; split <;> omega
  have h1 := Nat.log2_self_le h2
  have e : 128 ^ ahead n = 2 ^ (7 * ahead n) := by rw [Nat.pow_mul]
  rw [e]
  have : 7 * ahead n ≤ (n ||| 1).log2 := by unfold ahead; omega
  have h3 : 2 ^ (7 * ahead n) ≤ 2 ^ (n ||| 1).log2 := Nat.pow_le_pow_right (by omega) this
  rw [or_one] at h1
  split at h1
  · rename_i he
    by_cases h0 : ahead n = 0
    · simp [h0]; omega
    · have hd : 2 ^ (7 * ahead n) % 2 = 0 := by
        obtain ⟨k, hk⟩ : ∃ k, 7 * ahead n = k + 1 := ⟨7 * ahead n - 1, by omega⟩
        rw [hk, Nat.pow_succ]; omega
      rw [or_one, if_pos he] at h3
      omega
  · rename_i he
    rw [or_one, if_neg he] at h3
    omega

theorem lt_ahead (n : Nat) : n < 128 ^ (ahead n + 1) := by
  have h1 := Nat.lt_log2_self (n := n ||| 1)
  have e : 128 ^ (ahead n + 1) = 2 ^ (7 * (ahead n + 1)) := by rw [Nat.pow_mul]
  rw [e]
  have : (n ||| 1).log2 + 1 ≤ 7 * (ahead n + 1) := by unfold ahead; omega
  have h3 : 2 ^ ((n ||| 1).log2 + 1) ≤ 2 ^ (7 * (ahead n + 1)) := Nat.pow_le_pow_right (by omega) this
  have h4 : n ≤ n ||| 1 := Nat.left_le_or
  omega

theorem or_one_int (n : Nat) (h : n < 2 ^ 64) : 0 < ((n ||| 1 : Nat) : Int) ∧ ((n ||| 1 : Nat) : Int) < 18446744073709551616 := by
  have h1 : n ||| 1 < 2 ^ 64 := Nat.or_lt_two_pow h (by decide)
  have h2 : n ||| 1 ≠ 0 := by rw [or_one]; split <;> omega
  omega

theorem or128 (x : Nat) (h : x < 256) : bits .or .u8 (x : Int) 128 = ((x % 128 + 128 : Nat) : Int) := by
  have h1 := (bits_nat .u8 8 (by decide) wraps_u8 x 128 (by omega) (by decide)).2
  rw [show ((128 : Nat) : Int) = 128 from rfl] at h1
  rw [h1]
  have : ∀ y : Fin 256, y.val ||| 128 = y.val % 128 + 128 := by decide +kernel
  rw [this ⟨x, h⟩]
theorem and127 (x : Nat) (h : x < 256) : bits .and .u8 (x : Int) 127 = ((x % 128 : Nat) : Int) := by
  have h1 := bits_mask .u8 8 (by decide) wraps_u8 7 (by decide) x (by omega) (by omega)
  rw [show ((2 : Int) ^ 7 - 1) = 127 from rfl, show ((2 : Int) ^ 7) = 128 from rfl] at h1
  rw [h1]; omega
/-- The byte of place j + 1, as appendNumber reckons it. -/
theorem digit_or (n j : Nat) : bits .or .u8 ((n : Int) / 2 ^ (7 * (j + 1)) % 256) 128 = ((n / 128 ^ (j + 1) % 128 + 128 : Nat) : Int) := by
  have e : ((n : Int) / 2 ^ (7 * (j + 1)) % 256) = ((n / 128 ^ (j + 1) % 256 : Nat) : Int) := by
    have : (128 : Nat) ^ (j + 1) = 2 ^ (7 * (j + 1)) := by rw [Nat.pow_mul]
    rw [this]; simp only [Int.natCast_emod, Int.natCast_ediv, Int.natCast_pow]; rfl
  rw [e, or128 _ (by omega)]; congr 1; omega
theorem digit_and (n : Nat) : bits .and .u8 ((n : Int) % 256) 127 = ((n % 128 : Nat) : Int) := by
  have e : ((n : Int) % 256) = ((n % 256 : Nat) : Int) := by omega
  rw [e, and127 _ (by omega)]; congr 1; omega
theorem hi_step (n k : Nat) (done : List Int) (h : done ++ hi n (k + 1) = hi n (ahead n)) : (done ++ [((n / 128 ^ (k + 1) % 128 + 128 : Nat) : Int)]) ++ hi n k = hi n (ahead n) := by
  rw [← h]; simp [hi]
theorem hi_len (n k : Nat) (done : List Int) (h : done ++ hi n k = hi n (ahead n)) : done.length ≤ ahead n := by
  have := congrArg List.length h
  simp [hi_length] at this; omega
theorem hi_end (n : Nat) (done : List Int) (h : done ++ hi n 0 = hi n (ahead n)) : done ++ [((n % 128 : Nat) : Int)] = enc n := by
  simp [hi] at h; simp [enc, h]
end Go.Proofs.Ytfbeilninpapaaa
