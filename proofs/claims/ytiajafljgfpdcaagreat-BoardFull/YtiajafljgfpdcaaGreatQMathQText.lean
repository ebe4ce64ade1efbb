/- QMath; QBits; QLaws; QPut; QPut2; QLaws2; QText. -/
import Derived.WalkKit
import Derived.Test.YtiajafljgfpdcaaGreatRows
import Derived.WalkSpells
import Derived.WalkLawsBesides
import Derived.Outline
import Derived.Lib.AppendStr
import Derived.Laws.AppendOwnNone
import Derived.Laws.BytesArg
import Derived.Lib.SliceRun
/- Plain mathematics of quill's bytes: how a number is written to the base 128, and the table of bit lengths. Nothing of the program. -/
namespace Go.Proofs.YtiajafljgfpdcaaGreat.Q
open Go.RowKit

/-- The bit lengths of the numbers below 256, as bytes. -/
def tab8 : List UInt8 := (List.range 256).map fun i => if i = 0 then 0 else UInt8.ofNat (i.log2 + 1)

theorem tab8_len : tab8.length = 256 := by decide +kernel
theorem tab8_get (i : Nat) (h0 : 0 < i) (h : i < 256) : tab8[i]? = some (UInt8.ofNat (i.log2 + 1)) := by
  simp [tab8, h, Nat.pos_iff_ne_zero.1 h0]

theorem log2_lt8 (i : Nat) (h0 : 0 < i) (h : i < 256) : i.log2 < 8 := (Nat.log2_lt (by omega)).2 (by omega)

theorem log2_div (x s : Nat) (h : 0 < x / 2 ^ s) : x.log2 = (x / 2 ^ s).log2 + s := by
  have hx : x ≠ 0 := by intro e; simp [e] at h
  rw [Nat.log2_eq_iff hx]
  have h1 := Nat.log2_self_le (n := x / 2 ^ s) (by omega)
  have h2 := Nat.lt_log2_self (n := x / 2 ^ s)
  have hp : 0 < 2 ^ s := Nat.pos_of_ne_zero (by simp)
  rw [Nat.le_div_iff_mul_le hp] at h1
  rw [Nat.div_lt_iff_lt_mul hp] at h2
  constructor
  · rw [Nat.pow_add]; exact h1
  · have : 2 ^ ((x / 2 ^ s).log2 + s + 1) = 2 ^ ((x / 2 ^ s).log2 + 1) * 2 ^ s := by rw [← Nat.pow_add]; congr 1; omega
    rw [this]; exact h2

theorem ba_get (T : ByteArray) (hT : T.data.toList = tab8) (i : Nat) (hi : i < T.size) (h0 : 0 < i) (h : i < 256) : T[i].toNat = i.log2 + 1 := by
  have e : T[i] = T.data.toList[i]'(by simpa using hi) := by simp [ByteArray.getElem_eq_getElem_data]
  have e2 : T.data.toList[i]? = some (UInt8.ofNat (i.log2 + 1)) := by rw [hT]; exact tab8_get i h0 h
  have e3 : T[i] = UInt8.ofNat (i.log2 + 1) := by
    rw [e]; exact (List.getElem?_eq_some_iff.1 e2).2
  rw [e3]
  have := log2_lt8 i h0 h
  simp [UInt8.toNat_ofNat']; omega

/-- Where the walk over Len64 ends. -/
theorem len_end (T : ByteArray) (hT : T.data.toList = tab8) (x : Int) (q : Int) (s : Nat) (S : Int) (hS : S = s) (hs : s ≤ 56) (hx : 0 ≤ x) (hq : q = x / 2 ^ s) (h1 : 0 < q) (h2 : q < 256) (hi : q.toNat < T.size) :
    wrap64 (S + wrap64 (T[q.toNat].toNat : Nat)) = (x.toNat.log2 : Int) + 1 := by
  obtain ⟨n, rfl⟩ : ∃ n : Nat, x = n := ⟨x.toNat, by omega⟩
  have hqn : q.toNat = n / 2 ^ s := by
    have e : ((n : Int) / 2 ^ s) = ((n / 2 ^ s : Nat) : Int) := by push_cast; rfl
    rw [hq, e, Int.toNat_natCast]
  rw [ba_get T hT q.toNat hi (by omega) (by omega)]
  have hl := log2_lt8 q.toNat (by omega) (by omega)
  rw [hqn] at hl ⊢
  rw [Int.toNat_natCast, log2_div n s (by rw [← hqn]; omega)]
  unfold wrap64
  omega

theorem len_end0 (T : ByteArray) (hT : T.data.toList = tab8) (x : Int) (h1 : 0 < x) (h2 : x < 256) (hi : x.toNat < T.size) :
    wrap64 (wrap64 (T[x.toNat].toNat : Nat)) = (x.toNat.log2 : Int) + 1 := by
  have := len_end T hT x x 0 0 rfl (by omega) (by omega) (by simp) h1 h2 hi
  rw [← this, Int.zero_add]

/-! ### A number's digits to the base 128 -/
/-- How many digits stand ahead of the last one. -/
def ahead (n : Nat) : Nat := (n ||| 1).log2 / 7
/-- The digits from place k down to place 1, each with 128 more. -/
def hi (n : Nat) : Nat → List Int
  | 0 => []
  | k + 1 => (((n / 128 ^ (k + 1)) % 128 + 128 : Nat) : Int) :: hi n k
/-- A number's bytes. -/
def enc (n : Nat) : List Int := hi n (ahead n) ++ [((n % 128 : Nat) : Int)]

theorem hi_length (n k : Nat) : (hi n k).length = k := by induction k with | zero => rfl | succ k ih => simp [hi, ih]
theorem enc_length (n : Nat) : (enc n).length = ahead n + 1 := by simp [enc, hi_length]

theorem or_one (n : Nat) : n ||| 1 = if n % 2 = 0 then n + 1 else n := by
  apply Nat.eq_of_testBit_eq
  intro i
  cases i with
  | zero => simp [Nat.testBit_zero]; split <;> omega
  | succ i =>
    rw [Nat.testBit_or, Nat.testBit_succ, Nat.testBit_succ, Nat.testBit_succ]
    have : 1 / 2 = 0 := rfl
    rw [this, Nat.zero_testBit, Bool.or_false]
    split
    · congr 1; omega
    · rfl

theorem ahead_lt (n : Nat) (h : n < 2 ^ 64) : ahead n < 10 := by
  have h1 : n ||| 1 < 2 ^ 64 := Nat.or_lt_two_pow h (by decide)
  have h2 : n ||| 1 ≠ 0 := by rw [or_one]; split <;> omega
  have := (Nat.log2_lt h2).2 h1
  unfold ahead; omega

theorem ahead_le (n : Nat) (h : 0 < n) : 128 ^ ahead n ≤ n := by
  have h2 : n ||| 1 ≠ 0 := by rw [or_one]; split <;> omega
  have h1 := Nat.log2_self_le h2
  have e : 128 ^ ahead n = 2 ^ (7 * ahead n) := by rw [Nat.pow_mul]
  rw [e]
  have : 7 * ahead n ≤ (n ||| 1).log2 := by unfold ahead; omega
  have h3 : 2 ^ (7 * ahead n) ≤ 2 ^ (n ||| 1).log2 := Nat.pow_le_pow_right (by omega) this
  rw [or_one] at h1
  split at h1
  · rename_i he
    by_cases h0 : ahead n = 0
    · simp [h0]; omega
    · have hd : 2 ^ (7 * ahead n) % 2 = 0 := by
        obtain ⟨k, hk⟩ : ∃ k, 7 * ahead n = k + 1 := ⟨7 * ahead n - 1, by omega⟩
        rw [hk, Nat.pow_succ]; omega
      rw [or_one, if_pos he] at h3
      omega
  · rename_i he
    rw [or_one, if_neg he] at h3
    omega

theorem lt_ahead (n : Nat) : n < 128 ^ (ahead n + 1) := by
  have h1 := Nat.lt_log2_self (n := n ||| 1)
  have e : 128 ^ (ahead n + 1) = 2 ^ (7 * (ahead n + 1)) := by rw [Nat.pow_mul]
  rw [e]
  have : (n ||| 1).log2 + 1 ≤ 7 * (ahead n + 1) := by unfold ahead; omega
  have h3 : 2 ^ ((n ||| 1).log2 + 1) ≤ 2 ^ (7 * (ahead n + 1)) := Nat.pow_le_pow_right (by omega) this
  have h4 : n ≤ n ||| 1 := Nat.left_le_or
  omega

theorem or_one_int (n : Nat) (h : n < 2 ^ 64) : 0 < ((n ||| 1 : Nat) : Int) ∧ ((n ||| 1 : Nat) : Int) < 18446744073709551616 := by
  have h1 : n ||| 1 < 2 ^ 64 := Nat.or_lt_two_pow h (by decide)
  have h2 : n ||| 1 ≠ 0 := by rw [or_one]; split <;> omega
  omega

theorem or128 (x : Nat) (h : x < 256) : bits .or .u8 (x : Int) 128 = ((x % 128 + 128 : Nat) : Int) := by
  have h1 := (bits_nat .u8 8 (by decide) wraps_u8 x 128 (by omega) (by decide)).2
  rw [show ((128 : Nat) : Int) = 128 from rfl] at h1
  rw [h1]
  have : ∀ y : Fin 256, y.val ||| 128 = y.val % 128 + 128 := by decide +kernel
  rw [this ⟨x, h⟩]
theorem and127 (x : Nat) (h : x < 256) : bits .and .u8 (x : Int) 127 = ((x % 128 : Nat) : Int) := by
  have h1 := bits_mask .u8 8 (by decide) wraps_u8 7 (by decide) x (by omega) (by omega)
  rw [show ((2 : Int) ^ 7 - 1) = 127 from rfl, show ((2 : Int) ^ 7) = 128 from rfl] at h1
  rw [h1]; omega
/-- The byte of place j + 1, as appendNumber reckons it. -/
theorem digit_or (n j : Nat) : bits .or .u8 ((n : Int) / 2 ^ (7 * (j + 1)) % 256) 128 = ((n / 128 ^ (j + 1) % 128 + 128 : Nat) : Int) := by
  have e : ((n : Int) / 2 ^ (7 * (j + 1)) % 256) = ((n / 128 ^ (j + 1) % 256 : Nat) : Int) := by
    have : (128 : Nat) ^ (j + 1) = 2 ^ (7 * (j + 1)) := by rw [Nat.pow_mul]
    rw [this]; simp only [Int.natCast_emod, Int.natCast_ediv, Int.natCast_pow]; rfl
  rw [e, or128 _ (by omega)]; congr 1; omega
theorem digit_and (n : Nat) : bits .and .u8 ((n : Int) % 256) 127 = ((n % 128 : Nat) : Int) := by
  have e : ((n : Int) % 256) = ((n % 256 : Nat) : Int) := by omega
  rw [e, and127 _ (by omega)]; congr 1; omega
theorem hi_step (n k : Nat) (done : List Int) (h : done ++ hi n (k + 1) = hi n (ahead n)) : (done ++ [((n / 128 ^ (k + 1) % 128 + 128 : Nat) : Int)]) ++ hi n k = hi n (ahead n) := by
  rw [← h]; simp [hi]
theorem hi_len (n k : Nat) (done : List Int) (h : done ++ hi n k = hi n (ahead n)) : done.length ≤ ahead n := by
  have := congrArg List.length h
  simp [hi_length] at this; omega
theorem hi_end (n : Nat) (done : List Int) (h : done ++ hi n 0 = hi n (ahead n)) : done ++ [((n % 128 : Nat) : Int)] = enc n := by
  simp [hi] at h; simp [enc, h]
end Go.Proofs.YtiajafljgfpdcaaGreat.Q
/- The contract of math/bits.Len64 as the program calls it, and of lowBitOfFirstDigit. -/
namespace Go.Proofs.YtiajafljgfpdcaaGreat.Q
open Go.RowKit

theorem ret_int {k : IntKind} {a b : Int} (h : a = b) : Ending.returned (.int k a) = .returned (.int k b) := by rw [h]

set_option maxRecDepth 100000 in
set_option maxHeartbeats 1000000 in
theorem len64_any (x : Int) (w : World) (h0 : 0 < x) (h1 : x < 18446744073709551616) :
    Calls Tryz.prog 135 #[.int .u64 x] w fun e w' => e = .returned (.int .i64 (x.toNat.log2 + 1)) ∧ w' = w := by
  go_enter Tryz.func135, Tryz.ntmps135
  go_wp2
  all_goals go_ret
  · exact ⟨ret_int (len_end _ (by decide +kernel) x _ 56 56 rfl (by omega) (by omega) (by omega) (by omega) (by omega) _), rfl⟩
  · exact ⟨ret_int (len_end _ (by decide +kernel) x _ 48 48 rfl (by omega) (by omega) (by omega) (by omega) (by omega) _), rfl⟩
  · exact ⟨ret_int (len_end _ (by decide +kernel) x _ 40 40 rfl (by omega) (by omega) (by omega) (by omega) (by omega) _), rfl⟩
  · exact ⟨ret_int (len_end _ (by decide +kernel) x _ 32 32 rfl (by omega) (by omega) (by omega) (by omega) (by omega) _), rfl⟩
  · exact ⟨ret_int (len_end _ (by decide +kernel) x _ 24 24 rfl (by omega) (by omega) (by omega) (by omega) (by omega) _), rfl⟩
  · exact ⟨ret_int (len_end _ (by decide +kernel) x _ 16 16 rfl (by omega) (by omega) (by omega) (by omega) (by omega) _), rfl⟩
  · exact ⟨ret_int (len_end _ (by decide +kernel) x _ 8 8 rfl (by omega) (by omega) (by omega) (by omega) (by omega) _), rfl⟩
  · exact ⟨ret_int (len_end0 _ (by decide +kernel) x (by omega) (by omega) _), rfl⟩

set_option maxRecDepth 100000 in
set_option maxHeartbeats 1000000 in
theorem lowBit_any (n : Nat) (w : World) (h1 : n < 2 ^ 64) :
    Calls Tryz.prog 111 #[.int .u64 n] w fun e w' => e = .returned (.int .i64 ((7 * ahead n : Nat) : Int)) ∧ w' = w := by
  have hb := or_one_int n h1
  have hor : bits .or .u64 (n : Int) 1 = ((n ||| 1 : Nat) : Int) := bits_or_u64_nat n 1 (by omega) (by omega)
  have ha := ahead_lt n h1
  have hd : (n ||| 1).log2 / 7 = ahead n := rfl
  obtain ⟨m, hm⟩ : ∃ m : Nat, m = n ||| 1 := ⟨_, rfl⟩
  rw [← hm] at hb hor hd
  clear hm
  go_enter Tryz.func111, Tryz.ntmps111
  go_wp2_with (go_at_call 135; refine (len64_any _ _ hb.1 hb.2).mono ?_; rintro e w' ⟨rfl, rfl⟩)
  go_ret
  exact ⟨ret_int (by omega), rfl⟩

end Go.Proofs.YtiajafljgfpdcaaGreat.Q
/- What quill does to slices of bytes of its own: the notion 'Own', and the laws of append in its words. -/
namespace Go.Proofs.YtiajafljgfpdcaaGreat.Q
open Go.RowKit

theorem info5 : (Tryz.prog.info? 5).map (fun i => (i.zero, i.size, i.bytes)) = some (some (.int .u8 0), 1, 1) := by kernel_rfl
/-- A slice of bytes of the call's own (blocks from base on), or nil. -/
def Own (w : World) (base : Nat) (v : Value) (xs : List Int) : Prop := w.ownsRow base 5 1 v xs.length (xs.map (Value.int .u8))

theorem Own.cast {w : World} {base : Nat} {v : Value} {xs ys : List Int} (h : Own w base v xs) (e : xs = ys) : Own w base v ys := e ▸ h

/-- append(s, c): c lies in a new block of its own. -/
theorem app1 {w : World} {ops : Array Oper} {rest : List Oper} {o : Oper} {a : Act} {Q : Exit → Act → World → Prop} (hgd : o.guard = none) (s x : Operand)
    (ho : o.op = .call { callee := .builtin .append, args := #[s, x], argTypes := #[43, 43] })
    (base : Nat) (v : Value) (xs : List Int) (c : Int) (hs : a.eval s = v) (hx : a.eval x = .slice (some ⟨w.heap.size, 0, none⟩) 1 1)
    (hown : Own w base v xs) (hbase : base ≤ w.heap.size) (hlen : xs.length ≤ 1000000000)
    (h : ∀ v' w', Own w' base v' (xs ++ [c]) → Below base w w' → wpList Tryz.prog ops Q rest (a.put o.dst v') w') :
    wpList Tryz.prog ops Q (o :: rest) a (w.alloc (.cells #[.int .u8 c] 5)) := by
  obtain ⟨i0, hi, hz0, hz1, hz2⟩ := info_parts info5
  refine wpList_append_own _ hgd s x 43 ho base 5 i0 (.int .u8 0) 1 1 Tryz.underlying43 hi hz0 hz1 hz2 rfl (by decide) v xs.length (xs.map (Value.int .u8)) hs (hown.alloc _) ⟨w.heap.size, 0, none⟩ 1 1 [.int .u8 c] hx rfl (cell_one_new _ _ _) ?_ ?_ ?_ ?_ ?_
  · intro u hu; simp at hu; subst hu; rfl
  · unfold maxLen; omega
  · omega
  · simp; omega
  · intro v' w' h1 h2 _
    refine h v' w' ?_ ?_
    · unfold Own; simpa using h1
    · refine ((Below.refl base w).alloc hbase _).grown h2 (by simp; omega) (fun k hk => ?_)
      exact (hown.lt k hk).1
end Go.Proofs.YtiajafljgfpdcaaGreat.Q
/- The contracts of quill's writers: Number, Signed, Text and what they call. -/
namespace Go.Proofs.YtiajafljgfpdcaaGreat.Q
open Go.RowKit
set_option maxRecDepth 100000 in
set_option maxHeartbeats 1000000 in
theorem appendNumber_any (base : Nat) (v : Value) (xs : List Int) (n : Nat) (w : World) (hn : n < 2 ^ 64) (hown : Own w base v xs) (hbase : base ≤ w.heap.size) (hlen : xs.length ≤ 100000000) :
    Calls Tryz.prog 86 #[v, .int .u64 n] w fun e w' => ∃ v', e = .returned v' ∧ Own w' base v' (xs ++ enc n) ∧ Below base w w' := by
  go_enter Tryz.func86, Tryz.ntmps86
  go_wp2_with (go_at_call 111; refine (lowBit_any n _ hn).mono ?_; rintro e w' ⟨rfl, hw'⟩; subst w')
  go_loopw [0, 5] (fun u s wr => ∃ (k : Nat) (done : List Int), k ≤ ahead n ∧ s = .int .i64 ((7 * k : Nat) : Int) ∧ Hid (done ++ hi n k = hi n (ahead n)) ∧ Own wr base u (xs ++ done) ∧ Below base w wr)
    (fun _ s _ => (intOf s).toNat)
  case atStart => exact ⟨ahead n, [], Nat.le_refl _, by go_num, rfl, by simpa using hown, Below.refl _ _⟩
  case round =>
    obtain ⟨k, done, hk, rfl, hd, ho, hbw⟩ := hrel
    have hk10 := ahead_lt n hn
    have hsz := hbw.size
    have hdl := hi_len n k done hd.out
    by_cases hlt : 0 < k
    · obtain ⟨j, rfl⟩ : ∃ j, k = j + 1 := ⟨k - 1, by omega⟩
      have hdg := digit_or n j
      have H := hi_step n j done hd.out
      go_wp2_with (at_builtin; refine app1 rfl (.tmp 12) (.tmp 18) rfl base _ (xs ++ done) _ rfl rfl ho (by omega) (by simp; omega) ?_; intro v1 w1 ho1 hb1)
      go_roundw
      case rel => exact ⟨j, _, by omega, by go_num, H, by simpa using ho1, hbw.trans hb1⟩
      case measure => simp [intOf]; omega
    · obtain rfl : k = 0 := by omega
      have hdg := digit_and n
      have H := hi_end n done hd.out
      go_wp2_with (at_builtin; refine app1 rfl (.tmp 20) (.tmp 24) rfl base _ (xs ++ done) _ rfl rfl ho (by omega) (by simp; omega) ?_; intro v1 w1 ho1 hb1)
      go_ret
      exact ⟨_, rfl, by rw [← H, ← List.append_assoc]; exact ho1, hbw.trans hb1⟩

/-- A signed number's bytes. -/
def encS (z : Int) : List Int := if z < 0 then 45 :: enc (-z).toNat else 43 :: enc z.toNat
theorem neg_wrap (z : Int) (h1 : -9223372036854775808 ≤ z) (h : z < 0) : IntKind.u64.wrap (-IntKind.u64.wrap z) = (((-z).toNat : Nat) : Int) := by
  simp only [IntKind.wrap, IntKind.bits, IntKind.signed]
  simp
  omega
set_option maxRecDepth 100000 in
set_option maxHeartbeats 1000000 in
theorem appendSigned_any (base : Nat) (v : Value) (xs : List Int) (z : Int) (w : World) (h1 : -9223372036854775808 ≤ z) (h2 : z ≤ 9223372036854775807) (hown : Own w base v xs) (hbase : base ≤ w.heap.size) (hlen : xs.length ≤ 99999999) :
    Calls Tryz.prog 112 #[v, .int .i64 z] w fun e w' => ∃ v', e = .returned v' ∧ Own w' base v' (xs ++ encS z) ∧ Below base w w' := by
  by_cases hz : z < 0
  · have hnw := neg_wrap z h1 hz
    have hE : Hid (encS z = 45 :: enc (-z).toNat) := by unfold encS; rw [if_pos hz]; rfl
    have hm : (-z).toNat < 2 ^ 64 := by omega
    obtain ⟨m, hmm⟩ : ∃ m, m = (-z).toNat := ⟨_, rfl⟩
    rw [← hmm] at hnw hE hm
    clear hmm
    go_enter Tryz.func112, Tryz.ntmps112
    go_wp2_with (first | (at_builtin; refine app1 rfl (.tmp 7) (.tmp 8) rfl base _ xs _ rfl rfl hown (by omega) (by omega) ?_; intro v1 w1 ho1 hb1) | (go_at_call 86; refine (appendNumber_any base v1 (xs ++ [45]) m w1 hm ho1 (by have := hb1.size; omega) (by simp; omega)).mono ?_; rintro e w2 ⟨v2, rfl, ho2, hb2⟩))
    go_ret
    exact ⟨_, rfl, ho2.cast (by rw [hE.out]; simp), hb1.trans hb2⟩
  · obtain ⟨m, rfl⟩ : ∃ m : Nat, z = m := ⟨z.toNat, by omega⟩
    have hE : Hid (encS m = 43 :: enc m) := by unfold encS; rw [if_neg hz]; rfl
    have hm : m < 2 ^ 64 := by omega
    go_enter Tryz.func112, Tryz.ntmps112
    go_wp2_with (first | (at_builtin; refine app1 rfl (.tmp 14) (.tmp 15) rfl base _ xs _ rfl rfl hown (by omega) (by omega) ?_; intro v1 w1 ho1 hb1) | (go_at_call 86; refine (appendNumber_any base v1 (xs ++ [43]) m w1 hm ho1 (by have := hb1.size; omega) (by simp; omega)).mono ?_; rintro e w2 ⟨v2, rfl, ho2, hb2⟩))
    go_ret
    exact ⟨_, rfl, ho2.cast (by rw [hE.out]; simp), hb1.trans hb2⟩
end Go.Proofs.YtiajafljgfpdcaaGreat.Q
/- The contracts of quill.Number, quill.Signed and quill.Text: what is given is written behind what is there. -/
namespace Go.Proofs.YtiajafljgfpdcaaGreat.Q
open Go.RowKit
/-- All of a list of pieces, one behind the other. -/
def cat {α : Type} (f : α → List Int) (l : List α) : List Int := (l.map f).flatten
theorem cat_take {α : Type} (f : α → List Int) (l : List α) (d : α) (k : Nat) (h : k < l.length) : cat f (l.take (k + 1)) = cat f (l.take k) ++ f (l.getD k d) := by
  unfold cat
  rw [List.take_succ_eq_append_getElem h]
  rw [List.map_append, List.flatten_append, List.getD_eq_getElem?_getD, List.getElem?_eq_getElem h]
  simp only [List.map_cons, List.map_nil, List.flatten_cons, List.flatten_nil, List.append_nil, Option.getD_some]
theorem cat_len {α : Type} (f : α → List Int) (m : Nat) (l : List α) (h : ∀ x ∈ l, (f x).length ≤ m) : (cat f l).length ≤ m * l.length := by
  induction l with
  | nil => simp [cat]
  | cons a r ih =>
    have h1 := ih fun x hx => h x (by simp [hx])
    have h2 := h a (by simp)
    simp only [cat, List.map_cons, List.flatten_cons, List.length_append, List.length_cons] at *
    rw [Nat.mul_add]; omega
theorem enc_len10 (n : Nat) (h : n < 2 ^ 64) : (enc n).length ≤ 10 := by rw [enc_length]; have := ahead_lt n h; omega
theorem encS_len11 (z : Int) (h1 : -9223372036854775808 ≤ z) (h2 : z ≤ 9223372036854775807) : (encS z).length ≤ 11 := by
  unfold encS
  split
  · have := enc_len10 (-z).toNat (by omega); simp; omega
  · have := enc_len10 z.toNat (by omega); simp; omega
theorem mem_take {α : Type} {l : List α} {k : Nat} {x : α} (h : x ∈ l.take k) : x ∈ l := List.mem_of_mem_take h
theorem getD_mem {α : Type} (l : List α) (d : α) (k : Nat) (h : k < l.length) : l.getD k d ∈ l := by
  rw [List.getD_eq_getElem?_getD, List.getElem?_eq_getElem h]; simp
/-- Cells from place k on, of a row that is read while other memory is written. -/
def Rest (w : World) (k len b o : Nat) (f : Nat → Value) : Prop := ∀ t, k ≤ t → t < len → w.cell? ⟨b, o + t, none⟩ = some (f t)
theorem Rest.next {w w' : World} {k len b o base : Nat} {f : Nat → Value} (h : Rest w k len b o f) (hb : Below base w w') (hs : b < base ∨ len ≤ 1) : Rest w' (k + 1) len b o f := by
  intro t ht hl
  rcases hs with hs | hs
  · exact (hb.cell (p := ⟨b, o + t, none⟩) hs).trans (h t (by omega) hl)
  · omega

set_option maxRecDepth 100000 in
set_option maxHeartbeats 1000000 in
theorem number_some (base : Nat) (v : Value) (xs : List Int) (ls : List Nat) (b o c : Nat) (w : World) (hl : ∀ n ∈ ls, n < 2 ^ 64) (hown : Own w base v xs) (hbase : base ≤ w.heap.size) (hlen : xs.length + 10 * ls.length ≤ 10000000)
    (hcell : Rest w 0 ls.length b o fun t => .int .u64 (ls.getD t 0)) (hs : b < base ∨ ls.length ≤ 1) :
    Calls Tryz.prog 48 #[v, .slice (some ⟨b, o, none⟩) ls.length c] w fun e w' => ∃ v', e = .returned v' ∧ Own w' base v' (xs ++ cat enc ls) ∧ Below base w w' := by
  go_enter Tryz.func48, Tryz.ntmps48
  go_wp2
  go_loopw [0, 9] (fun u i wr => ∃ k : Nat, k ≤ ls.length ∧ i = .int .i64 k ∧ Own wr base u (xs ++ cat enc (ls.take k)) ∧ Below base w wr ∧ Hid (Rest wr k ls.length b o fun t => .int .u64 (ls.getD t 0)))
    (fun _ i _ => ls.length - (intOf i).toNat)
  case atStart => exact ⟨0, Nat.zero_le _, rfl, by simpa [cat] using hown, Below.refl _ _, hcell⟩
  case round =>
    obtain ⟨k, hk, rfl, ho, hbw, hr⟩ := hrel
    have hsz := hbw.size
    have hcl := cat_len enc 10 (ls.take k) fun x hx => enc_len10 x (hl x (mem_take hx))
    have htl : (ls.take k).length ≤ ls.length := by simp; omega
    clear hcell hown
    by_cases hlt : k < ls.length
    · have hc : wr.cell? ⟨b, o + k, none⟩ = some (.int .u64 (ls.getD k 0)) := hr.out k (Nat.le_refl _) hlt
      have hct := cat_take enc ls 0 k hlt
      have hn := hl _ (getD_mem ls 0 k hlt)
      have HN : Hid (∀ (u : Value) (w1 : World), Own w1 base u (xs ++ cat enc (ls.take k) ++ enc (ls.getD k 0)) → Own w1 base u (xs ++ cat enc (ls.take (k + 1)))) := fun u w1 h => h.cast (by rw [hct]; simp)
      clear hct
      obtain ⟨n, hnn⟩ : ∃ n, n = ls.getD k 0 := ⟨_, rfl⟩
      rw [← hnn] at hc hn HN
      clear hnn
      go_wp2_with (go_at_call 86; refine (appendNumber_any base _ _ n _ hn ho (by omega) (by simp only [List.length_append]; omega)).mono ?_; rintro e w1 ⟨v1, rfl, ho1, hb1⟩)
      go_roundw
      case rel => exact ⟨k + 1, by omega, by go_num, HN.out _ _ ho1, hbw.trans hb1, hr.out.next hb1 hs⟩
      case measure => simp [intOf]; omega
    · obtain rfl : k = ls.length := by omega
      rw [List.take_of_length_le (Nat.le_refl _)] at ho
      go_wp2
      go_ret
      exact ⟨_, rfl, ho, hbw⟩

set_option maxRecDepth 100000 in
theorem number_none (v : Value) (a : Option Addr) (c : Nat) (w : World) :
    Calls Tryz.prog 48 #[v, .slice a 0 c] w fun e w' => e = .returned v ∧ w' = w := by
  go_enter Tryz.func48, Tryz.ntmps48
  go_wp2
  refine wp_loop_rounds 1 ?_
  rw [rounds_succ]
  go_wp2
  go_ret
  exact ⟨rfl, rfl⟩

/-- quill.Number(v, ls...): what is written lies behind what v owns. -/
theorem number_any (base : Nat) (v : Value) (xs : List Int) (ls : List Nat) (a : Option Addr) (c : Nat) (w : World) (hl : ∀ n ∈ ls, n < 2 ^ 64) (hown : Own w base v xs) (hbase : base ≤ w.heap.size) (hlen : xs.length + 10 * ls.length ≤ 10000000)
    (hcell : ls = [] ∨ ∃ b o, a = some ⟨b, o, none⟩ ∧ Rest w 0 ls.length b o (fun t => .int .u64 (ls.getD t 0)) ∧ (b < base ∨ ls.length ≤ 1)) :
    Calls Tryz.prog 48 #[v, .slice a ls.length c] w fun e w' => ∃ v', e = .returned v' ∧ Own w' base v' (xs ++ cat enc ls) ∧ Below base w w' := by
  rcases hcell with rfl | ⟨b, o, rfl, h1, h2⟩
  · refine (number_none v a c w).mono ?_
    rintro e w' ⟨rfl, rfl⟩
    exact ⟨v, rfl, by simpa [cat] using hown, Below.refl _ _⟩
  · exact number_some base v xs ls b o c w hl hown hbase hlen h1 h2

set_option maxRecDepth 100000 in
set_option maxHeartbeats 1000000 in
theorem signed_some (base : Nat) (v : Value) (xs : List Int) (ls : List Int) (b o c : Nat) (w : World) (hl : ∀ n ∈ ls, -9223372036854775808 ≤ n ∧ n ≤ 9223372036854775807) (hown : Own w base v xs) (hbase : base ≤ w.heap.size) (hlen : xs.length + 11 * ls.length ≤ 10000000)
    (hcell : Rest w 0 ls.length b o fun t => .int .i64 (ls.getD t 0)) (hs : b < base ∨ ls.length ≤ 1) :
    Calls Tryz.prog 88 #[v, .slice (some ⟨b, o, none⟩) ls.length c] w fun e w' => ∃ v', e = .returned v' ∧ Own w' base v' (xs ++ cat encS ls) ∧ Below base w w' := by
  go_enter Tryz.func88, Tryz.ntmps88
  go_wp2
  go_loopw [0, 9] (fun u i wr => ∃ k : Nat, k ≤ ls.length ∧ i = .int .i64 k ∧ Own wr base u (xs ++ cat encS (ls.take k)) ∧ Below base w wr ∧ Hid (Rest wr k ls.length b o fun t => .int .i64 (ls.getD t 0)))
    (fun _ i _ => ls.length - (intOf i).toNat)
  case atStart => exact ⟨0, Nat.zero_le _, rfl, by simpa [cat] using hown, Below.refl _ _, hcell⟩
  case round =>
    obtain ⟨k, hk, rfl, ho, hbw, hr⟩ := hrel
    have hsz := hbw.size
    have hcl := cat_len encS 11 (ls.take k) fun x hx => encS_len11 x (hl x (mem_take hx)).1 (hl x (mem_take hx)).2
    have htl : (ls.take k).length ≤ ls.length := by simp; omega
    clear hcell hown
    by_cases hlt : k < ls.length
    · have hc : wr.cell? ⟨b, o + k, none⟩ = some (.int .i64 (ls.getD k 0)) := hr.out k (Nat.le_refl _) hlt
      have hct := cat_take encS ls 0 k hlt
      have hn := hl _ (getD_mem ls 0 k hlt)
      have HN : Hid (∀ (u : Value) (w1 : World), Own w1 base u (xs ++ cat encS (ls.take k) ++ encS (ls.getD k 0)) → Own w1 base u (xs ++ cat encS (ls.take (k + 1)))) := fun u w1 h => h.cast (by rw [hct]; simp)
      clear hct
      obtain ⟨n, hnn⟩ : ∃ n, n = ls.getD k 0 := ⟨_, rfl⟩
      rw [← hnn] at hc hn HN
      clear hnn
      go_wp2_with (go_at_call 112; refine (appendSigned_any base _ _ n _ hn.1 hn.2 ho (by omega) (by simp only [List.length_append]; omega)).mono ?_; rintro e w1 ⟨v1, rfl, ho1, hb1⟩)
      go_roundw
      case rel => exact ⟨k + 1, by omega, by go_num, HN.out _ _ ho1, hbw.trans hb1, hr.out.next hb1 hs⟩
      case measure => simp [intOf]; omega
    · obtain rfl : k = ls.length := by omega
      rw [List.take_of_length_le (Nat.le_refl _)] at ho
      go_wp2
      go_ret
      exact ⟨_, rfl, ho, hbw⟩

set_option maxRecDepth 100000 in
theorem signed_none (v : Value) (a : Option Addr) (c : Nat) (w : World) :
    Calls Tryz.prog 88 #[v, .slice a 0 c] w fun e w' => e = .returned v ∧ w' = w := by
  go_enter Tryz.func88, Tryz.ntmps88
  go_wp2
  refine wp_loop_rounds 1 ?_
  rw [rounds_succ]
  go_wp2
  go_ret
  exact ⟨rfl, rfl⟩

/-- quill.Signed(v, ls...): what is written lies behind what v owns. -/
theorem signed_any (base : Nat) (v : Value) (xs : List Int) (ls : List Int) (a : Option Addr) (c : Nat) (w : World) (hl : ∀ n ∈ ls, -9223372036854775808 ≤ n ∧ n ≤ 9223372036854775807) (hown : Own w base v xs) (hbase : base ≤ w.heap.size) (hlen : xs.length + 11 * ls.length ≤ 10000000)
    (hcell : ls = [] ∨ ∃ b o, a = some ⟨b, o, none⟩ ∧ Rest w 0 ls.length b o (fun t => .int .i64 (ls.getD t 0)) ∧ (b < base ∨ ls.length ≤ 1)) :
    Calls Tryz.prog 88 #[v, .slice a ls.length c] w fun e w' => ∃ v', e = .returned v' ∧ Own w' base v' (xs ++ cat encS ls) ∧ Below base w w' := by
  rcases hcell with rfl | ⟨b, o, rfl, h1, h2⟩
  · refine (signed_none v a c w).mono ?_
    rintro e w' ⟨rfl, rfl⟩
    exact ⟨v, rfl, by simpa [cat] using hown, Below.refl _ _⟩
  · exact signed_some base v xs ls b o c w hl hown hbase hlen h1 h2
end Go.Proofs.YtiajafljgfpdcaaGreat.Q
/- Slices of bytes that are read ('Bts'), and the laws of append and of conversion to a string in its words. -/
namespace Go.Proofs.YtiajafljgfpdcaaGreat.Q
open Go.RowKit
/-- A slice value whose elements are the bytes bs. -/
def Bts (w : World) (v : Value) (bs : List Int) : Prop :=
  ∃ a c, v = .slice a bs.length c ∧ ((a = none → c = 0) ∧ bs.length ≤ c) ∧ (bs = [] ∨ ∃ b o, a = some ⟨b, o, none⟩ ∧ Rest w 0 bs.length b o fun t => .int .u8 (bs.getD t 0))

theorem Bts.below {w w' : World} {B : Nat} {v : Value} {bs : List Int} (h : Bts w v bs) (hb : Below B w w') (hv : ∀ k, v.ownBlock = some k → k < B) : Bts w' v bs := by
  obtain ⟨a, c, rfl, hn, h1⟩ := h
  refine ⟨a, c, rfl, hn, ?_⟩
  rcases h1 with h1 | ⟨b, o, rfl, hr⟩
  · exact .inl h1
  · refine .inr ⟨b, o, rfl, fun t h0 ht => ?_⟩
    exact (hb.cell (p := ⟨b, o + t, none⟩) (hv b rfl)).trans (hr t h0 ht)

/-- New blocks, and writes to what was not there: what is read stays. -/
theorem Bts.grow {w w' : World} {v : Value} {bs : List Int} (h : Bts w v bs) (hb : Below w.heap.size w w') : Bts w' v bs := by
  obtain ⟨a, c, rfl, hn, h1⟩ := h
  refine ⟨a, c, rfl, hn, ?_⟩
  rcases h1 with h1 | ⟨b, o, rfl, hr⟩
  · exact .inl h1
  · refine .inr ⟨b, o, rfl, fun t h0 ht => ?_⟩
    have := hr t h0 ht
    exact (hb.cell (p := ⟨b, o + t, none⟩) (World.block_lt_of_cell? w _ this)).trans this

theorem Bts.alloc {w : World} {v : Value} {bs : List Int} (h : Bts w v bs) (o : Obj) : Bts (w.alloc o) v bs :=
  h.grow ((Below.refl _ w).alloc (Nat.le_refl _) o)

theorem add_at (b o j : Nat) : (⟨b, o, none⟩ : Addr).add j = ⟨b, o + j, none⟩ := by cases j <;> simp [Addr.add]

/-- What is owned is read. -/
theorem Own.bts {w : World} {base : Nat} {v : Value} {xs : List Int} (h : Own w base v xs) : Bts w v xs := by
  have h' := h
  obtain ⟨h1, h2⟩ := h
  rcases h2 with ⟨rfl, h0⟩ | ⟨g, cap, cur, rfl, _, _, hcap, _, _, _⟩
  · have : xs = [] := by simpa using h0
    subst this
    exact ⟨none, 0, rfl, ⟨fun _ => rfl, Nat.le_refl _⟩, .inl rfl⟩
  · refine ⟨_, cap, rfl, ⟨(fun e => by cases e), hcap⟩, .inr ⟨g, 0, rfl, fun t _ ht => ?_⟩⟩
    have hc := World.ownsRow.cells h' rfl t (.int .u8 (xs.getD t 0)) (by simp [List.getElem?_map, List.getElem?_eq_getElem ht])
    rw [add_at] at hc; exact hc

theorem Own.shape {w : World} {base : Nat} {v : Value} {xs : List Int} (h : Own w base v xs) : ∃ a c, v = .slice a xs.length c := by
  obtain ⟨a, c, h, _⟩ := h.bts
  exact ⟨a, c, h⟩

theorem Own.lt {w : World} {base : Nat} {v : Value} {xs : List Int} (h : Own w base v xs) : ∀ k, v.ownBlock = some k → base ≤ k ∧ k < w.heap.size := World.ownsRow.lt h

theorem Own.alloc {w : World} {base : Nat} {v : Value} {xs : List Int} (h : Own w base v xs) (o : Obj) : Own (w.alloc o) base v xs := World.ownsRow.alloc h o

/-- append(s, x...), x a slice of bytes. -/
theorem appX {w : World} {ops : Array Oper} {rest : List Oper} {o : Oper} {a : Act} {Q : Exit → Act → World → Prop} (hgd : o.guard = none) (s x : Operand)
    (ho : o.op = .call { callee := .builtin .append, args := #[s, x], argTypes := #[43, 43] })
    (base : Nat) (v u : Value) (xs bs : List Int) (hs : a.eval s = v) (hx : a.eval x = u)
    (hown : Own w base v xs) (hb : Bts w u bs) (hbase : base ≤ w.heap.size) (hlen : xs.length + bs.length ≤ 140737488355328)
    (h : ∀ v' w', Own w' base v' (xs ++ bs) → Below base w w' → (v' = .slice none 0 0 ↔ v = .slice none 0 0 ∧ bs = []) → wpList Tryz.prog ops Q rest (a.put o.dst v') w') :
    wpList Tryz.prog ops Q (o :: rest) a w := by
  obtain ⟨i0, hi, hz0, hz1, hz2⟩ := info_parts info5
  obtain ⟨ad, c, rfl, hnil, hcell⟩ := hb
  cases ad with
  | none =>
    have hbs : bs = [] := by
      rcases hcell with hcell | ⟨_, _, e, _⟩
      · exact hcell
      · cases e
    subst hbs
    obtain rfl := hnil.1 rfl
    refine wpList_append_own_none hgd s x 43 ho base 5 i0 1 Tryz.underlying43 hi v xs.length (xs.map (Value.int .u8)) hs hown hx ?_
    exact h v w (by simpa using hown) (Below.refl _ _) (by simp)
  | some ad =>
    refine wpList_append_own _ hgd s x 43 ho base 5 i0 (.int .u8 0) 1 1 Tryz.underlying43 hi hz0 hz1 hz2 rfl (by decide) v xs.length (xs.map (Value.int .u8)) hs hown ad bs.length c (bs.map (Value.int .u8)) hx (by simp) ?_ (ints_oneCell _ _) (by unfold maxLen; omega) (by omega) hbase ?_
    · intro j y hj
      rcases hcell with rfl | ⟨b, o, e, hr⟩
      · simp at hj
      · cases e
        rw [List.getElem?_map] at hj
        have hjl : j < bs.length := by
          rcases Nat.lt_or_ge j bs.length with h | h
          · exact h
          · rw [List.getElem?_eq_none h] at hj; cases hj
        have := hr j (Nat.zero_le _) hjl
        rw [List.getElem?_eq_getElem hjl] at hj
        simp only [Option.map_some, Option.some.injEq] at hj
        subst hj
        rw [add_at, this]; simp [hjl]
    · intro v' w' h1 h2 h3
      refine h v' w' ?_ ?_ (by simpa using h3)
      · unfold Own; simpa using h1
      · exact (Below.refl base w).grown h2 hbase (fun k hk => (hown.lt k hk).1)

/-- A string's bytes as numbers. -/
def numsS (s : ByteArray) : List Int := s.data.toList.map fun b => (b.toNat : Int)
theorem numsS_length (s : ByteArray) : (numsS s).length = s.size := by rw [numsS, List.length_map, Array.length_toList]; rfl
theorem strOf_numsS (s : ByteArray) : strOfNums (numsS s) = s := by
  simp only [strOfNums, numsS, List.map_map]
  have : s.data.toList.map ((fun n : Int => UInt8.ofNat n.toNat) ∘ fun b : UInt8 => (b.toNat : Int)) = s.data.toList := by
    rw [List.map_congr_left (g := id)]
    · simp
    · intro a _; simp
  rw [this]

/-- append(s, x...), x a string. -/
theorem appS {w : World} {ops : Array Oper} {rest : List Oper} {o : Oper} {a : Act} {Q : Exit → Act → World → Prop} (hgd : o.guard = none) (sl x : Operand)
    (ho : o.op = .call { callee := .builtin .append, args := #[sl, x], argTypes := #[43, 9] })
    (base : Nat) (v : Value) (xs : List Int) (s : ByteArray) (hs : a.eval sl = v) (hx : a.eval x = .string s)
    (hown : Own w base v xs) (hbase : base ≤ w.heap.size) (hlen : xs.length + s.size ≤ 140737488355328)
    (h : ∀ v' w', Own w' base v' (xs ++ numsS s) → Below base w w' → wpList Tryz.prog ops Q rest (a.put o.dst v') w') :
    wpList Tryz.prog ops Q (o :: rest) a w := by
  obtain ⟨i0, hi, hz0, hz1, hz2⟩ := info_parts info5
  refine Lib.wpList_append_own_string _ hgd sl x 43 9 ho base 5 i0 Tryz.underlying43 Tryz.underlying9 hi hz0 hz1 hz2 v xs.length (xs.map (Value.int .u8)) hs hown s hx (by unfold maxLen; omega) hlen hbase ?_
  intro v' w' h1 h2 _
  refine h v' w' ?_ ((Below.refl base w).grown h2 hbase (fun k hk => (hown.lt k hk).1))
  unfold Own
  have e : (xs ++ numsS s).map (Value.int .u8) = xs.map (Value.int .u8) ++ Lib.strCells s := by simp [numsS, Lib.strCells]
  rw [e, List.length_append, numsS_length]; exact h1

/-- string(v). -/
theorem conv_str {w : World} {v : Value} {bs : List Int} (hb : Bts w v bs) : (convert 43 9 v).run Tryz.prog w = .ok (.string (strOfNums bs)) w := by
  obtain ⟨ad, c, rfl, hnil, hcell⟩ := hb
  rcases hcell with rfl | ⟨b, o, rfl, hr⟩
  · cases ad with
    | none => exact run_convert_bytes_nil w 43 5 Tryz.underlying43 Tryz.underlying5 _ _ 9 Tryz.underlying9
    | some ad =>
      rw [run_convert_bytes_string w 43 9 5 _ _ _ Tryz.underlying43 Tryz.underlying5 Tryz.underlying9]
      simp [Conv.bytesToString, loadCells]
      rfl
  · exact run_convert_bytes_arg w 43 5 Tryz.underlying43 Tryz.underlying5 b o bs.length c bs rfl (fun i hi => hr i (Nat.zero_le _) hi) 9 Tryz.underlying9

theorem size5 (W : World) : (sizeOf (Tryz.prog.elem 43)).run Tryz.prog W = .ok 1 W := by kernel_rfl
theorem elem22 : Tryz.prog.underlying 43 = some (.slice (Tryz.prog.elem 43)) := by kernel_rfl

/-- v[k:], k within the length. -/
theorem slice_from {w : World} {v : Value} {bs : List Int} (hb : Bts w v bs) (k : Nat) (hk : k ≤ bs.length) :
    ∃ v2, (∀ W, (Instr.slice 43 v (some (.int .i64 (k : Int))) none none).run Tryz.prog W = .ok v2 W) ∧ Bts w v2 (bs.drop k) ∧ (∀ q, v2.ownBlock = some q → v.ownBlock = some q) := by
  obtain ⟨a, c, rfl, ⟨hn, hc⟩, h1⟩ := hb
  refine ⟨sliced a k bs.length c 1, fun W => ?_, ⟨if c = k then a else a.map (·.add (k * 1)), c - k, by simp only [sliced, List.length_drop], ⟨fun e => ?_, by simp; omega⟩, ?_⟩, ?_⟩
  · rw [run_slice_l W 43 a bs.length c elem22 .i64 k (by omega) (by omega), size5]; simp [Result.andThen]
  · by_cases h : c = k
    · omega
    · rw [if_neg h] at e
      simp at e; have := hn e; omega
  · rcases h1 with rfl | ⟨b, o, rfl, hr⟩
    · exact .inl (by simp)
    · by_cases h : k = bs.length
      · exact .inl (by simp [h])
      · refine .inr ⟨b, o + k, ?_, fun t _ ht => ?_⟩
        · rw [if_neg (by omega)]; simp [add_at]
        · rw [List.length_drop] at ht
          have := hr (k + t) (Nat.zero_le _) (by omega)
          rw [show o + k + t = o + (k + t) by omega, this]; simp
  · intro q hq
    unfold sliced at hq
    split at hq
    · cases a with
      | none => simp [Value.ownBlock] at hq
      | some a => simpa [Value.ownBlock] using hq
    · cases a with
      | none => simp [Value.ownBlock] at hq
      | some a =>
        simp [Value.ownBlock, Addr.add] at hq
        split at hq <;> simpa [Value.ownBlock] using hq

/-- v[:k], k within the length, as a uint64. -/
theorem slice_to {w : World} {v : Value} {bs : List Int} (hb : Bts w v bs) (k : Nat) (hk : k ≤ bs.length) :
    ∃ v2, (∀ W, (Instr.slice 43 v none (some (.int .u64 (k : Int))) none).run Tryz.prog W = .ok v2 W) ∧ Bts w v2 (bs.take k) := by
  obtain ⟨a, c, rfl, ⟨hn, hc⟩, h1⟩ := hb
  refine ⟨sliced a 0 k c 1, fun W => ?_, ⟨if c = 0 then a else a.map (·.add (0 * 1)), c - 0, by simp only [sliced, List.length_take, Nat.min_eq_left hk, Nat.sub_zero], ⟨fun e => ?_, by simp; omega⟩, ?_⟩⟩
  · rw [run_slice_h W 43 a bs.length c elem22 .u64 k (by omega) (by omega), size5]; simp [Result.andThen]
  · by_cases h : c = 0
    · omega
    · rw [if_neg h] at e
      simp at e; have := hn e; omega
  · rcases h1 with rfl | ⟨b, o, rfl, hr⟩
    · exact .inl (by simp)
    · by_cases h : k = 0
      · exact .inl (by simp [h])
      · refine .inr ⟨b, o, ?_, fun t _ ht => ?_⟩
        · rw [if_neg (by omega)]; simp [add_at]
        · rw [List.length_take] at ht
          have := hr t (Nat.zero_le _) (by omega)
          rw [this]; simp [show t < k by omega]

theorem len_bts {w : World} {v : Value} {bs : List Int} (hb : Bts w v bs) (W : World) : (Builtin.len_ #[43] 3 #[v]).run Tryz.prog W = .ok (.int .i64 (bs.length : Nat)) W := by
  obtain ⟨a, c, rfl, _, _⟩ := hb
  rw [run_len_slice W 43 3 a bs.length c elem22]; rfl
end Go.Proofs.YtiajafljgfpdcaaGreat.Q
/- The contracts of quill.Text, bytes.Clone and quill.Unroll. -/
namespace Go.Proofs.YtiajafljgfpdcaaGreat.Q
open Go.RowKit
/-- A text's bytes. -/
def encT (s : ByteArray) : List Int := enc s.size ++ numsS s
theorem encT_len (s : ByteArray) (h : s.size < 2 ^ 64) : (encT s).length ≤ 10 + s.size := by
  have := enc_len10 s.size h
  simp only [encT, List.length_append, numsS_length]; omega
/-- The bytes of all texts. -/
def total (ss : List ByteArray) : Nat := (ss.map ByteArray.size).sum
theorem total_le (ss : List ByteArray) (s : ByteArray) (h : s ∈ ss) : s.size ≤ total ss := by
  induction ss with
  | nil => cases h
  | cons a r ih =>
    simp only [total, List.map_cons, List.sum_cons] at *
    rcases List.mem_cons.1 h with rfl | h
    · omega
    · have := ih h; omega
theorem total_take (ss : List ByteArray) (k : Nat) : total (ss.take k) ≤ total ss := by
  induction ss generalizing k with
  | nil => simp
  | cons a r ih =>
    cases k with
    | zero => simp [total]
    | succ k =>
      have := ih k
      simp only [total, List.take_succ_cons, List.map_cons, List.sum_cons] at *; omega
theorem catT_len (ss : List ByteArray) (h : total ss < 2 ^ 64) : (cat encT ss).length ≤ 10 * ss.length + total ss := by
  induction ss with
  | nil => simp [cat]
  | cons a r ih =>
    simp only [total, List.map_cons, List.sum_cons] at h
    have h1 := ih (by unfold total; omega)
    have h2 := encT_len a (by omega)
    simp only [cat, total, List.map_cons, List.flatten_cons, List.length_append, List.length_cons, List.sum_cons] at *
    omega

set_option maxRecDepth 100000 in
set_option maxHeartbeats 1000000 in
theorem text_some (base : Nat) (v : Value) (xs : List Int) (ls : List ByteArray) (b o c : Nat) (w : World) (hl : total ls ≤ 1000000) (hown : Own w base v xs) (hbase : base ≤ w.heap.size) (hlen : xs.length + 10 * ls.length ≤ 10000000)
    (hcell : Rest w 0 ls.length b o fun t => .string (ls.getD t ByteArray.empty)) (hs : b < base ∨ ls.length ≤ 1) :
    Calls Tryz.prog 87 #[v, .slice (some ⟨b, o, none⟩) ls.length c] w fun e w' => ∃ v', e = .returned v' ∧ Own w' base v' (xs ++ cat encT ls) ∧ Below base w w' := by
  go_enter Tryz.func87, Tryz.ntmps87
  go_wp2
  go_loopw [0, 9] (fun u i wr => ∃ k : Nat, k ≤ ls.length ∧ i = .int .i64 k ∧ Own wr base u (xs ++ cat encT (ls.take k)) ∧ Below base w wr ∧ Hid (Rest wr k ls.length b o fun t => .string (ls.getD t ByteArray.empty)))
    (fun _ i _ => ls.length - (intOf i).toNat)
  case atStart => exact ⟨0, Nat.zero_le _, rfl, by simpa [cat] using hown, Below.refl _ _, hcell⟩
  case round =>
    obtain ⟨k, hk, rfl, ho, hbw, hr⟩ := hrel
    have hsz := hbw.size
    have htt := total_take ls k
    have hcl := catT_len (ls.take k) (by omega)
    have htl : (ls.take k).length ≤ ls.length := by simp; omega
    clear hcell hown
    by_cases hlt : k < ls.length
    · have hc : wr.cell? ⟨b, o + k, none⟩ = some (.string (ls.getD k ByteArray.empty)) := hr.out k (Nat.le_refl _) hlt
      have hct := cat_take encT ls ByteArray.empty k hlt
      have hn := total_le ls _ (getD_mem ls ByteArray.empty k hlt)
      have HN : Hid (∀ (u : Value) (w1 : World), Own w1 base u (xs ++ cat encT (ls.take k) ++ encT (ls.getD k ByteArray.empty)) → Own w1 base u (xs ++ cat encT (ls.take (k + 1)))) := fun u w1 h => h.cast (by rw [hct]; simp)
      clear hct
      obtain ⟨n, hnn⟩ : ∃ n, n = ls.getD k ByteArray.empty := ⟨_, rfl⟩
      rw [← hnn] at hc hn HN
      clear hnn
      have hsn : n.size < 2 ^ 64 := by omega
      go_wp2_with (first | (go_at_call 86; refine (appendNumber_any base _ _ n.size _ hsn ho (by omega) (by simp only [List.length_append]; omega)).mono ?_; rintro e w1 ⟨v1, rfl, ho1, hb1⟩) | (at_builtin; refine appS rfl (.tmp 17) (.tmp 18) rfl base _ _ n rfl rfl ho1 (by have := hb1.size; omega) (by have := enc_len10 n.size hsn; simp only [List.length_append]; omega) ?_; intro v2 w2 ho2 hb2))
      go_roundw
      case rel => exact ⟨k + 1, by omega, by go_num, HN.out _ _ (ho2.cast (by simp [encT])), (hbw.trans hb1).trans hb2, hr.out.next (hb1.trans hb2) hs⟩
      case measure => simp [intOf]; omega
    · obtain rfl : k = ls.length := by omega
      rw [List.take_of_length_le (Nat.le_refl _)] at ho
      go_wp2
      go_ret
      exact ⟨_, rfl, ho, hbw⟩


set_option maxRecDepth 100000 in
theorem text_none (v : Value) (a : Option Addr) (c : Nat) (w : World) :
    Calls Tryz.prog 87 #[v, .slice a 0 c] w fun e w' => e = .returned v ∧ w' = w := by
  go_enter Tryz.func87, Tryz.ntmps87
  go_wp2
  refine wp_loop_rounds 1 ?_
  rw [rounds_succ]
  go_wp2
  go_ret
  exact ⟨rfl, rfl⟩

/-- quill.Text(v, ls...): what is written lies behind what v owns. -/
theorem text_any (base : Nat) (v : Value) (xs : List Int) (ls : List ByteArray) (a : Option Addr) (c : Nat) (w : World) (hl : total ls ≤ 1000000) (hown : Own w base v xs) (hbase : base ≤ w.heap.size) (hlen : xs.length + 10 * ls.length ≤ 10000000)
    (hcell : ls = [] ∨ ∃ b o, a = some ⟨b, o, none⟩ ∧ Rest w 0 ls.length b o (fun t => .string (ls.getD t ByteArray.empty)) ∧ (b < base ∨ ls.length ≤ 1)) :
    Calls Tryz.prog 87 #[v, .slice a ls.length c] w fun e w' => ∃ v', e = .returned v' ∧ Own w' base v' (xs ++ cat encT ls) ∧ Below base w w' := by
  rcases hcell with rfl | ⟨b, o, rfl, h1, h2⟩
  · refine (text_none v a c w).mono ?_
    rintro e w' ⟨rfl, rfl⟩
    exact ⟨v, rfl, by simpa [cat] using hown, Below.refl _ _⟩
  · exact text_some base v xs ls b o c w hl hown hbase hlen h1 h2
end Go.Proofs.YtiajafljgfpdcaaGreat.Q
