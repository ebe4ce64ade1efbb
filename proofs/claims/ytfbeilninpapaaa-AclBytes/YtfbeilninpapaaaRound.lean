/- What was written is read back: the mathematics. -/
import Derived.Test.YtfbeilninpapaaaRead2
import Derived.Test.YtfbeilninpapaaaText
namespace Go.Proofs.Ytfbeilninpapaaa
open Go.RowKit
theorem div_step (n k : Nat) : n / 128 ^ (k + 1) * 128 + n / 128 ^ k % 128 = n / 128 ^ k := by
  have : n / 128 ^ (k + 1) = n / 128 ^ k / 128 := by rw [Nat.pow_succ, Nat.div_div_eq_div_mul]
  rw [this]; omega
theorem rdN_low (n : Nat) (f : Bool) (i : Nat) (rest : List Int) : rdN f (n / 128) i (((n % 128 : Nat) : Int) :: rest) = (n, i + 1, 0) := by
  rw [rdN, if_neg (by omega), if_pos (by omega), Int.toNat_natCast]
  simp; omega
theorem rdN_hi (n : Nat) (hn : n < 2 ^ 64) (rest : List Int) : ∀ (k : Nat) (f : Bool) (i : Nat), (f = true → 0 < n / 128 ^ k % 128 ∨ k = 0) → rdN f (n / 128 ^ (k + 1)) i (hi n k ++ ((n % 128 : Nat) : Int) :: rest) = (n, i + k + 1, 0) := by
  intro k
  induction k with
  | zero => intro f i _; simpa [hi] using rdN_low n f i rest
  | succ k ih =>
    intro f i hf
    have hd := div_step n (k + 1)
    have hle : n / 128 ^ (k + 1) ≤ 144115188075855871 := by
      have h1 : n / 128 ^ (k + 1) ≤ n / 128 := by
        rw [Nat.pow_succ, Nat.mul_comm, ← Nat.div_div_eq_div_mul]
        exact Nat.div_le_self _ _
      omega
    rw [hi, List.cons_append, rdN]
    have ht : (((n / 128 ^ (k + 1) % 128 + 128 : Nat) : Int)).toNat % 128 = n / 128 ^ (k + 1) % 128 := by rw [Int.toNat_natCast]; omega
    rw [ht, hd, if_neg, if_neg (by omega), if_neg (by omega), ih false (i + 1) (by simp)]
    · simp; omega
    · rintro ⟨h1, h2⟩
      rcases hf h1 with h | h
      · omega
      · omega
/-- What Number writes is read back. -/
theorem rdN_enc (n : Nat) (hn : n < 2 ^ 64) (rest : List Int) : rdN true 0 0 (enc n ++ rest) = (n, (enc n).length, 0) := by
  have h0 : n / 128 ^ (ahead n + 1) = 0 := Nat.div_eq_of_lt (lt_ahead n)
  have h := rdN_hi n hn rest (ahead n) true 0 (by
    intro _
    by_cases ha : ahead n = 0
    · exact .inr ha
    · refine .inl ?_
      have hp : 0 < n := by
        rcases Nat.eq_zero_or_pos n with h | h
        · subst h; exact absurd (by decide : ahead 0 = 0) ha
        · exact h
      have h1 := ahead_le n hp
      have h2 := lt_ahead n
      have h3 : 0 < n / 128 ^ ahead n := Nat.div_pos h1 (Nat.pos_of_ne_zero (by simp))
      have h4 : n / 128 ^ ahead n < 128 := by
        rw [Nat.div_lt_iff_lt_mul (Nat.pos_of_ne_zero (by simp))]
        rw [Nat.pow_succ] at h2; omega
      omega)
  rw [h0] at h
  rw [enc_length, enc, List.append_assoc]
  simpa using h
theorem rdS_encS (z : Int) (h1 : -9223372036854775808 ≤ z) (h2 : z ≤ 9223372036854775807) (rest : List Int) : rdS (encS z ++ rest) = (z, (encS z).length, 0) := by
  unfold encS
  split
  · have hr := rdN_enc (-z).toNat (by omega) rest
    rw [List.cons_append, rdS, hr, if_pos (by omega), if_pos rfl]
    simp only [wS]
    rw [if_pos trivial, if_neg (by omega), if_neg (by omega)]
    simp; omega
  · have hr := rdN_enc z.toNat (by omega) rest
    rw [List.cons_append, rdS, hr, if_pos (by omega), if_pos rfl]
    simp only [wS]
    rw [if_neg (by omega), if_neg (by omega)]
    simp; omega
theorem rdT_encT (most : Nat) (s : ByteArray) (h : s.size ≤ most) (hs : s.size < 2 ^ 64) (rest : List Int) : rdT most (encT s ++ rest) = (numsS s, (encT s).length, 0) := by
  have hr := rdN_enc s.size hs (numsS s ++ rest)
  unfold rdT encT
  rw [List.append_assoc, hr]
  simp only [if_pos]
  rw [if_neg (by omega), List.drop_left, if_neg (by rw [List.length_append, numsS_length]; omega)]
  rw [← numsS_length s, List.take_left, List.length_append]
/-- A list of pieces, parted at a place. -/
theorem cat_at {α : Type} (f : α → List Int) (l : List α) (d : α) (k : Nat) (h : k < l.length) : cat f l = cat f (l.take k) ++ (f (l.getD k d) ++ cat f (l.drop (k + 1))) := by
  have h1 : l = l.take k ++ (l.getD k d :: l.drop (k + 1)) := by
    have : l.getD k d = l[k] := by simp [h]
    rw [this, ← List.drop_eq_getElem_cons h, List.take_append_drop]
  unfold cat
  conv => lhs; rw [h1]
  simp
theorem isBytes_append {a b : List Int} (ha : IsBytes a) (hb : IsBytes b) : IsBytes (a ++ b) := by
  intro c hc
  rcases List.mem_append.1 hc with h | h
  · exact ha c h
  · exact hb c h
theorem isBytes_hi (n k : Nat) : IsBytes (hi n k) := by
  induction k with
  | zero => intro c hc; cases hc
  | succ k ih =>
    intro c hc
    rcases List.mem_cons.1 hc with h | h
    · subst h; omega
    · exact ih c h
theorem isBytes_enc (n : Nat) : IsBytes (enc n) := isBytes_append (isBytes_hi n _) (by intro c hc; simp at hc; subst hc; omega)
theorem isBytes_encS (z : Int) : IsBytes (encS z) := by
  unfold encS
  split
  all_goals
    intro c hc
    rcases List.mem_cons.1 hc with h | h
    · subst h; omega
    · exact isBytes_enc _ c h
theorem isBytes_nums (s : ByteArray) : IsBytes (numsS s) := by
  intro c hc
  obtain ⟨b, _, rfl⟩ := List.mem_map.1 hc
  have := b.toNat_lt
  omega
theorem isBytes_encT (s : ByteArray) : IsBytes (encT s) := isBytes_append (isBytes_enc _) (isBytes_nums s)
theorem isBytes_cat {α : Type} (f : α → List Int) (l : List α) (h : ∀ x ∈ l, IsBytes (f x)) : IsBytes (cat f l) := by
  intro c hc
  obtain ⟨p, hp, hcp⟩ := List.mem_flatten.1 hc
  obtain ⟨x, hx, rfl⟩ := List.mem_map.1 hp
  exact h x hx c hcp
end Go.Proofs.Ytfbeilninpapaaa
