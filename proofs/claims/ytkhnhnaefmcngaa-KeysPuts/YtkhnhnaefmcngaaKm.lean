/- Keys as lists of bytes: the mathematics (order, beginnings, numbers, texts). -/
import GoSem.Op.String
namespace Go.Proofs.Ytkhnhnaefmcngaa
/-- Numbers that are bytes. -/
def IsBytes (bs : List Int) : Prop := ∀ c ∈ bs, 0 ≤ c ∧ c < 256
theorem isBytes_append {a b : List Int} (ha : IsBytes a) (hb : IsBytes b) : IsBytes (a ++ b) := by
  intro c h
  rcases List.mem_append.1 h with h | h
  · exact ha c h
  · exact hb c h
theorem isBytes_left {a b : List Int} (h : IsBytes (a ++ b)) : IsBytes a := fun c hc => h c (List.mem_append.2 (.inl hc))
theorem isBytes_right {a b : List Int} (h : IsBytes (a ++ b)) : IsBytes b := fun c hc => h c (List.mem_append.2 (.inr hc))
theorem IsBytes.take {bs : List Int} (h : IsBytes bs) (k : Nat) : IsBytes (bs.take k) := fun c hc => h c (List.mem_of_mem_take hc)
theorem IsBytes.drop {bs : List Int} (h : IsBytes bs) (k : Nat) : IsBytes (bs.drop k) := fun c hc => h c (List.mem_of_mem_drop hc)

/-- Two lists of bytes, the first that is not the same less in the first one. -/
def Lt0 : List Int → List Int → Prop
  | a :: x, b :: y => a < b ∨ (a = b ∧ Lt0 x y)
  | _, _ => False
theorem Lt0.append : ∀ {x y : List Int}, Lt0 x y → ∀ p q, Lt0 (x ++ p) (y ++ q)
  | a :: x, b :: y, h, p, q => by
    rcases h with h | ⟨h1, h2⟩
    · exact .inl h
    · exact .inr ⟨h1, h2.append p q⟩
  | [], _, h, _, _ => by simp [Lt0] at h
  | _ :: _, [], h, _, _ => by simp [Lt0] at h
theorem Lt0.behind {x y : List Int} (h : Lt0 x y) : ∀ p, Lt0 (p ++ x) (p ++ y)
  | [] => h
  | _ :: p => .inr ⟨rfl, h.behind p⟩
/-- The order of lists of bytes: -1, 0, 1. -/
def cmpL : List Int → List Int → Int
  | [], [] => 0
  | [], _ :: _ => -1
  | _ :: _, [] => 1
  | a :: x, b :: y => if a < b then -1 else if b < a then 1 else cmpL x y
theorem cmpL_in : ∀ x y : List Int, cmpL x y = -1 ∨ cmpL x y = 0 ∨ cmpL x y = 1
  | [], [] => by simp [cmpL]
  | [], _ :: _ => by simp [cmpL]
  | _ :: _, [] => by simp [cmpL]
  | a :: x, b :: y => by
    unfold cmpL
    split
    · exact .inl rfl
    · split
      · exact .inr (.inr rfl)
      · exact cmpL_in x y
theorem cmpL_neg : ∀ x y : List Int, cmpL y x = - cmpL x y
  | [], [] => rfl
  | [], _ :: _ => rfl
  | _ :: _, [] => rfl
  | a :: x, b :: y => by
    unfold cmpL
    have ih := cmpL_neg x y
    split <;> split <;> first | omega | (split <;> omega) | skip
    all_goals (try (split <;> omega))
    all_goals omega
theorem cmpL_eq : ∀ {x y : List Int}, cmpL x y = 0 → x = y
  | [], [], _ => rfl
  | [], _ :: _, h => by simp [cmpL] at h
  | _ :: _, [], h => by simp [cmpL] at h
  | a :: x, b :: y, h => by
    unfold cmpL at h
    split at h
    · omega
    · split at h
      · omega
      · rw [cmpL_eq h, show a = b by omega]
theorem cmpL_self (x : List Int) : cmpL x x = 0 := by
  induction x with
  | nil => rfl
  | cons a x ih => simp [cmpL, ih]
theorem Lt0.cmp : ∀ {x y : List Int}, Lt0 x y → cmpL x y = -1
  | a :: x, b :: y, h => by
    unfold cmpL
    rcases h with h | ⟨h1, h2⟩
    · rw [if_pos h]
    · subst h1
      rw [if_neg (by omega), if_neg (by omega)]
      exact h2.cmp
  | [], _, h => by simp [Lt0] at h
  | _ :: _, [], h => by simp [Lt0] at h
theorem cmpL_pre (x : List Int) (c : Int) (r : List Int) : cmpL x (x ++ c :: r) = -1 := by
  induction x with
  | nil => rfl
  | cons a x ih => simp [cmpL, ih]
theorem cmpL_behind (p x y : List Int) : cmpL (p ++ x) (p ++ y) = cmpL x y := by
  induction p with
  | nil => rfl
  | cons a p ih => simp [cmpL, ih]

/-- A number's n bytes, the highest first. -/
def be : Nat → Nat → List Int
  | 0, _ => []
  | k + 1, n => be k (n / 256) ++ [((n % 256 : Nat) : Int)]
theorem be_len (k n : Nat) : (be k n).length = k := by
  induction k generalizing n with
  | zero => rfl
  | succ k ih => simp [be, ih]
theorem be_bytes (k n : Nat) : IsBytes (be k n) := by
  induction k generalizing n with
  | zero => intro c h; cases h
  | succ k ih =>
    intro c h
    rw [be, List.mem_append] at h
    rcases h with h | h
    · exact ih _ c h
    · simp at h; omega
/-- Bytes, the highest first, as a number. -/
def ofBe (l : List Int) : Nat := l.foldl (fun n c => 256 * n + c.toNat) 0
theorem ofBe_snoc (l : List Int) (c : Int) : ofBe (l ++ [c]) = 256 * ofBe l + c.toNat := by simp [ofBe]
theorem ofBe_be (k n : Nat) : ofBe (be k n) = n % 256 ^ k := by
  induction k generalizing n with
  | zero => simp [be, ofBe]; omega
  | succ k ih =>
    rw [be, ofBe_snoc, ih, Int.toNat_natCast, Nat.pow_succ, Nat.mul_comm _ 256, Nat.mod_mul]; omega
theorem be_ofBe (l : List Int) (h : IsBytes l) : be l.length (ofBe l) = l := by
  induction hn : l.length generalizing l with
  | zero => rw [List.length_eq_zero_iff.1 hn]; rfl
  | succ k ih =>
    obtain ⟨r, c, rfl⟩ : ∃ r c, l = r ++ [c] := ⟨l.dropLast, l.getLast (by intro e; subst e; simp at hn), (List.dropLast_concat_getLast _).symm⟩
    have hc := h c (by simp)
    have hr : IsBytes r := fun z hz => h z (by simp [hz])
    have hl : r.length = k := by simpa using hn
    rw [be, ofBe_snoc]
    rw [show (256 * ofBe r + c.toNat) / 256 = ofBe r by omega, ih r hr hl]
    congr 2
    omega
theorem ofBe_lt (l : List Int) (h : IsBytes l) : ofBe l < 256 ^ l.length := by
  have h1 := ofBe_be l.length (ofBe l)
  rw [be_ofBe l h] at h1
  rw [h1]
  exact Nat.mod_lt _ (Nat.pow_pos (by omega))
theorem be_cons (k n : Nat) : be (k + 1) n = (((n / 256 ^ k) % 256 : Nat) : Int) :: be k n := by
  induction k generalizing n with
  | zero => simp [be]
  | succ k ih =>
    rw [be, ih, be, Nat.div_div_eq_div_mul, Nat.pow_succ, Nat.mul_comm 256]
    rfl
theorem be_mod (k n : Nat) : be k (n % 256 ^ k) = be k n := by
  have h := be_ofBe (be k n) (be_bytes k n)
  rw [be_len, ofBe_be] at h
  exact h
theorem be_lt (k a b : Nat) (hb : b < 256 ^ k) (h : a < b) : Lt0 (be k a) (be k b) := by
  induction k generalizing a b with
  | zero => simp at hb; omega
  | succ k ih =>
    rw [be_cons, be_cons]
    have hp : 0 < 256 ^ k := Nat.pow_pos (by omega)
    have h1 : b / 256 ^ k < 256 := by
      rw [Nat.div_lt_iff_lt_mul hp]
      rw [Nat.pow_succ, Nat.mul_comm] at hb; exact hb
    have h2 : a / 256 ^ k ≤ b / 256 ^ k := Nat.div_le_div_right (by omega)
    rw [Nat.mod_eq_of_lt h1, Nat.mod_eq_of_lt (by omega)]
    by_cases he : a / 256 ^ k = b / 256 ^ k
    · refine .inr ⟨by rw [he], ?_⟩
      rw [← be_mod k a, ← be_mod k b]
      refine ih _ _ (Nat.mod_lt _ hp) ?_
      have ea := Nat.div_add_mod a (256 ^ k)
      have eb := Nat.div_add_mod b (256 ^ k)
      rw [he] at ea
      omega
    · exact .inl (by omega)
/-- How many bytes a number needs. -/
def needs (m : Nat) : Nat := if h : m = 0 then 0 else 1 + needs (m / 256)
termination_by m
decreasing_by omega
theorem needs_lt (m : Nat) : m < 256 ^ needs m := by
  induction m using Nat.strongRecOn with
  | _ m ih =>
    rw [needs]
    split
    · omega
    · have := ih (m / 256) (by omega)
      rw [Nat.add_comm 1, Nat.pow_succ]
      omega
theorem needs_le (m k : Nat) (h : m < 256 ^ k) : needs m ≤ k := by
  induction k generalizing m with
  | zero => rw [needs, dif_pos (by simpa using h)]; omega
  | succ k ih =>
    rw [needs]
    split
    · omega
    · have := ih (m / 256) (by rw [Nat.pow_succ] at h; omega)
      omega
theorem needs_mono {a b : Nat} (h : a ≤ b) : needs a ≤ needs b := needs_le _ _ (Nat.lt_of_le_of_lt h (needs_lt b))
theorem needs_8 {m : Nat} (h : m < 2 ^ 63) : needs m ≤ 8 := needs_le m 8 (by omega)

/-- The number that a number's bytes are told of: -1 - z below 0. -/
def mag (z : Int) : Nat := if z < 0 then (-1 - z).toNat else z.toNat
/-- A number as 64 bits. -/
def two (z : Int) : Nat := (z % 2 ^ 64).toNat
/-- The first byte of a number. -/
def headN (z : Int) : Int := if z < 0 then 127 - needs (mag z) else 128 + needs (mag z)
/-- A number's bytes. -/
def numB (z : Int) : List Int := headN z :: be (needs (mag z)) (two z)
/-- Numbers of 64 bits. -/
def I64 (z : Int) : Prop := -9223372036854775808 ≤ z ∧ z ≤ 9223372036854775807
theorem mag_lt {z : Int} (h : I64 z) : mag z < 2 ^ 63 := by
  obtain ⟨h1, h2⟩ := h
  unfold mag
  split <;> omega
theorem needs_mag {z : Int} (h : I64 z) : needs (mag z) ≤ 8 := needs_8 (mag_lt h)
theorem headN_in {z : Int} (h : I64 z) : 119 ≤ headN z ∧ headN z ≤ 136 := by
  have := needs_mag h
  unfold headN
  split <;> omega
theorem pow_8 {k : Nat} (h : k ≤ 8) : (256 : Nat) ^ k ≤ 2 ^ 64 ∧ (256 : Nat) ^ k ∣ 2 ^ 64 := by
  have e : (2 : Nat) ^ 64 = 256 ^ 8 := rfl
  rw [e]
  exact ⟨Nat.pow_le_pow_right (by omega) h, Nat.pow_dvd_pow _ h⟩
/-- The low bytes of a number below 0. -/
theorem two_low {z : Int} (h : I64 z) {k : Nat} (hk : needs (mag z) ≤ k) (hk8 : k ≤ 8) (hz : z < 0) : two z % 256 ^ k = 256 ^ k - 1 - mag z := by
  obtain ⟨h1, h2⟩ := h
  have hm : mag z < 256 ^ k := Nat.lt_of_lt_of_le (needs_lt (mag z)) (Nat.pow_le_pow_right (by omega) hk)
  obtain ⟨p1, q, p2⟩ := pow_8 hk8
  have e : two z = 2 ^ 64 - 1 - mag z := by
    unfold two mag
    rw [if_pos hz]
    omega
  have hq : 0 < q := by
    rcases Nat.eq_zero_or_pos q with h | h
    · subst h; simp at p2
    · exact h
  have e2 : two z = (256 ^ k - 1 - mag z) + 256 ^ k * (q - 1) := by
    rw [e, p2, Nat.mul_sub, Nat.mul_one]
    have : 256 ^ k ≤ 256 ^ k * q := Nat.le_mul_of_pos_right _ hq
    omega
  rw [e2, Nat.add_mul_mod_self_left, Nat.mod_eq_of_lt (by omega)]
theorem two_nonneg {z : Int} (h : I64 z) (hz : ¬ z < 0) : two z = mag z := by
  obtain ⟨h1, h2⟩ := h
  unfold two mag
  rw [if_neg hz]
  omega
/-- Numbers are in their order. -/
theorem numB_lt {a b : Int} (ha : I64 a) (hb : I64 b) (h : a < b) : Lt0 (numB a) (numB b) := by
  have na := needs_mag ha
  have nb := needs_mag hb
  unfold numB
  by_cases h1 : a < 0
  · by_cases h2 : b < 0
    · have hm : mag b < mag a := by unfold mag; rw [if_pos h1, if_pos h2]; omega
      have hle := needs_mono (Nat.le_of_lt hm)
      by_cases he : needs (mag a) = needs (mag b)
      · refine .inr ⟨by unfold headN; rw [if_pos h1, if_pos h2, he], ?_⟩
        have ea := two_low ha (Nat.le_refl _) na h1
        have eb := two_low hb (Nat.le_refl _) nb h2
        rw [← be_mod _ (two a), ← be_mod _ (two b), ea, eb, he]
        have := needs_lt (mag b)
        have hma := needs_lt (mag a)
        rw [he] at hma
        exact be_lt _ _ _ (by omega) (by omega)
      · exact .inl (by unfold headN; rw [if_pos h1, if_pos h2]; omega)
    · exact .inl (by unfold headN; rw [if_pos h1, if_neg h2]; omega)
  · have h2 : ¬ b < 0 := by omega
    have hm : mag a < mag b := by unfold mag; rw [if_neg h1, if_neg h2]; omega
    have hle := needs_mono (Nat.le_of_lt hm)
    by_cases he : needs (mag a) = needs (mag b)
    · refine .inr ⟨by unfold headN; rw [if_neg h1, if_neg h2, he], ?_⟩
      rw [two_nonneg ha h1, two_nonneg hb h2, he]
      exact be_lt _ _ _ (needs_lt _) hm
    · exact .inl (by unfold headN; rw [if_neg h1, if_neg h2]; omega)
theorem numB_bytes {z : Int} (h : I64 z) : IsBytes (numB z) := by
  intro c hc
  rcases List.mem_cons.1 hc with rfl | hc
  · have := headN_in h; omega
  · exact be_bytes _ _ c hc
theorem numB_len {z : Int} (h : I64 z) : (numB z).length ≤ 9 := by
  have := needs_mag h
  simp [numB, be_len]; omega
end Go.Proofs.Ytkhnhnaefmcngaa
