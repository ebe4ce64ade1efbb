/- Vm; Vt. -/
import GoSem.Op.String
/- Values of series: the mathematics of P8.1 to P8.4 and P8.6 (kinds, operations, their laws). It speaks of no program: the namespace is renamed for a seat. -/
namespace Go.Proofs.YtaffplmfnincfaaGreatDoor
/-- A value: its Kind, its N. -/
structure Vl where
  kind : Int
  n : Int
deriving DecidableEq, Inhabited
/-- MaxNum. -/
abbrev top : Int := 1000000000000000
/-- It is a value (P8.2). -/
def IsV (v : Vl) : Prop := (v.kind = 1 ∧ -1000000000000000 ≤ v.n ∧ v.n ≤ 1000000000000000) ∨ (2 ≤ v.kind ∧ v.kind ≤ 5 ∧ v.n = 0)
instance (v : Vl) : Decidable (IsV v) := by unfold IsV; infer_instance
def nul : Vl := ⟨2, 0⟩
def nan : Vl := ⟨3, 0⟩
def pls : Vl := ⟨4, 0⟩
def mns : Vl := ⟨5, 0⟩
def zer : Vl := ⟨0, 0⟩
/-- Num. -/
def num (n : Int) : Vl := if 1000000000000000 < n then pls else if n < -1000000000000000 then mns else ⟨1, n⟩
/-- Truth. -/
def tru (b : Bool) : Vl := ⟨1, if b then 1000 else 0⟩
/-- True. -/
def truB (v : Vl) : Bool := (v.kind == 1 && v.n != 0) || v.kind == 3 || v.kind == 4 || v.kind == 5
/-- Of a sign: what is beyond numbers. -/
def byd (s : Int) : Vl := if 0 < s then pls else if s < 0 then mns else nan
/-- Turned round (numbers, Plus, Minus, NaN, null). -/
def neg (v : Vl) : Vl := if v.kind = 4 then mns else if v.kind = 5 then pls else ⟨v.kind, -v.n⟩
/-- The sign of a value that is a number, Plus or Minus. -/
def sgn (v : Vl) : Int := if v.kind = 4 ∨ 0 < v.n then 1 else if v.kind = 5 ∨ v.n < 0 then -1 else 0
def add (a b : Vl) : Vl := if a.kind = 1 ∧ b.kind = 1 then num (a.n + b.n) else if a.kind = 1 then b else if b.kind = 1 ∨ a = b then a else nan
def mul (a b : Vl) : Vl := if a.kind = 1 ∧ b.kind = 1 then num (Int.tdiv (a.n * b.n) 1000) else byd (sgn a * sgn b)
def dvd (a b : Vl) : Vl :=
  if a.kind = 1 ∧ b.kind = 1 then (if b.n = 0 then byd (sgn a) else num (Int.tdiv (a.n * 1000) b.n))
  else if a.kind = 1 then ⟨1, 0⟩ else if b.kind = 1 then (if b.n < 0 then neg a else a) else nan
/-- Less, of what is neither null nor NaN. -/
def lessB (a b : Vl) : Bool := if a.kind = 1 ∧ b.kind = 1 then decide (a.n < b.n) else if a.kind = b.kind then false else decide (a.kind = 5 ∨ b.kind = 4)
/-- One of both is NaN. -/
def noB (a b : Vl) : Bool := a.kind == 3 || b.kind == 3
/-- Two operands, ahead of all: null. -/
def nulls (a b : Vl) (v : Vl) : Vl := if a.kind = 2 ∨ b.kind = 2 then nul else v
def nans (a b : Vl) (v : Vl) : Vl := nulls a b (if a.kind = 3 ∨ b.kind = 3 then nan else v)
def addV (a b : Vl) : Vl := nans a b (add a b)
def subV (a b : Vl) : Vl := nans a b (add a (neg b))
def mulV (a b : Vl) : Vl := nans a b (mul a b)
def divV (a b : Vl) : Vl := nans a b (dvd a b)
def eqV (a b : Vl) : Vl := nulls a b (tru (!noB a b && decide (a = b)))
def neV (a b : Vl) : Vl := nulls a b (tru (noB a b || decide (a ≠ b)))
def ltV (a b : Vl) : Vl := nulls a b (tru (!noB a b && lessB a b))
def leV (a b : Vl) : Vl := nulls a b (tru (!noB a b && !lessB b a))
def gtV (a b : Vl) : Vl := nulls a b (tru (!noB a b && lessB b a))
def geV (a b : Vl) : Vl := nulls a b (tru (!noB a b && !lessB a b))
def andV (a b : Vl) : Vl := nulls a b (tru (truB a && truB b))
def orV (a b : Vl) : Vl := nulls a b (tru (truB a || truB b))
def negV (a : Vl) : Vl := neg a
def absV (a : Vl) : Vl := if sgn a < 0 then neg a else a
def floorV (a : Vl) : Vl := if a.kind = 1 then ⟨1, a.n - a.n % 1000⟩ else a
def notV (a : Vl) : Vl := if a.kind = 2 then a else tru (!truB a)
/-- The operations of two operands; none: there is no such one. -/
def two (op : ByteArray) (a b : Vl) : Option Vl :=
  if op = ⟨#[43]⟩ then some (addV a b) else if op = ⟨#[45]⟩ then some (subV a b) else if op = ⟨#[42]⟩ then some (mulV a b) else if op = ⟨#[47]⟩ then some (divV a b)
  else if op = ⟨#[61, 61]⟩ then some (eqV a b) else if op = ⟨#[33, 61]⟩ then some (neV a b) else if op = ⟨#[60]⟩ then some (ltV a b) else if op = ⟨#[60, 61]⟩ then some (leV a b)
  else if op = ⟨#[62]⟩ then some (gtV a b) else if op = ⟨#[62, 61]⟩ then some (geV a b) else if op = ⟨#[38, 38]⟩ then some (andV a b) else if op = ⟨#[124, 124]⟩ then some (orV a b) else none
/-- The operations of one operand. -/
def one (op : ByteArray) (a : Vl) : Option Vl :=
  if op = ⟨#[45]⟩ then some (negV a) else if op = ⟨#[97, 98, 115]⟩ then some (absV a) else if op = ⟨#[102, 108, 111, 111, 114]⟩ then some (floorV a) else if op = ⟨#[33]⟩ then some (notV a)
  else if op = ⟨#[105, 115, 95, 110, 117, 108, 108]⟩ then some (tru (a.kind == 2)) else if op = ⟨#[105, 115, 95, 110, 97, 110]⟩ then some (tru (a.kind == 3))
  else if op = ⟨#[105, 115, 95, 105, 110, 102]⟩ then some (tru (a.kind == 4 || a.kind == 5)) else if op = ⟨#[105, 115, 95, 110, 117, 109, 98, 101, 114]⟩ then some (tru (a.kind == 1)) else none
/-- Check's error. -/
def chkE (l : List Vl) : Int := if ∀ v ∈ l, IsV v then 0 else 80
/-- What the operation tells, if the operands are values. -/
def ops (op : ByteArray) (l : List Vl) : Option Vl := match l with
  | [a] => one op a
  | [a, b] => two op a b
  | _ => none
/-- Do: the value, the error. -/
def doV (op : ByteArray) (l : List Vl) : Vl := if chkE l = 0 then (ops op l).getD zer else zer
def doE (op : ByteArray) (l : List Vl) : Int := if chkE l = 0 then (if (ops op l).isSome then 0 else 2) else 80

theorem IsV.cases {v : Vl} (h : IsV v) : (∃ n, v = ⟨1, n⟩ ∧ -1000000000000000 ≤ n ∧ n ≤ 1000000000000000) ∨ v = nul ∨ v = nan ∨ v = pls ∨ v = mns := by
  obtain ⟨k, n⟩ := v
  rcases h with ⟨h1, h2, h3⟩ | ⟨h1, h2, h3⟩
  · exact .inl ⟨n, by simp at h1; rw [h1], h2, h3⟩
  · simp at h1 h2 h3
    subst h3
    have : k = 2 ∨ k = 3 ∨ k = 4 ∨ k = 5 := by omega
    rcases this with rfl | rfl | rfl | rfl <;> simp [nul, nan, pls, mns]
theorem num_isV (n : Int) : IsV (num n) := by
  unfold num
  split
  · exact .inr (by simp [pls])
  · split
    · exact .inr (by simp [mns])
    · exact .inl ⟨rfl, by simp; omega, by simp; omega⟩
theorem num_in {n : Int} (h1 : -1000000000000000 ≤ n) (h2 : n ≤ 1000000000000000) : num n = ⟨1, n⟩ := by
  unfold num; rw [if_neg (by omega), if_neg (by omega)]
theorem nul_isV : IsV nul := .inr (by simp [nul])
theorem nan_isV : IsV nan := .inr (by simp [nan])
theorem pls_isV : IsV pls := .inr (by simp [pls])
theorem mns_isV : IsV mns := .inr (by simp [mns])
/-! ### Do at values -/
/-! ### P8.6 -/
/-- Where a value lies in the order. -/
def place (v : Vl) : Int := if v.kind = 4 then 1000000000000001 else if v.kind = 5 then -1000000000000001 else v.n
/-- Neither null nor NaN. -/
def Ordy (v : Vl) : Prop := v.kind ≠ 2 ∧ v.kind ≠ 3
/-! ### Truths -/
/-! ### Signs -/
/-! ### A product, by halves -/
end Go.Proofs.YtaffplmfnincfaaGreatDoor
/- Values' texts: the mathematics of P8.5 (texts as lists of bytes; no two values have one text; the document's way to read one). It speaks of no program. -/
namespace Go.Proofs.YtaffplmfnincfaaGreatDoor
/-- A number's decimal digits. -/
def dec (n : Nat) : List Int := if _h : n < 10 then [48 + (n : Int)] else dec (n / 10) ++ [48 + ((n % 10 : Nat) : Int)]
decreasing_by omega
theorem dec_lt {n : Nat} (h : n < 10) : dec n = [48 + (n : Int)] := by rw [dec, dif_pos h]
theorem dec_ge {n : Nat} (h : 10 ≤ n) : dec n = dec (n / 10) ++ [48 + ((n % 10 : Nat) : Int)] := by rw [dec, dif_neg (by omega)]
/-- What digits say, behind what was said. -/
def undF (a : Int) (l : List Int) : Int := l.foldl (fun a c => 10 * a + (c - 48)) a
theorem undF_append (a : Int) (l m : List Int) : undF a (l ++ m) = undF (undF a l) m := by simp [undF]
theorem undF_one (a c : Int) : undF a [c] = 10 * a + (c - 48) := rfl
theorem und_dec (n : Nat) : undF 0 (dec n) = n := by
  induction n using Nat.strongRecOn with
  | _ n ih =>
    by_cases h : n < 10
    · rw [dec_lt h, undF_one]; omega
    · rw [dec_ge (by omega), undF_append, ih (n / 10) (by omega), undF_one]; omega
/-- Digits alone. -/
def Digs (l : List Int) : Prop := ∀ c ∈ l, 48 ≤ c ∧ c ≤ 57
theorem Digs.append {l m : List Int} (h : Digs l) (g : Digs m) : Digs (l ++ m) := fun c hc => by
  rcases List.mem_append.1 hc with h1 | h1
  · exact h c h1
  · exact g c h1
theorem dec_digs (n : Nat) : Digs (dec n) := by
  induction n using Nat.strongRecOn with
  | _ n ih =>
    by_cases h : n < 10
    · rw [dec_lt h]; intro c hc; rw [List.mem_singleton.1 hc]; omega
    · rw [dec_ge (by omega)]
      exact (ih (n / 10) (by omega)).append (fun c hc => by rw [List.mem_singleton.1 hc]; omega)
theorem dec_ne (n : Nat) : dec n ≠ [] := by
  by_cases h : n < 10
  · rw [dec_lt h]; simp
  · rw [dec_ge (by omega)]; simp
theorem dec_head (n : Nat) : ∃ c r, dec n = c :: r ∧ 48 ≤ c ∧ c ≤ 57 := by
  have h := dec_digs n
  cases e : dec n with
  | nil => exact absurd e (dec_ne n)
  | cons c r => exact ⟨c, r, rfl, h c (by rw [e]; simp)⟩
theorem dec_len (k : Nat) : ∀ n, n < 10 ^ (k + 1) → (dec n).length ≤ k + 1 := by
  induction k with
  | zero => intro n h; rw [dec_lt (by simpa using h)]; simp
  | succ k ih =>
    intro n h
    by_cases h2 : n < 10
    · rw [dec_lt h2]; simp
    · rw [dec_ge (by omega)]
      have := ih (n / 10) (by rw [Nat.pow_succ] at h; omega)
      simp; omega
/-- What is left of a thousand, without 0s at the end. -/
def frac (r : Nat) : List Int :=
  if r % 100 = 0 then [48 + ((r / 100 : Nat) : Int)] else if r % 10 = 0 then [48 + ((r / 100 : Nat) : Int), 48 + ((r / 10 % 10 : Nat) : Int)]
  else [48 + ((r / 100 : Nat) : Int), 48 + ((r / 10 % 10 : Nat) : Int), 48 + ((r % 10 : Nat) : Int)]
def digs3 (r : Nat) : List Int := [48 + ((r / 100 : Nat) : Int), 48 + ((r / 10 % 10 : Nat) : Int), 48 + ((r % 10 : Nat) : Int)]
theorem dec_three {r : Nat} (h : r < 1000) : dec (1000 + r) = 49 :: digs3 r := by
  rw [dec_ge (by omega), dec_ge (by omega), dec_ge (by omega), dec_lt (by omega)]
  simp only [digs3, List.cons_append, List.nil_append]
  congr 1
  · omega
  · congr 1
    · omega
    · congr 1
      · omega
      · congr 1; omega
theorem frac_digs {r : Nat} (h : r < 1000) : Digs (frac r) := by
  unfold frac
  intro c hc
  split at hc
  · simp at hc; omega
  · split at hc
    · simp at hc; omega
    · simp at hc; omega
theorem frac_len (r : Nat) : 1 ≤ (frac r).length ∧ (frac r).length ≤ 3 := by
  unfold frac; split
  · simp
  · split <;> simp
theorem frac_val (r : Nat) (a : Int) : undF a (frac r) * 10 ^ (3 - (frac r).length) = a * 1000 + (r : Int) % 1000 ∨ 1000 ≤ r := by
  by_cases h : 1000 ≤ r
  · exact .inr h
  · left
    unfold frac
    split
    · simp [undF]; omega
    · split
      · simp [undF]; omega
      · simp [undF]; omega
def tail (r : Nat) : List Int := if r = 0 then [] else 46 :: frac r
/-- The text of a number of thousandths that is not below 0. -/
def txtN (n : Nat) : List Int := dec (n / 1000) ++ tail (n % 1000)
/-- A value's text. -/
def txt (v : Vl) : List Int :=
  if v.kind = 1 then (if v.n < 0 then 45 :: txtN v.n.natAbs else txtN v.n.natAbs)
  else if v.kind = 2 then [110, 117, 108, 108] else if v.kind = 3 then [78, 97, 78] else if v.kind = 4 then [43, 73, 110, 102] else [45, 73, 110, 102]
/-- Digits, and then nothing, or a point. -/
theorem digs_split : ∀ {x y p q : List Int}, Digs x → Digs y → (p = [] ∨ ∃ r, p = 46 :: r) → (q = [] ∨ ∃ r, q = 46 :: r) → x ++ p = y ++ q → x = y ∧ p = q
  | [], [], _, _, _, _, _, _, h => ⟨rfl, h⟩
  | [], c :: y, p, q, _, hy, hp, _, h => by
    have hc := hy c (by simp)
    rcases hp with rfl | ⟨r, rfl⟩
    · simp at h
    · simp at h; omega
  | c :: x, [], p, q, hx, _, _, hq, h => by
    have hc := hx c (by simp)
    rcases hq with rfl | ⟨r, rfl⟩
    · simp at h
    · simp at h; omega
  | c :: x, d :: y, p, q, hx, hy, hp, hq, h => by
    simp only [List.cons_append, List.cons.injEq] at h
    obtain ⟨h1, h2⟩ := digs_split (fun e he => hx e (by simp [he])) (fun e he => hy e (by simp [he])) hp hq h.2
    exact ⟨by rw [h.1, h1], h2⟩
theorem tail_form (r : Nat) : tail r = [] ∨ ∃ t, tail r = 46 :: t := by
  unfold tail; split
  · exact .inl rfl
  · exact .inr ⟨_, rfl⟩
theorem frac_inj {r s : Nat} (hr : r < 1000) (hs : s < 1000) (h : frac r = frac s) : r = s := by
  have h1 := (frac_val r 0).resolve_right (by omega)
  have h2 := (frac_val s 0).resolve_right (by omega)
  rw [h, h2] at h1
  omega
theorem tail_inj {r s : Nat} (hr : r < 1000) (hs : s < 1000) (h : tail r = tail s) : r = s := by
  unfold tail at h
  split at h <;> split at h
  · omega
  · cases h
  · cases h
  · exact frac_inj hr hs (by simpa using h)
theorem txtN_inj {n m : Nat} (h : txtN n = txtN m) : n = m := by
  obtain ⟨h1, h2⟩ := digs_split (dec_digs _) (dec_digs _) (tail_form _) (tail_form _) h
  have h3 := congrArg (undF 0) h1
  rw [und_dec, und_dec] at h3
  have h4 := tail_inj (by omega) (by omega) h2
  omega
theorem txtN_head (n : Nat) : ∃ c r, txtN n = c :: r ∧ 48 ≤ c ∧ c ≤ 57 := by
  obtain ⟨c, r, e, h⟩ := dec_head (n / 1000)
  exact ⟨c, r ++ tail (n % 1000), by rw [txtN, e]; rfl, h⟩
theorem txt_inj {u v : Vl} (hu : IsV u) (hv : IsV v) (h : txt u = txt v) : u = v := by
  have key : ∀ (n : Int) (w : Vl), w = nul ∨ w = nan ∨ w = pls ∨ w = mns → txt ⟨1, n⟩ ≠ txt w := by
    intro n w hw e
    obtain ⟨c, r, e1, h1, h2⟩ := txtN_head n.natAbs
    by_cases hn : n < 0
    · rcases hw with rfl | rfl | rfl | rfl <;> simp [txt, hn, e1, nul, nan, pls, mns] at e
      omega
    · rcases hw with rfl | rfl | rfl | rfl <;> simp [txt, hn, e1, nul, nan, pls, mns] at e <;> omega
  rcases hu.cases with ⟨n, rfl, h1, h2⟩ | hu1 <;> rcases hv.cases with ⟨m, rfl, h3, h4⟩ | hv1
  · obtain ⟨c, r, e1, h5, h6⟩ := txtN_head n.natAbs
    obtain ⟨d, s, e2, h7, h8⟩ := txtN_head m.natAbs
    by_cases hn : n < 0 <;> by_cases hm : m < 0
    · simp only [txt, hn, hm, if_true, List.cons.injEq, true_and] at h
      have := txtN_inj h
      congr 1; omega
    · simp [txt, hn, hm, e2] at h; omega
    · simp [txt, hn, hm, e1] at h; omega
    · simp only [txt, hn, hm, if_true, if_false] at h
      have := txtN_inj h
      congr 1; omega
  · exact absurd h (key n v hv1)
  · exact absurd h.symm (key m u hu1)
  · rcases hu1 with rfl | rfl | rfl | rfl <;> rcases hv1 with rfl | rfl | rfl | rfl <;> first | rfl | (simp [txt, nul, nan, pls, mns] at h)
theorem txt_len {v : Vl} (h : IsV v) : (txt v).length ≤ 18 := by
  have key : ∀ n : Nat, n ≤ 1000000000000000 → (txtN n).length ≤ 17 := by
    intro n hn
    have h1 := dec_len 12 (n / 1000) (by omega)
    have h2 : (tail (n % 1000)).length ≤ 4 := by
      unfold tail; split
      · simp
      · have := (frac_len (n % 1000)).2; simp; omega
    rw [txtN, List.length_append]; omega
  rcases h.cases with ⟨n, rfl, h1, h2⟩ | rfl | rfl | rfl | rfl
  · have := key n.natAbs (by omega)
    by_cases hn : n < 0 <;> simp [txt, hn] <;> omega
  all_goals simp [txt, nul, nan, pls, mns]

/-! ### The document's way to read a number -/
/-- One byte: the number so far, how many digits may follow behind the point (-1: no point yet). -/
def stp (i : Nat) (n left c : Int) : Option (Int × Int) :=
  if c = 45 ∧ i = 0 then some (n, left) else if c = 46 ∧ left < 0 then some (n, 3)
  else if 48 ≤ c ∧ c ≤ 57 ∧ left ≠ 0 ∧ n ≤ 1000000000000000 then some (10 * n + (c - 48), if 0 < left then left - 1 else left) else none
def runs : Nat → Int → Int → List Int → Option (Int × Int)
  | _, n, left, [] => some (n, left)
  | i, n, left, c :: l => match stp i n left c with
    | none => none
    | some (m, r) => runs (i + 1) m r l
theorem runs_append (x : List Int) : ∀ (i : Nat) (n left : Int) (y : List Int) (m r : Int), runs i n left x = some (m, r) → runs i n left (x ++ y) = runs (i + x.length) m r y := by
  induction x with
  | nil => intro i n left y m r h; simp [runs] at h; simp [h.1, h.2]
  | cons c l ih =>
    intro i n left y m r h
    simp only [runs, List.cons_append] at h ⊢
    cases e : stp i n left c with
    | none => rw [e] at h; cases h
    | some p =>
      obtain ⟨m1, r1⟩ := p
      rw [e] at h
      simp only at h ⊢
      rw [ih _ _ _ _ _ _ h]
      congr 1
      simp; omega
/-- Digits ahead of a point. -/
theorem runs_digs (x : List Int) : ∀ (i : Nat) (n : Int), Digs x → 0 ≤ n → undF n x ≤ 1000000000000000 → runs i n (-1) x = some (undF n x, -1) ∧ n ≤ undF n x := by
  induction x with
  | nil => intro i n _ _ _; exact ⟨rfl, Int.le_refl _⟩
  | cons c l ih =>
    intro i n h h0 hb
    have hc := h c (by simp)
    have hu : undF n (c :: l) = undF (10 * n + (c - 48)) l := rfl
    rw [hu] at hb ⊢
    have hl : Digs l := fun e he => h e (by simp [he])
    have key : ∀ (x : List Int) (a : Int), Digs x → 0 ≤ a → a ≤ undF a x := by
      intro x
      induction x with
      | nil => intro a _ _; exact Int.le_refl _
      | cons d l ih2 =>
        intro a hd ha
        have h1 := hd d (by simp)
        have := ih2 (10 * a + (d - 48)) (fun e he => hd e (by simp [he])) (by omega)
        have h2 : undF a (d :: l) = undF (10 * a + (d - 48)) l := rfl
        omega
    have h3 := key l (10 * n + (c - 48)) hl (by omega)
    have h4 := ih (i + 1) (10 * n + (c - 48)) hl (by omega) hb
    refine ⟨?_, by omega⟩
    rw [runs, stp, if_neg (by omega), if_neg (by omega), if_pos ⟨hc.1, hc.2, by omega, by omega⟩]
    exact h4.1
/-- What is left behind a value's text: the number, and the digits that may yet follow. -/
theorem runs_txtN (i : Nat) (n : Nat) (hn : n ≤ 1000000000000000) : ∃ m left : Int, runs i 0 (-1) (txtN n) = some (m, left) ∧ ((left = -1 ∧ m * 1000 = n) ∨ (left = 0 ∧ m = n) ∨ (left = 1 ∧ m * 10 = n) ∨ (left = 2 ∧ m * 100 = n)) := by
  have h1 := (runs_digs (dec (n / 1000)) i 0 (dec_digs _) (by omega) (by rw [und_dec]; omega)).1
  rw [und_dec] at h1
  by_cases h0 : n % 1000 = 0
  · refine ⟨((n / 1000 : Nat) : Int), -1, ?_, .inl ⟨rfl, ?_⟩⟩
    · rw [txtN, tail, if_pos h0, List.append_nil]; exact h1
    · omega
  · rw [txtN, runs_append _ _ _ _ _ _ _ h1, tail, if_neg h0]
    have hp : ∀ (j : Nat) (l : List Int), runs j ((n / 1000 : Nat) : Int) (-1) (46 :: l) = runs (j + 1) ((n / 1000 : Nat) : Int) 3 l := by
      intro j l
      rw [runs, stp, if_neg (by omega), if_pos (by omega)]
    rw [hp]
    have st : ∀ (j : Nat) (a left c : Int) (l : List Int), 48 ≤ c → c ≤ 57 → 0 < left → a ≤ 1000000000000000 → runs j a left (c :: l) = runs (j + 1) (10 * a + (c - 48)) (left - 1) l := by
      intro j a left c l h1 h2 h3 h4
      rw [runs, stp, if_neg (by omega), if_neg (by omega), if_pos ⟨h1, h2, by omega, h4⟩, if_pos h3]
    unfold frac
    split
    · rw [st _ _ _ _ _ (by omega) (by omega) (by omega) (by omega)]
      exact ⟨_, _, rfl, .inr (.inr (.inr ⟨rfl, by omega⟩))⟩
    · split
      · rw [st _ _ _ _ _ (by omega) (by omega) (by omega) (by omega), st _ _ _ _ _ (by omega) (by omega) (by omega) (by omega)]
        exact ⟨_, _, rfl, .inr (.inr (.inl ⟨rfl, by omega⟩))⟩
      · rw [st _ _ _ _ _ (by omega) (by omega) (by omega) (by omega), st _ _ _ _ _ (by omega) (by omega) (by omega) (by omega), st _ _ _ _ _ (by omega) (by omega) (by omega) (by omega)]
        exact ⟨_, _, rfl, .inr (.inl ⟨rfl, by omega⟩)⟩
theorem runs_txt {n : Int} (h1 : -1000000000000000 ≤ n) (h2 : n ≤ 1000000000000000) : ∃ m left : Int, runs 0 0 (-1) (txt ⟨1, n⟩) = some (m, left) ∧ ((left = -1 ∧ m * 1000 = n.natAbs) ∨ (left = 0 ∧ m = n.natAbs) ∨ (left = 1 ∧ m * 10 = n.natAbs) ∨ (left = 2 ∧ m * 100 = n.natAbs)) := by
  by_cases hn : n < 0
  · obtain ⟨m, left, h3, h4⟩ := runs_txtN 1 n.natAbs (by omega)
    refine ⟨m, left, ?_, h4⟩
    simp only [txt, hn, if_true]
    rw [runs, stp, if_pos (by omega)]
    exact h3
  · obtain ⟨m, left, h3, h4⟩ := runs_txtN 0 n.natAbs (by omega)
    refine ⟨m, left, ?_, h4⟩
    simp only [txt, hn, if_true, if_false]
    exact h3
end Go.Proofs.YtaffplmfnincfaaGreatDoor
