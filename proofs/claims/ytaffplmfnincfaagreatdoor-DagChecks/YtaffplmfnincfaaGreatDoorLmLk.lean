/- Lm; Lk. -/
import GoSem.Op.String
/- Sets of labels: the mathematics of P9.1 to P9.9 (order, Make, keys, Compare, parts, Join). It speaks of no program. -/
namespace Go.Proofs.YtaffplmfnincfaaGreatDoor
/-- Numbers that are bytes. -/
def IsBytes (bs : List Int) : Prop := ∀ c ∈ bs, 0 ≤ c ∧ c < 256
/-- The order of lists of bytes: -1, 0, 1. -/
def cmpL : List Int → List Int → Int
  | [], [] => 0
  | [], _ :: _ => -1
  | _ :: _, [] => 1
  | a :: x, b :: y => if a < b then -1 else if b < a then 1 else cmpL x y
theorem cmpL_in : ∀ x y : List Int, cmpL x y = -1 ∨ cmpL x y = 0 ∨ cmpL x y = 1
  | [], [] => by simp [cmpL]
  | [], _ :: _ => by simp [cmpL]
  | _ :: _, [] => by simp [cmpL]
  | a :: x, b :: y => by
    unfold cmpL
    split
    · exact .inl rfl
    · split
      · exact .inr (.inr rfl)
      · exact cmpL_in x y
theorem cmpL_neg : ∀ x y : List Int, cmpL y x = - cmpL x y
  | [], [] => rfl
  | [], _ :: _ => rfl
  | _ :: _, [] => rfl
  | a :: x, b :: y => by
    unfold cmpL
    have ih := cmpL_neg x y
    split <;> split <;> first | omega | (split <;> omega) | skip
    all_goals (try (split <;> omega))
    all_goals omega
theorem cmpL_eq : ∀ {x y : List Int}, cmpL x y = 0 → x = y
  | [], [], _ => rfl
  | [], _ :: _, h => by simp [cmpL] at h
  | _ :: _, [], h => by simp [cmpL] at h
  | a :: x, b :: y, h => by
    unfold cmpL at h
    split at h
    · omega
    · split at h
      · omega
      · rw [cmpL_eq h, show a = b by omega]
theorem cmpL_self (x : List Int) : cmpL x x = 0 := by
  induction x with
  | nil => rfl
  | cons a x ih => simp [cmpL, ih]
/-- A string's bytes as numbers. -/
def numsS (s : ByteArray) : List Int := s.data.toList.map fun b => (b.toNat : Int)
theorem numsS_length (s : ByteArray) : (numsS s).length = s.size := by rw [numsS, List.length_map, Array.length_toList]; rfl
theorem numsS_bytes (s : ByteArray) : IsBytes (numsS s) := by
  intro c hc
  obtain ⟨b, _, rfl⟩ := List.mem_map.1 hc
  have := b.toNat_lt
  omega
theorem numsS_inj {s t : ByteArray} (h : numsS s = numsS t) : s = t := by
  have : s.data.toList = t.data.toList := by
    unfold numsS at h
    refine List.map_inj_right (f := fun b : UInt8 => (b.toNat : Int)) ?_ |>.1 h
    intro a b e
    exact UInt8.toNat_inj.1 (Int.ofNat.inj e)
  cases s; cases t
  simp at this
  rw [ByteArray.mk.injEq]
  exact Array.toList_inj.1 (by simpa using this)
theorem cmpL_trans : ∀ {x y z : List Int}, cmpL x y = -1 → cmpL y z = -1 → cmpL x z = -1
  | [], [], _, h, _ => by simp [cmpL] at h
  | _ :: _, [], _, h, _ => by simp [cmpL] at h
  | _, _ :: _, [], _, h => by simp [cmpL] at h
  | [], _ :: _, _ :: _, _, _ => by simp [cmpL]
  | a :: x, b :: y, c :: z, h, g => by
    simp only [cmpL] at h g ⊢
    by_cases h1 : a < b
    · by_cases h2 : b < c
      · rw [if_pos (by omega)]
      · rw [if_neg h2] at g
        by_cases h3 : c < b
        · rw [if_pos h3] at g; cases g
        · rw [if_pos (by omega)]
    · rw [if_neg h1] at h
      by_cases h2 : b < a
      · rw [if_pos h2] at h; cases h
      · rw [if_neg h2] at h
        by_cases h3 : b < c
        · rw [if_pos (by omega)]
        · rw [if_neg h3] at g
          by_cases h4 : c < b
          · rw [if_pos h4] at g; cases g
          · rw [if_neg h4] at g
            rw [if_neg (by omega), if_neg (by omega)]
            exact cmpL_trans h g
/-- A label. -/
structure Lb where
  name : ByteArray
  value : ByteArray
deriving DecidableEq
/-- Its name is ahead of another one's. -/
def Nlt (a b : Lb) : Prop := cmpL (numsS a.name) (numsS b.name) = -1
instance (a b : Lb) : Decidable (Nlt a b) := by unfold Nlt; infer_instance
/-- By rising names. -/
def Rise (l : List Lb) : Prop := l.Pairwise Nlt
/-! ### Make -/
/-- Of a byte: it may be in a name (at its beginning, or behind). -/
def nameC (first : Bool) (c : Int) : Bool := (97 ≤ c ∧ c ≤ 122) || (65 ≤ c ∧ c ≤ 90) || c = 95 || (!first && (48 ≤ c ∧ c ≤ 57))
/-- It is a name. -/
def IsName (s : ByteArray) : Prop := (1 ≤ s.size ∧ s.size ≤ 64) ∧ ∀ k (h : k < (numsS s).length), nameC (k == 0) ((numsS s)[k]) = true
/-- A label may be. -/
def IsLb (a : Lb) : Prop := IsName a.name ∧ 1 ≤ a.value.size ∧ a.value.size ≤ 128
/-- No two have one name. -/
def Apart (l : List Lb) : Prop := l.Pairwise fun a b => a.name ≠ b.name
/-- What Make tells. -/
def MkQ (l out : List Lb) (e : Int) : Prop :=
  ((∃ a ∈ l, ¬ IsLb a) ∧ e = 90 ∧ out = []) ∨ ((∀ a ∈ l, IsLb a) ∧ ¬ Apart l ∧ e = 8 ∧ out = []) ∨
  ((∀ a ∈ l, IsLb a) ∧ Apart l ∧ 16 < l.length ∧ e = 6 ∧ out = []) ∨ ((∀ a ∈ l, IsLb a) ∧ l.length ≤ 16 ∧ e = 0 ∧ Rise out ∧ out.Perm l)
/-- A set (P9.1). -/
def IsSet (l : List Lb) : Prop := (∀ a ∈ l, IsLb a) ∧ Rise l ∧ l.length ≤ 16
/-! ### Parts -/
/-- Get. -/
def getL (l : List Lb) (n : ByteArray) : ByteArray := match l.find? (fun a => decide (a.name = n)) with
  | some a => a.value
  | none => ⟨#[]⟩
/-- A name is among names. -/
def inB (names : List ByteArray) (s : ByteArray) : Bool := names.any fun n => decide (n = s)
def onlyL (l : List Lb) (names : List ByteArray) : List Lb := l.filter fun a => inB names a.name
def withoutL (l : List Lb) (names : List ByteArray) : List Lb := l.filter fun a => !inB names a.name
/-! ### Join -/
/-- A name has unlike values in both. -/
def Unlike (a b : List Lb) : Prop := ∃ x ∈ a, ∃ y ∈ b, x.name = y.name ∧ x.value ≠ y.value
/-- What Join tells: the labels of both, as a set. -/
def JoinQ (a b out : List Lb) (ok : Bool) : Prop :=
  (ok = true ∧ IsSet out ∧ ∀ x, x ∈ out ↔ x ∈ a ∨ x ∈ b) ∨ (ok = false ∧ out = [] ∧ ∀ c, ¬ (IsSet c ∧ ∀ x, x ∈ c ↔ x ∈ a ∨ x ∈ b))
end Go.Proofs.YtaffplmfnincfaaGreatDoor
/- Sets of labels: keys (P9.5, P9.8), Compare, With, matchers: the mathematics. -/
namespace Go.Proofs.YtaffplmfnincfaaGreatDoor
/-- A value's bytes, a sign ahead of each that wants one. -/
def esc : List Int → List Int
  | [] => []
  | c :: l => if c = 92 ∨ c = 34 then 92 :: c :: esc l else c :: esc l
/-- A label in a key. -/
def labK (a : Lb) : List Int := numsS a.name ++ [61, 34] ++ esc (numsS a.value) ++ [34]
/-- The labels behind the first one. -/
def restK : List Lb → List Int
  | [] => []
  | a :: l => 44 :: labK a ++ restK l
def bodyK : List Lb → List Int
  | [] => []
  | a :: l => labK a ++ restK l
/-- Key. -/
def keyL (l : List Lb) : List Int := 123 :: bodyK l ++ [125]
/-! ### Compare -/
/-- Of two labels. -/
def cmpB (a b : Lb) : Int := if cmpL (numsS a.name) (numsS b.name) = 0 then cmpL (numsS a.value) (numsS b.value) else cmpL (numsS a.name) (numsS b.name)
def cmpS : List Lb → List Lb → Int
  | [], [] => 0
  | [], _ :: _ => -1
  | _ :: _, [] => 1
  | a :: l, b :: m => if cmpB a b = 0 then cmpS l m else cmpB a b
/-! ### With -/
def namesL (l : List Lb) : List ByteArray := l.map (·.name)
/-- What With hands to Make. -/
def withL (l more : List Lb) : List Lb := more ++ withoutL l (namesL more)
end Go.Proofs.YtaffplmfnincfaaGreatDoor
