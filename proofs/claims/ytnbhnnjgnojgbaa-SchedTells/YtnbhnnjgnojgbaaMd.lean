/- slices.symMergeCmpFunc 31, whole. -/
import Derived.Test.YtnbhnnjgnojgbaaMb
namespace Go.Proofs.Ytnbhnnjgnojgbaa
set_option linter.unusedVariables false
open Go.RowKit
def midS (a b : Nat) : Nat := (a + b) / 2
/-- Where the two halves are parted. -/
def stS (D : List Jb) (a m b : Nat) : Nat :=
  if midS a b < m then lowS (fun c => !decide (cmpJ (D.getD (midS a b + m - 1 - c) jb0) (D.getD c jb0) < 0)) (midS a b - (midS a b + m - b)) (midS a b + m - b) (midS a b)
  else lowS (fun c => !decide (cmpJ (D.getD (midS a b + m - 1 - c) jb0) (D.getD c jb0) < 0)) (m - a) a m
def symF : Nat → List Jb → Nat → Nat → Nat → List Jb
  | 0, D, a, m, b => D
  | f + 1, D, a, m, b =>
    if m = a + 1 then shU (loA D a m b - 1 - a) D a
    else if b = m + 1 then shD (m - loB D a m) D m
    else
      let st := stS D a m b
      let en := midS a b + m - st
      let D1 := if st < m ∧ m < en then rotD D st m en else D
      let D2 := if a < st ∧ st < midS a b then symF f D1 a st (midS a b) else D1
      if midS a b < en ∧ en < b then symF f D2 (midS a b) en b else D2
theorem symF_len : ∀ (f : Nat) (D : List Jb) (a m b : Nat), (symF f D a m b).length = D.length
  | 0, D, a, m, b => rfl
  | f + 1, D, a, m, b => by
    unfold symF
    split
    · exact shU_len _ _ _
    · split
      · exact shD_len _ _ _
      · simp only
        have h1 : ∀ E : List Jb, (if stS D a m b < m ∧ m < midS a b + m - stS D a m b then rotD D (stS D a m b) m (midS a b + m - stS D a m b) else D).length = D.length := fun _ => by split; exact rotD_len _ _ _ _; rfl
        split
        · rw [symF_len f]
          split
          · rw [symF_len f]; exact h1 []
          · exact h1 []
        · split
          · rw [symF_len f]; exact h1 []
          · exact h1 []
theorem stS_in {D : List Jb} {a m b : Nat} (h1 : a < m) (h2 : m < b) : (midS a b < m → midS a b + m - b ≤ stS D a m b ∧ stS D a m b ≤ midS a b) ∧ (¬ midS a b < m → a ≤ stS D a m b ∧ stS D a m b ≤ m) := by
  unfold stS
  constructor
  · intro h
    rw [if_pos h]
    exact lowS_in _ _ _ _ (by unfold midS at *; omega)
  · intro h
    rw [if_neg h]
    exact lowS_in _ _ _ _ (by omega)
/-- What the recursion asks: the same of smaller parts. -/
def SymIH (f c g S base N : Nat) : Prop := ∀ (E : List Jb) (p q r : Nat) (W : World), RowJ W g S E → base ≤ W.heap.size → E.length = N → p < q → q < r → r ≤ N → r - p ≤ f → Calls Try.prog 31 #[.slice (some ⟨g, 0, none⟩) N c, .int .i64 p, .int .i64 q, .int .i64 r, .func (.func 22) #[] #[]] W fun e w' => SrtQ base g S W (symF f E p q r) e w'
end Go.Proofs.Ytnbhnnjgnojgbaa
