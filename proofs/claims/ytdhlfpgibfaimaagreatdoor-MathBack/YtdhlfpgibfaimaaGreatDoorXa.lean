/- Which errors there are; what a token takes; value.Parse's texts: mathematics. -/
import Derived.Test.YtdhlfpgibfaimaaGreatDoorQf
import Derived.Test.YtdhlfpgibfaimaaGreatDoorQmQq
namespace Go.Proofs.YtdhlfpgibfaimaaGreatDoor
set_option linter.unusedVariables false
theorem go_err (par : ByteArray → Option Vl) (s : ByteArray) : ∀ (F : Nat) (J : Job) (e : Int) (j : Nat), go par s F J = some (.error e, j) → e = 110 ∨ e = 111 := by
  intro F
  induction F with
  | zero => intro J e j h; cases J <;> simp [go] at h
  | succ F ih =>
    intro J e j h
    cases J <;> rw [go] at h <;> (repeat' split at h) <;> first
      | exact ih _ _ _ h
      | (cases h; exact .inl rfl)
      | (cases h; exact .inr rfl)
      | (cases h; exact ih _ _ _ (by assumption))
      | cases h
theorem ErrT.in {s : ByteArray} {er : Int} {j : Nat} (h : ErrT s er j) : er = 1 ∨ er = 110 ∨ er = 111 := by
  rcases h with ⟨_, h, _⟩ | ⟨F, h⟩ | ⟨_, _, _, h⟩
  · exact .inl h
  · exact .inr (go_err parC s F _ er j h)
  · exact .inr (.inl h)
theorem parC_is : ∀ s v, parC s = some v → IsV v ∧ txtS v = s := fun s v h => by
  have h1 := List.find?_some h
  exact ⟨(parC_yes h).1, of_decide_eq_true h1⟩
theorem tk_pos : ∀ u, Says (tkL parC u) → (tkL parC u).size ≤ u.length ∧ u ≠ [] := fun u h => by
  refine ⟨?_, fun e => ?_⟩
  · have := tok_size (bB u)
    rw [tk_list, bB_size] at this
    exact this
  · subst e
    rcases h with h | h
    · cases h
    · exact h rfl
theorem back_print {s : ByteArray} {X : Ex} (h : Whole (par := parC) s X) : Whole (par := parC) (bB (prL X)) X ∨ DeepT (par := parC) (bB (prL X)) := Whole.print parC_is (h.toks.choose_spec.choose_spec.2.2.2.2.2)
theorem brk_is (s : ByteArray) : (⟨#[32, 40]⟩ ++ s ++ ⟨#[41, 32]⟩ : ByteArray) = bB (32 :: 40 :: (s.data.toList ++ [41, 32])) := by
  refine ba_ext ?_
  simp [bB]
theorem back_brackets {s : ByteArray} {X : Ex} (h : Whole (par := parC) s X) : Whole (par := parC) (⟨#[32, 40]⟩ ++ s ++ ⟨#[41, 32]⟩) X ∨ DeepT (par := parC) (⟨#[32, 40]⟩ ++ s ++ ⟨#[41, 32]⟩) := by
  rw [brk_is]
  exact h.brackets tk_pos
end Go.Proofs.YtdhlfpgibfaimaaGreatDoor
