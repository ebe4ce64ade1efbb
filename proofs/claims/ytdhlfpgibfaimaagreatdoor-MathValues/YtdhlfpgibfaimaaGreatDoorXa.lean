/- Which errors there are; what a token takes; value.Parse's texts: mathematics. -/
import Derived.Test.YtdhlfpgibfaimaaGreatDoorQf
import Derived.Test.YtdhlfpgibfaimaaGreatDoorQmQq
namespace Go.Proofs.YtdhlfpgibfaimaaGreatDoor
set_option linter.unusedVariables false
theorem go_err (par : ByteArray → Option Vl) (s : ByteArray) : ∀ (F : Nat) (J : Job) (e : Int) (j : Nat), go par s F J = some (.error e, j) → e = 110 ∨ e = 111 := by
  intro F
  induction F with
  | zero => intro J e j h; cases J <;> simp [go] at h
  | succ F ih =>
    intro J e j h
    cases J <;> rw [go] at h <;> (repeat' split at h) <;> first
      | exact ih _ _ _ h
      | (cases h; exact .inl rfl)
      | (cases h; exact .inr rfl)
      | (cases h; exact ih _ _ _ (by assumption))
      | cases h
theorem ErrT.in {s : ByteArray} {er : Int} {j : Nat} (h : ErrT s er j) : er = 1 ∨ er = 110 ∨ er = 111 := by
  rcases h with ⟨_, h, _⟩ | ⟨F, h⟩ | ⟨_, _, _, h⟩
  · exact .inl h
  · exact .inr (go_err parC s F _ er j h)
  · exact .inr (.inl h)
end Go.Proofs.YtdhlfpgibfaimaaGreatDoor

