/- Do, operation by operation. -/
import Derived.Test.YtdhlfpgibfaimaaGreatDoorVpVw
namespace Go.Proofs.YtdhlfpgibfaimaaGreatDoor
set_option linter.unusedVariables false
theorem two_add (a b : Vl) : two ⟨#[43]⟩ a b = some (addV a b) := by simp [two]
theorem two_sub (a b : Vl) : two ⟨#[45]⟩ a b = some (subV a b) := by simp [two]
theorem two_mul (a b : Vl) : two ⟨#[42]⟩ a b = some (mulV a b) := by simp [two]
theorem two_div (a b : Vl) : two ⟨#[47]⟩ a b = some (divV a b) := by simp [two]
theorem two_eq (a b : Vl) : two ⟨#[61, 61]⟩ a b = some (eqV a b) := by simp [two]
theorem two_ne (a b : Vl) : two ⟨#[33, 61]⟩ a b = some (neV a b) := by simp [two]
theorem two_lt (a b : Vl) : two ⟨#[60]⟩ a b = some (ltV a b) := by simp [two]
theorem two_le (a b : Vl) : two ⟨#[60, 61]⟩ a b = some (leV a b) := by simp [two]
theorem two_gt (a b : Vl) : two ⟨#[62]⟩ a b = some (gtV a b) := by simp [two]
theorem two_ge (a b : Vl) : two ⟨#[62, 61]⟩ a b = some (geV a b) := by simp [two]
theorem two_and (a b : Vl) : two ⟨#[38, 38]⟩ a b = some (andV a b) := by simp [two]
theorem two_or (a b : Vl) : two ⟨#[124, 124]⟩ a b = some (orV a b) := by simp [two]
end Go.Proofs.YtdhlfpgibfaimaaGreatDoor

