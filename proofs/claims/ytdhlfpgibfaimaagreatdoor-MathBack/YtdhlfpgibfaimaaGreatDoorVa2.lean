/- Do, operation by operation. -/
import Derived.Test.YtdhlfpgibfaimaaGreatDoorVpVw
namespace Go.Proofs.YtdhlfpgibfaimaaGreatDoor
set_option linter.unusedVariables false
theorem two_add (a b : Vl) : two ⟨#[43]⟩ a b = some (addV a b) := by simp [two]
theorem do_add {a b : Vl} (ha : IsV a) (hb : IsV b) : doV ⟨#[43]⟩ [a, b] = addV a b ∧ doE ⟨#[43]⟩ [a, b] = 0 := do_two ha hb (two_add a b)
theorem two_sub (a b : Vl) : two ⟨#[45]⟩ a b = some (subV a b) := by simp [two]
theorem do_sub {a b : Vl} (ha : IsV a) (hb : IsV b) : doV ⟨#[45]⟩ [a, b] = subV a b ∧ doE ⟨#[45]⟩ [a, b] = 0 := do_two ha hb (two_sub a b)
theorem two_mul (a b : Vl) : two ⟨#[42]⟩ a b = some (mulV a b) := by simp [two]
theorem do_mul {a b : Vl} (ha : IsV a) (hb : IsV b) : doV ⟨#[42]⟩ [a, b] = mulV a b ∧ doE ⟨#[42]⟩ [a, b] = 0 := do_two ha hb (two_mul a b)
theorem two_div (a b : Vl) : two ⟨#[47]⟩ a b = some (divV a b) := by simp [two]
theorem do_div {a b : Vl} (ha : IsV a) (hb : IsV b) : doV ⟨#[47]⟩ [a, b] = divV a b ∧ doE ⟨#[47]⟩ [a, b] = 0 := do_two ha hb (two_div a b)
theorem two_eq (a b : Vl) : two ⟨#[61, 61]⟩ a b = some (eqV a b) := by simp [two]
theorem do_eq {a b : Vl} (ha : IsV a) (hb : IsV b) : doV ⟨#[61, 61]⟩ [a, b] = eqV a b ∧ doE ⟨#[61, 61]⟩ [a, b] = 0 := do_two ha hb (two_eq a b)
theorem two_ne (a b : Vl) : two ⟨#[33, 61]⟩ a b = some (neV a b) := by simp [two]
theorem do_ne {a b : Vl} (ha : IsV a) (hb : IsV b) : doV ⟨#[33, 61]⟩ [a, b] = neV a b ∧ doE ⟨#[33, 61]⟩ [a, b] = 0 := do_two ha hb (two_ne a b)
theorem two_lt (a b : Vl) : two ⟨#[60]⟩ a b = some (ltV a b) := by simp [two]
theorem do_lt {a b : Vl} (ha : IsV a) (hb : IsV b) : doV ⟨#[60]⟩ [a, b] = ltV a b ∧ doE ⟨#[60]⟩ [a, b] = 0 := do_two ha hb (two_lt a b)
theorem two_le (a b : Vl) : two ⟨#[60, 61]⟩ a b = some (leV a b) := by simp [two]
theorem do_le {a b : Vl} (ha : IsV a) (hb : IsV b) : doV ⟨#[60, 61]⟩ [a, b] = leV a b ∧ doE ⟨#[60, 61]⟩ [a, b] = 0 := do_two ha hb (two_le a b)
theorem two_gt (a b : Vl) : two ⟨#[62]⟩ a b = some (gtV a b) := by simp [two]
theorem do_gt {a b : Vl} (ha : IsV a) (hb : IsV b) : doV ⟨#[62]⟩ [a, b] = gtV a b ∧ doE ⟨#[62]⟩ [a, b] = 0 := do_two ha hb (two_gt a b)
theorem two_ge (a b : Vl) : two ⟨#[62, 61]⟩ a b = some (geV a b) := by simp [two]
theorem do_ge {a b : Vl} (ha : IsV a) (hb : IsV b) : doV ⟨#[62, 61]⟩ [a, b] = geV a b ∧ doE ⟨#[62, 61]⟩ [a, b] = 0 := do_two ha hb (two_ge a b)
theorem two_and (a b : Vl) : two ⟨#[38, 38]⟩ a b = some (andV a b) := by simp [two]
theorem do_and {a b : Vl} (ha : IsV a) (hb : IsV b) : doV ⟨#[38, 38]⟩ [a, b] = andV a b ∧ doE ⟨#[38, 38]⟩ [a, b] = 0 := do_two ha hb (two_and a b)
theorem two_or (a b : Vl) : two ⟨#[124, 124]⟩ a b = some (orV a b) := by simp [two]
theorem do_or {a b : Vl} (ha : IsV a) (hb : IsV b) : doV ⟨#[124, 124]⟩ [a, b] = orV a b ∧ doE ⟨#[124, 124]⟩ [a, b] = 0 := do_two ha hb (two_or a b)
theorem one_neg (a : Vl) : one ⟨#[45]⟩ a = some (negV a) := by simp [one]
theorem do_neg {a : Vl} (ha : IsV a) : doV ⟨#[45]⟩ [a] = negV a ∧ doE ⟨#[45]⟩ [a] = 0 := do_one ha (one_neg a)
theorem one_abs (a : Vl) : one ⟨#[97, 98, 115]⟩ a = some (absV a) := by simp [one]
theorem do_abs {a : Vl} (ha : IsV a) : doV ⟨#[97, 98, 115]⟩ [a] = absV a ∧ doE ⟨#[97, 98, 115]⟩ [a] = 0 := do_one ha (one_abs a)
theorem one_floor (a : Vl) : one ⟨#[102, 108, 111, 111, 114]⟩ a = some (floorV a) := by simp [one]
theorem do_floor {a : Vl} (ha : IsV a) : doV ⟨#[102, 108, 111, 111, 114]⟩ [a] = floorV a ∧ doE ⟨#[102, 108, 111, 111, 114]⟩ [a] = 0 := do_one ha (one_floor a)
theorem one_not (a : Vl) : one ⟨#[33]⟩ a = some (notV a) := by simp [one]
theorem do_not {a : Vl} (ha : IsV a) : doV ⟨#[33]⟩ [a] = notV a ∧ doE ⟨#[33]⟩ [a] = 0 := do_one ha (one_not a)
end Go.Proofs.YtdhlfpgibfaimaaGreatDoor
