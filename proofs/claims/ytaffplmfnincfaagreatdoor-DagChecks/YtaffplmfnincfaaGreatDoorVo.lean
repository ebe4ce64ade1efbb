/- Values: the contracts of ofKind, twos, ones. -/
import Derived.Test.YtaffplmfnincfaaGreatDoorVkVn
namespace Go.Proofs.YtaffplmfnincfaaGreatDoor
set_option linter.unusedVariables false
open Go.RowKit Go.MapKept
/-- A function of one operand. -/
def IsOne (w : World) (f : Value) (φ : Vl → Vl) : Prop :=
  (f = .func (.func 216) #[] #[] ∧ φ = negV) ∨ (f = .func (.func 217) #[] #[] ∧ φ = absV) ∨ (f = .func (.func 218) #[] #[] ∧ φ = floorV) ∨ (f = .func (.func 219) #[] #[] ∧ φ = notV) ∨
  ∃ p, f = .func (.func 252) #[] #[.pointer (some ⟨p, 0, none⟩)] ∧ ∀ W, CellsKept w W → ∀ a, Calls Tryz.prog 252 #[vlV a, .pointer (some ⟨p, 0, none⟩)] W fun e w' => e = .returned (vlV (φ a)) ∧ Below W.heap.size W w'
/-- twos' entries. -/
def twosL : List (ByteArray × (Vl → Vl → Vl)) := [(⟨#[43]⟩, addV), (⟨#[45]⟩, subV), (⟨#[42]⟩, mulV), (⟨#[47]⟩, divV), (⟨#[61, 61]⟩, eqV), (⟨#[33, 61]⟩, neV), (⟨#[60]⟩, ltV), (⟨#[60, 61]⟩, leV), (⟨#[62]⟩, gtV), (⟨#[62, 61]⟩, geV), (⟨#[38, 38]⟩, andV), (⟨#[124, 124]⟩, orV)]
/-- ones' entries. -/
def onesL : List (ByteArray × (Vl → Vl)) := [(⟨#[45]⟩, negV), (⟨#[97, 98, 115]⟩, absV), (⟨#[102, 108, 111, 111, 114]⟩, floorV), (⟨#[33]⟩, notV), (⟨#[105, 115, 95, 110, 117, 108, 108]⟩, fun a => tru ([2].contains a.kind)), (⟨#[105, 115, 95, 110, 97, 110]⟩, fun a => tru ([3].contains a.kind)), (⟨#[105, 115, 95, 105, 110, 102]⟩, fun a => tru ([4, 5].contains a.kind)), (⟨#[105, 115, 95, 110, 117, 109, 98, 101, 114]⟩, fun a => tru ([1].contains a.kind))]
end Go.Proofs.YtaffplmfnincfaaGreatDoor
