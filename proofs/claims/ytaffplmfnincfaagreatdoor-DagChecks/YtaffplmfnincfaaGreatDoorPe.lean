/- The texts of DagCircle: their trees. -/
import Derived.Test.YtaffplmfnincfaaGreatDoorPc
namespace Go.Proofs.YtaffplmfnincfaaGreatDoor
set_option linter.unusedVariables false
open Go.RowKit
/-- The name at place i. -/
def nmK (i : Nat) : ByteArray := ⟨#[UInt8.ofNat (65 + i)]⟩
/-- The text of the node at place i. -/
def txK (i : Nat) : ByteArray := if i = 0 then ⟨#[49]⟩ else (⟨#[36]⟩ : ByteArray) ++ nmK (i - 1) ++ (⟨#[32, 43, 32, 49]⟩ : ByteArray)
/-- .. with one more. -/
def txT (i t : Nat) : ByteArray := txK i ++ (⟨#[32, 43, 32, 36]⟩ : ByteArray) ++ nmK t
def exK (i : Nat) : Ex := if i = 0 then exN ⟨1, 1000⟩ else exC ⟨#[43]⟩ [exR (nmK (i - 1)), exN ⟨1, 1000⟩]
def exT (i t : Nat) : Ex := exC ⟨#[43]⟩ [exK i, exR (nmK t)]
end Go.Proofs.YtaffplmfnincfaaGreatDoor
