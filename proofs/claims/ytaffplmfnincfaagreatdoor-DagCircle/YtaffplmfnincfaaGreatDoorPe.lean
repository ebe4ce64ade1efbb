/- The texts of DagCircle: their trees. -/
import Derived.Test.YtaffplmfnincfaaGreatDoorPc
namespace Go.Proofs.YtaffplmfnincfaaGreatDoor
set_option linter.unusedVariables false
open Go.RowKit
/-- The name at place i. -/
def nmK (i : Nat) : ByteArray := ⟨#[UInt8.ofNat (65 + i)]⟩
/-- The text of the node at place i. -/
def txK (i : Nat) : ByteArray := if i = 0 then ⟨#[49]⟩ else (⟨#[36]⟩ : ByteArray) ++ nmK (i - 1) ++ (⟨#[32, 43, 32, 49]⟩ : ByteArray)
/-- .. with one more. -/
def txT (i t : Nat) : ByteArray := txK i ++ (⟨#[32, 43, 32, 36]⟩ : ByteArray) ++ nmK t
def exK (i : Nat) : Ex := if i = 0 then exN ⟨1, 1000⟩ else exC ⟨#[43]⟩ [exR (nmK (i - 1)), exN ⟨1, 1000⟩]
def exT (i t : Nat) : Ex := exC ⟨#[43]⟩ [exK i, exR (nmK t)]
theorem whK0 : Whole (par := parC) ⟨#[49]⟩ (exN ⟨1, 1000⟩) := ⟨1, ⟨60, by kernel_rfl⟩, by kernel_rfl⟩
theorem whK1 : Whole (par := parC) ⟨#[36, 65, 32, 43, 32, 49]⟩ (exC ⟨#[43]⟩ [exR ⟨#[65]⟩, exN ⟨1, 1000⟩]) := ⟨6, ⟨60, by kernel_rfl⟩, by kernel_rfl⟩
theorem whK2 : Whole (par := parC) ⟨#[36, 66, 32, 43, 32, 49]⟩ (exC ⟨#[43]⟩ [exR ⟨#[66]⟩, exN ⟨1, 1000⟩]) := ⟨6, ⟨60, by kernel_rfl⟩, by kernel_rfl⟩
theorem whK3 : Whole (par := parC) ⟨#[36, 67, 32, 43, 32, 49]⟩ (exC ⟨#[43]⟩ [exR ⟨#[67]⟩, exN ⟨1, 1000⟩]) := ⟨6, ⟨60, by kernel_rfl⟩, by kernel_rfl⟩
theorem whK4 : Whole (par := parC) ⟨#[36, 68, 32, 43, 32, 49]⟩ (exC ⟨#[43]⟩ [exR ⟨#[68]⟩, exN ⟨1, 1000⟩]) := ⟨6, ⟨60, by kernel_rfl⟩, by kernel_rfl⟩
theorem whK5 : Whole (par := parC) ⟨#[36, 69, 32, 43, 32, 49]⟩ (exC ⟨#[43]⟩ [exR ⟨#[69]⟩, exN ⟨1, 1000⟩]) := ⟨6, ⟨60, by kernel_rfl⟩, by kernel_rfl⟩
theorem whK6 : Whole (par := parC) ⟨#[36, 70, 32, 43, 32, 49]⟩ (exC ⟨#[43]⟩ [exR ⟨#[70]⟩, exN ⟨1, 1000⟩]) := ⟨6, ⟨60, by kernel_rfl⟩, by kernel_rfl⟩
theorem whK7 : Whole (par := parC) ⟨#[36, 71, 32, 43, 32, 49]⟩ (exC ⟨#[43]⟩ [exR ⟨#[71]⟩, exN ⟨1, 1000⟩]) := ⟨6, ⟨60, by kernel_rfl⟩, by kernel_rfl⟩
theorem whK8 : Whole (par := parC) ⟨#[36, 72, 32, 43, 32, 49]⟩ (exC ⟨#[43]⟩ [exR ⟨#[72]⟩, exN ⟨1, 1000⟩]) := ⟨6, ⟨60, by kernel_rfl⟩, by kernel_rfl⟩
theorem whK9 : Whole (par := parC) ⟨#[36, 73, 32, 43, 32, 49]⟩ (exC ⟨#[43]⟩ [exR ⟨#[73]⟩, exN ⟨1, 1000⟩]) := ⟨6, ⟨60, by kernel_rfl⟩, by kernel_rfl⟩
theorem whT00 : Whole (par := parC) ⟨#[49, 32, 43, 32, 36, 65]⟩ (exC ⟨#[43]⟩ [exN ⟨1, 1000⟩, exR ⟨#[65]⟩]) := ⟨6, ⟨60, by kernel_rfl⟩, by kernel_rfl⟩
theorem whT01 : Whole (par := parC) ⟨#[49, 32, 43, 32, 36, 66]⟩ (exC ⟨#[43]⟩ [exN ⟨1, 1000⟩, exR ⟨#[66]⟩]) := ⟨6, ⟨60, by kernel_rfl⟩, by kernel_rfl⟩
theorem whT02 : Whole (par := parC) ⟨#[49, 32, 43, 32, 36, 67]⟩ (exC ⟨#[43]⟩ [exN ⟨1, 1000⟩, exR ⟨#[67]⟩]) := ⟨6, ⟨60, by kernel_rfl⟩, by kernel_rfl⟩
theorem whT03 : Whole (par := parC) ⟨#[49, 32, 43, 32, 36, 68]⟩ (exC ⟨#[43]⟩ [exN ⟨1, 1000⟩, exR ⟨#[68]⟩]) := ⟨6, ⟨60, by kernel_rfl⟩, by kernel_rfl⟩
theorem whT04 : Whole (par := parC) ⟨#[49, 32, 43, 32, 36, 69]⟩ (exC ⟨#[43]⟩ [exN ⟨1, 1000⟩, exR ⟨#[69]⟩]) := ⟨6, ⟨60, by kernel_rfl⟩, by kernel_rfl⟩
theorem whT05 : Whole (par := parC) ⟨#[49, 32, 43, 32, 36, 70]⟩ (exC ⟨#[43]⟩ [exN ⟨1, 1000⟩, exR ⟨#[70]⟩]) := ⟨6, ⟨60, by kernel_rfl⟩, by kernel_rfl⟩
theorem whT06 : Whole (par := parC) ⟨#[49, 32, 43, 32, 36, 71]⟩ (exC ⟨#[43]⟩ [exN ⟨1, 1000⟩, exR ⟨#[71]⟩]) := ⟨6, ⟨60, by kernel_rfl⟩, by kernel_rfl⟩
theorem whT07 : Whole (par := parC) ⟨#[49, 32, 43, 32, 36, 72]⟩ (exC ⟨#[43]⟩ [exN ⟨1, 1000⟩, exR ⟨#[72]⟩]) := ⟨6, ⟨60, by kernel_rfl⟩, by kernel_rfl⟩
theorem whT08 : Whole (par := parC) ⟨#[49, 32, 43, 32, 36, 73]⟩ (exC ⟨#[43]⟩ [exN ⟨1, 1000⟩, exR ⟨#[73]⟩]) := ⟨6, ⟨60, by kernel_rfl⟩, by kernel_rfl⟩
theorem whT09 : Whole (par := parC) ⟨#[49, 32, 43, 32, 36, 74]⟩ (exC ⟨#[43]⟩ [exN ⟨1, 1000⟩, exR ⟨#[74]⟩]) := ⟨6, ⟨60, by kernel_rfl⟩, by kernel_rfl⟩
theorem whT10 : Whole (par := parC) ⟨#[36, 65, 32, 43, 32, 49, 32, 43, 32, 36, 65]⟩ (exC ⟨#[43]⟩ [exC ⟨#[43]⟩ [exR ⟨#[65]⟩, exN ⟨1, 1000⟩], exR ⟨#[65]⟩]) := ⟨11, ⟨60, by kernel_rfl⟩, by kernel_rfl⟩
theorem whT11 : Whole (par := parC) ⟨#[36, 65, 32, 43, 32, 49, 32, 43, 32, 36, 66]⟩ (exC ⟨#[43]⟩ [exC ⟨#[43]⟩ [exR ⟨#[65]⟩, exN ⟨1, 1000⟩], exR ⟨#[66]⟩]) := ⟨11, ⟨60, by kernel_rfl⟩, by kernel_rfl⟩
theorem whT12 : Whole (par := parC) ⟨#[36, 65, 32, 43, 32, 49, 32, 43, 32, 36, 67]⟩ (exC ⟨#[43]⟩ [exC ⟨#[43]⟩ [exR ⟨#[65]⟩, exN ⟨1, 1000⟩], exR ⟨#[67]⟩]) := ⟨11, ⟨60, by kernel_rfl⟩, by kernel_rfl⟩
theorem whT13 : Whole (par := parC) ⟨#[36, 65, 32, 43, 32, 49, 32, 43, 32, 36, 68]⟩ (exC ⟨#[43]⟩ [exC ⟨#[43]⟩ [exR ⟨#[65]⟩, exN ⟨1, 1000⟩], exR ⟨#[68]⟩]) := ⟨11, ⟨60, by kernel_rfl⟩, by kernel_rfl⟩
theorem whT14 : Whole (par := parC) ⟨#[36, 65, 32, 43, 32, 49, 32, 43, 32, 36, 69]⟩ (exC ⟨#[43]⟩ [exC ⟨#[43]⟩ [exR ⟨#[65]⟩, exN ⟨1, 1000⟩], exR ⟨#[69]⟩]) := ⟨11, ⟨60, by kernel_rfl⟩, by kernel_rfl⟩
theorem whT15 : Whole (par := parC) ⟨#[36, 65, 32, 43, 32, 49, 32, 43, 32, 36, 70]⟩ (exC ⟨#[43]⟩ [exC ⟨#[43]⟩ [exR ⟨#[65]⟩, exN ⟨1, 1000⟩], exR ⟨#[70]⟩]) := ⟨11, ⟨60, by kernel_rfl⟩, by kernel_rfl⟩
theorem whT16 : Whole (par := parC) ⟨#[36, 65, 32, 43, 32, 49, 32, 43, 32, 36, 71]⟩ (exC ⟨#[43]⟩ [exC ⟨#[43]⟩ [exR ⟨#[65]⟩, exN ⟨1, 1000⟩], exR ⟨#[71]⟩]) := ⟨11, ⟨60, by kernel_rfl⟩, by kernel_rfl⟩
theorem whT17 : Whole (par := parC) ⟨#[36, 65, 32, 43, 32, 49, 32, 43, 32, 36, 72]⟩ (exC ⟨#[43]⟩ [exC ⟨#[43]⟩ [exR ⟨#[65]⟩, exN ⟨1, 1000⟩], exR ⟨#[72]⟩]) := ⟨11, ⟨60, by kernel_rfl⟩, by kernel_rfl⟩
theorem whT18 : Whole (par := parC) ⟨#[36, 65, 32, 43, 32, 49, 32, 43, 32, 36, 73]⟩ (exC ⟨#[43]⟩ [exC ⟨#[43]⟩ [exR ⟨#[65]⟩, exN ⟨1, 1000⟩], exR ⟨#[73]⟩]) := ⟨11, ⟨60, by kernel_rfl⟩, by kernel_rfl⟩
theorem whT19 : Whole (par := parC) ⟨#[36, 65, 32, 43, 32, 49, 32, 43, 32, 36, 74]⟩ (exC ⟨#[43]⟩ [exC ⟨#[43]⟩ [exR ⟨#[65]⟩, exN ⟨1, 1000⟩], exR ⟨#[74]⟩]) := ⟨11, ⟨60, by kernel_rfl⟩, by kernel_rfl⟩
theorem whT20 : Whole (par := parC) ⟨#[36, 66, 32, 43, 32, 49, 32, 43, 32, 36, 65]⟩ (exC ⟨#[43]⟩ [exC ⟨#[43]⟩ [exR ⟨#[66]⟩, exN ⟨1, 1000⟩], exR ⟨#[65]⟩]) := ⟨11, ⟨60, by kernel_rfl⟩, by kernel_rfl⟩
theorem whT21 : Whole (par := parC) ⟨#[36, 66, 32, 43, 32, 49, 32, 43, 32, 36, 66]⟩ (exC ⟨#[43]⟩ [exC ⟨#[43]⟩ [exR ⟨#[66]⟩, exN ⟨1, 1000⟩], exR ⟨#[66]⟩]) := ⟨11, ⟨60, by kernel_rfl⟩, by kernel_rfl⟩
theorem whT22 : Whole (par := parC) ⟨#[36, 66, 32, 43, 32, 49, 32, 43, 32, 36, 67]⟩ (exC ⟨#[43]⟩ [exC ⟨#[43]⟩ [exR ⟨#[66]⟩, exN ⟨1, 1000⟩], exR ⟨#[67]⟩]) := ⟨11, ⟨60, by kernel_rfl⟩, by kernel_rfl⟩
theorem whT23 : Whole (par := parC) ⟨#[36, 66, 32, 43, 32, 49, 32, 43, 32, 36, 68]⟩ (exC ⟨#[43]⟩ [exC ⟨#[43]⟩ [exR ⟨#[66]⟩, exN ⟨1, 1000⟩], exR ⟨#[68]⟩]) := ⟨11, ⟨60, by kernel_rfl⟩, by kernel_rfl⟩
theorem whT24 : Whole (par := parC) ⟨#[36, 66, 32, 43, 32, 49, 32, 43, 32, 36, 69]⟩ (exC ⟨#[43]⟩ [exC ⟨#[43]⟩ [exR ⟨#[66]⟩, exN ⟨1, 1000⟩], exR ⟨#[69]⟩]) := ⟨11, ⟨60, by kernel_rfl⟩, by kernel_rfl⟩
theorem whT25 : Whole (par := parC) ⟨#[36, 66, 32, 43, 32, 49, 32, 43, 32, 36, 70]⟩ (exC ⟨#[43]⟩ [exC ⟨#[43]⟩ [exR ⟨#[66]⟩, exN ⟨1, 1000⟩], exR ⟨#[70]⟩]) := ⟨11, ⟨60, by kernel_rfl⟩, by kernel_rfl⟩
theorem whT26 : Whole (par := parC) ⟨#[36, 66, 32, 43, 32, 49, 32, 43, 32, 36, 71]⟩ (exC ⟨#[43]⟩ [exC ⟨#[43]⟩ [exR ⟨#[66]⟩, exN ⟨1, 1000⟩], exR ⟨#[71]⟩]) := ⟨11, ⟨60, by kernel_rfl⟩, by kernel_rfl⟩
theorem whT27 : Whole (par := parC) ⟨#[36, 66, 32, 43, 32, 49, 32, 43, 32, 36, 72]⟩ (exC ⟨#[43]⟩ [exC ⟨#[43]⟩ [exR ⟨#[66]⟩, exN ⟨1, 1000⟩], exR ⟨#[72]⟩]) := ⟨11, ⟨60, by kernel_rfl⟩, by kernel_rfl⟩
theorem whT28 : Whole (par := parC) ⟨#[36, 66, 32, 43, 32, 49, 32, 43, 32, 36, 73]⟩ (exC ⟨#[43]⟩ [exC ⟨#[43]⟩ [exR ⟨#[66]⟩, exN ⟨1, 1000⟩], exR ⟨#[73]⟩]) := ⟨11, ⟨60, by kernel_rfl⟩, by kernel_rfl⟩
theorem whT29 : Whole (par := parC) ⟨#[36, 66, 32, 43, 32, 49, 32, 43, 32, 36, 74]⟩ (exC ⟨#[43]⟩ [exC ⟨#[43]⟩ [exR ⟨#[66]⟩, exN ⟨1, 1000⟩], exR ⟨#[74]⟩]) := ⟨11, ⟨60, by kernel_rfl⟩, by kernel_rfl⟩
theorem whT30 : Whole (par := parC) ⟨#[36, 67, 32, 43, 32, 49, 32, 43, 32, 36, 65]⟩ (exC ⟨#[43]⟩ [exC ⟨#[43]⟩ [exR ⟨#[67]⟩, exN ⟨1, 1000⟩], exR ⟨#[65]⟩]) := ⟨11, ⟨60, by kernel_rfl⟩, by kernel_rfl⟩
theorem whT31 : Whole (par := parC) ⟨#[36, 67, 32, 43, 32, 49, 32, 43, 32, 36, 66]⟩ (exC ⟨#[43]⟩ [exC ⟨#[43]⟩ [exR ⟨#[67]⟩, exN ⟨1, 1000⟩], exR ⟨#[66]⟩]) := ⟨11, ⟨60, by kernel_rfl⟩, by kernel_rfl⟩
theorem whT32 : Whole (par := parC) ⟨#[36, 67, 32, 43, 32, 49, 32, 43, 32, 36, 67]⟩ (exC ⟨#[43]⟩ [exC ⟨#[43]⟩ [exR ⟨#[67]⟩, exN ⟨1, 1000⟩], exR ⟨#[67]⟩]) := ⟨11, ⟨60, by kernel_rfl⟩, by kernel_rfl⟩
theorem whT33 : Whole (par := parC) ⟨#[36, 67, 32, 43, 32, 49, 32, 43, 32, 36, 68]⟩ (exC ⟨#[43]⟩ [exC ⟨#[43]⟩ [exR ⟨#[67]⟩, exN ⟨1, 1000⟩], exR ⟨#[68]⟩]) := ⟨11, ⟨60, by kernel_rfl⟩, by kernel_rfl⟩
theorem whT34 : Whole (par := parC) ⟨#[36, 67, 32, 43, 32, 49, 32, 43, 32, 36, 69]⟩ (exC ⟨#[43]⟩ [exC ⟨#[43]⟩ [exR ⟨#[67]⟩, exN ⟨1, 1000⟩], exR ⟨#[69]⟩]) := ⟨11, ⟨60, by kernel_rfl⟩, by kernel_rfl⟩
theorem whT35 : Whole (par := parC) ⟨#[36, 67, 32, 43, 32, 49, 32, 43, 32, 36, 70]⟩ (exC ⟨#[43]⟩ [exC ⟨#[43]⟩ [exR ⟨#[67]⟩, exN ⟨1, 1000⟩], exR ⟨#[70]⟩]) := ⟨11, ⟨60, by kernel_rfl⟩, by kernel_rfl⟩
theorem whT36 : Whole (par := parC) ⟨#[36, 67, 32, 43, 32, 49, 32, 43, 32, 36, 71]⟩ (exC ⟨#[43]⟩ [exC ⟨#[43]⟩ [exR ⟨#[67]⟩, exN ⟨1, 1000⟩], exR ⟨#[71]⟩]) := ⟨11, ⟨60, by kernel_rfl⟩, by kernel_rfl⟩
theorem whT37 : Whole (par := parC) ⟨#[36, 67, 32, 43, 32, 49, 32, 43, 32, 36, 72]⟩ (exC ⟨#[43]⟩ [exC ⟨#[43]⟩ [exR ⟨#[67]⟩, exN ⟨1, 1000⟩], exR ⟨#[72]⟩]) := ⟨11, ⟨60, by kernel_rfl⟩, by kernel_rfl⟩
theorem whT38 : Whole (par := parC) ⟨#[36, 67, 32, 43, 32, 49, 32, 43, 32, 36, 73]⟩ (exC ⟨#[43]⟩ [exC ⟨#[43]⟩ [exR ⟨#[67]⟩, exN ⟨1, 1000⟩], exR ⟨#[73]⟩]) := ⟨11, ⟨60, by kernel_rfl⟩, by kernel_rfl⟩
theorem whT39 : Whole (par := parC) ⟨#[36, 67, 32, 43, 32, 49, 32, 43, 32, 36, 74]⟩ (exC ⟨#[43]⟩ [exC ⟨#[43]⟩ [exR ⟨#[67]⟩, exN ⟨1, 1000⟩], exR ⟨#[74]⟩]) := ⟨11, ⟨60, by kernel_rfl⟩, by kernel_rfl⟩
theorem whT40 : Whole (par := parC) ⟨#[36, 68, 32, 43, 32, 49, 32, 43, 32, 36, 65]⟩ (exC ⟨#[43]⟩ [exC ⟨#[43]⟩ [exR ⟨#[68]⟩, exN ⟨1, 1000⟩], exR ⟨#[65]⟩]) := ⟨11, ⟨60, by kernel_rfl⟩, by kernel_rfl⟩
theorem whT41 : Whole (par := parC) ⟨#[36, 68, 32, 43, 32, 49, 32, 43, 32, 36, 66]⟩ (exC ⟨#[43]⟩ [exC ⟨#[43]⟩ [exR ⟨#[68]⟩, exN ⟨1, 1000⟩], exR ⟨#[66]⟩]) := ⟨11, ⟨60, by kernel_rfl⟩, by kernel_rfl⟩
theorem whT42 : Whole (par := parC) ⟨#[36, 68, 32, 43, 32, 49, 32, 43, 32, 36, 67]⟩ (exC ⟨#[43]⟩ [exC ⟨#[43]⟩ [exR ⟨#[68]⟩, exN ⟨1, 1000⟩], exR ⟨#[67]⟩]) := ⟨11, ⟨60, by kernel_rfl⟩, by kernel_rfl⟩
theorem whT43 : Whole (par := parC) ⟨#[36, 68, 32, 43, 32, 49, 32, 43, 32, 36, 68]⟩ (exC ⟨#[43]⟩ [exC ⟨#[43]⟩ [exR ⟨#[68]⟩, exN ⟨1, 1000⟩], exR ⟨#[68]⟩]) := ⟨11, ⟨60, by kernel_rfl⟩, by kernel_rfl⟩
theorem whT44 : Whole (par := parC) ⟨#[36, 68, 32, 43, 32, 49, 32, 43, 32, 36, 69]⟩ (exC ⟨#[43]⟩ [exC ⟨#[43]⟩ [exR ⟨#[68]⟩, exN ⟨1, 1000⟩], exR ⟨#[69]⟩]) := ⟨11, ⟨60, by kernel_rfl⟩, by kernel_rfl⟩
theorem whT45 : Whole (par := parC) ⟨#[36, 68, 32, 43, 32, 49, 32, 43, 32, 36, 70]⟩ (exC ⟨#[43]⟩ [exC ⟨#[43]⟩ [exR ⟨#[68]⟩, exN ⟨1, 1000⟩], exR ⟨#[70]⟩]) := ⟨11, ⟨60, by kernel_rfl⟩, by kernel_rfl⟩
theorem whT46 : Whole (par := parC) ⟨#[36, 68, 32, 43, 32, 49, 32, 43, 32, 36, 71]⟩ (exC ⟨#[43]⟩ [exC ⟨#[43]⟩ [exR ⟨#[68]⟩, exN ⟨1, 1000⟩], exR ⟨#[71]⟩]) := ⟨11, ⟨60, by kernel_rfl⟩, by kernel_rfl⟩
theorem whT47 : Whole (par := parC) ⟨#[36, 68, 32, 43, 32, 49, 32, 43, 32, 36, 72]⟩ (exC ⟨#[43]⟩ [exC ⟨#[43]⟩ [exR ⟨#[68]⟩, exN ⟨1, 1000⟩], exR ⟨#[72]⟩]) := ⟨11, ⟨60, by kernel_rfl⟩, by kernel_rfl⟩
theorem whT48 : Whole (par := parC) ⟨#[36, 68, 32, 43, 32, 49, 32, 43, 32, 36, 73]⟩ (exC ⟨#[43]⟩ [exC ⟨#[43]⟩ [exR ⟨#[68]⟩, exN ⟨1, 1000⟩], exR ⟨#[73]⟩]) := ⟨11, ⟨60, by kernel_rfl⟩, by kernel_rfl⟩
theorem whT49 : Whole (par := parC) ⟨#[36, 68, 32, 43, 32, 49, 32, 43, 32, 36, 74]⟩ (exC ⟨#[43]⟩ [exC ⟨#[43]⟩ [exR ⟨#[68]⟩, exN ⟨1, 1000⟩], exR ⟨#[74]⟩]) := ⟨11, ⟨60, by kernel_rfl⟩, by kernel_rfl⟩
theorem whT50 : Whole (par := parC) ⟨#[36, 69, 32, 43, 32, 49, 32, 43, 32, 36, 65]⟩ (exC ⟨#[43]⟩ [exC ⟨#[43]⟩ [exR ⟨#[69]⟩, exN ⟨1, 1000⟩], exR ⟨#[65]⟩]) := ⟨11, ⟨60, by kernel_rfl⟩, by kernel_rfl⟩
theorem whT51 : Whole (par := parC) ⟨#[36, 69, 32, 43, 32, 49, 32, 43, 32, 36, 66]⟩ (exC ⟨#[43]⟩ [exC ⟨#[43]⟩ [exR ⟨#[69]⟩, exN ⟨1, 1000⟩], exR ⟨#[66]⟩]) := ⟨11, ⟨60, by kernel_rfl⟩, by kernel_rfl⟩
theorem whT52 : Whole (par := parC) ⟨#[36, 69, 32, 43, 32, 49, 32, 43, 32, 36, 67]⟩ (exC ⟨#[43]⟩ [exC ⟨#[43]⟩ [exR ⟨#[69]⟩, exN ⟨1, 1000⟩], exR ⟨#[67]⟩]) := ⟨11, ⟨60, by kernel_rfl⟩, by kernel_rfl⟩
theorem whT53 : Whole (par := parC) ⟨#[36, 69, 32, 43, 32, 49, 32, 43, 32, 36, 68]⟩ (exC ⟨#[43]⟩ [exC ⟨#[43]⟩ [exR ⟨#[69]⟩, exN ⟨1, 1000⟩], exR ⟨#[68]⟩]) := ⟨11, ⟨60, by kernel_rfl⟩, by kernel_rfl⟩
theorem whT54 : Whole (par := parC) ⟨#[36, 69, 32, 43, 32, 49, 32, 43, 32, 36, 69]⟩ (exC ⟨#[43]⟩ [exC ⟨#[43]⟩ [exR ⟨#[69]⟩, exN ⟨1, 1000⟩], exR ⟨#[69]⟩]) := ⟨11, ⟨60, by kernel_rfl⟩, by kernel_rfl⟩
theorem whT55 : Whole (par := parC) ⟨#[36, 69, 32, 43, 32, 49, 32, 43, 32, 36, 70]⟩ (exC ⟨#[43]⟩ [exC ⟨#[43]⟩ [exR ⟨#[69]⟩, exN ⟨1, 1000⟩], exR ⟨#[70]⟩]) := ⟨11, ⟨60, by kernel_rfl⟩, by kernel_rfl⟩
theorem whT56 : Whole (par := parC) ⟨#[36, 69, 32, 43, 32, 49, 32, 43, 32, 36, 71]⟩ (exC ⟨#[43]⟩ [exC ⟨#[43]⟩ [exR ⟨#[69]⟩, exN ⟨1, 1000⟩], exR ⟨#[71]⟩]) := ⟨11, ⟨60, by kernel_rfl⟩, by kernel_rfl⟩
theorem whT57 : Whole (par := parC) ⟨#[36, 69, 32, 43, 32, 49, 32, 43, 32, 36, 72]⟩ (exC ⟨#[43]⟩ [exC ⟨#[43]⟩ [exR ⟨#[69]⟩, exN ⟨1, 1000⟩], exR ⟨#[72]⟩]) := ⟨11, ⟨60, by kernel_rfl⟩, by kernel_rfl⟩
theorem whT58 : Whole (par := parC) ⟨#[36, 69, 32, 43, 32, 49, 32, 43, 32, 36, 73]⟩ (exC ⟨#[43]⟩ [exC ⟨#[43]⟩ [exR ⟨#[69]⟩, exN ⟨1, 1000⟩], exR ⟨#[73]⟩]) := ⟨11, ⟨60, by kernel_rfl⟩, by kernel_rfl⟩
theorem whT59 : Whole (par := parC) ⟨#[36, 69, 32, 43, 32, 49, 32, 43, 32, 36, 74]⟩ (exC ⟨#[43]⟩ [exC ⟨#[43]⟩ [exR ⟨#[69]⟩, exN ⟨1, 1000⟩], exR ⟨#[74]⟩]) := ⟨11, ⟨60, by kernel_rfl⟩, by kernel_rfl⟩
theorem whT60 : Whole (par := parC) ⟨#[36, 70, 32, 43, 32, 49, 32, 43, 32, 36, 65]⟩ (exC ⟨#[43]⟩ [exC ⟨#[43]⟩ [exR ⟨#[70]⟩, exN ⟨1, 1000⟩], exR ⟨#[65]⟩]) := ⟨11, ⟨60, by kernel_rfl⟩, by kernel_rfl⟩
theorem whT61 : Whole (par := parC) ⟨#[36, 70, 32, 43, 32, 49, 32, 43, 32, 36, 66]⟩ (exC ⟨#[43]⟩ [exC ⟨#[43]⟩ [exR ⟨#[70]⟩, exN ⟨1, 1000⟩], exR ⟨#[66]⟩]) := ⟨11, ⟨60, by kernel_rfl⟩, by kernel_rfl⟩
theorem whT62 : Whole (par := parC) ⟨#[36, 70, 32, 43, 32, 49, 32, 43, 32, 36, 67]⟩ (exC ⟨#[43]⟩ [exC ⟨#[43]⟩ [exR ⟨#[70]⟩, exN ⟨1, 1000⟩], exR ⟨#[67]⟩]) := ⟨11, ⟨60, by kernel_rfl⟩, by kernel_rfl⟩
theorem whT63 : Whole (par := parC) ⟨#[36, 70, 32, 43, 32, 49, 32, 43, 32, 36, 68]⟩ (exC ⟨#[43]⟩ [exC ⟨#[43]⟩ [exR ⟨#[70]⟩, exN ⟨1, 1000⟩], exR ⟨#[68]⟩]) := ⟨11, ⟨60, by kernel_rfl⟩, by kernel_rfl⟩
theorem whT64 : Whole (par := parC) ⟨#[36, 70, 32, 43, 32, 49, 32, 43, 32, 36, 69]⟩ (exC ⟨#[43]⟩ [exC ⟨#[43]⟩ [exR ⟨#[70]⟩, exN ⟨1, 1000⟩], exR ⟨#[69]⟩]) := ⟨11, ⟨60, by kernel_rfl⟩, by kernel_rfl⟩
theorem whT65 : Whole (par := parC) ⟨#[36, 70, 32, 43, 32, 49, 32, 43, 32, 36, 70]⟩ (exC ⟨#[43]⟩ [exC ⟨#[43]⟩ [exR ⟨#[70]⟩, exN ⟨1, 1000⟩], exR ⟨#[70]⟩]) := ⟨11, ⟨60, by kernel_rfl⟩, by kernel_rfl⟩
theorem whT66 : Whole (par := parC) ⟨#[36, 70, 32, 43, 32, 49, 32, 43, 32, 36, 71]⟩ (exC ⟨#[43]⟩ [exC ⟨#[43]⟩ [exR ⟨#[70]⟩, exN ⟨1, 1000⟩], exR ⟨#[71]⟩]) := ⟨11, ⟨60, by kernel_rfl⟩, by kernel_rfl⟩
theorem whT67 : Whole (par := parC) ⟨#[36, 70, 32, 43, 32, 49, 32, 43, 32, 36, 72]⟩ (exC ⟨#[43]⟩ [exC ⟨#[43]⟩ [exR ⟨#[70]⟩, exN ⟨1, 1000⟩], exR ⟨#[72]⟩]) := ⟨11, ⟨60, by kernel_rfl⟩, by kernel_rfl⟩
theorem whT68 : Whole (par := parC) ⟨#[36, 70, 32, 43, 32, 49, 32, 43, 32, 36, 73]⟩ (exC ⟨#[43]⟩ [exC ⟨#[43]⟩ [exR ⟨#[70]⟩, exN ⟨1, 1000⟩], exR ⟨#[73]⟩]) := ⟨11, ⟨60, by kernel_rfl⟩, by kernel_rfl⟩
theorem whT69 : Whole (par := parC) ⟨#[36, 70, 32, 43, 32, 49, 32, 43, 32, 36, 74]⟩ (exC ⟨#[43]⟩ [exC ⟨#[43]⟩ [exR ⟨#[70]⟩, exN ⟨1, 1000⟩], exR ⟨#[74]⟩]) := ⟨11, ⟨60, by kernel_rfl⟩, by kernel_rfl⟩
theorem whT70 : Whole (par := parC) ⟨#[36, 71, 32, 43, 32, 49, 32, 43, 32, 36, 65]⟩ (exC ⟨#[43]⟩ [exC ⟨#[43]⟩ [exR ⟨#[71]⟩, exN ⟨1, 1000⟩], exR ⟨#[65]⟩]) := ⟨11, ⟨60, by kernel_rfl⟩, by kernel_rfl⟩
theorem whT71 : Whole (par := parC) ⟨#[36, 71, 32, 43, 32, 49, 32, 43, 32, 36, 66]⟩ (exC ⟨#[43]⟩ [exC ⟨#[43]⟩ [exR ⟨#[71]⟩, exN ⟨1, 1000⟩], exR ⟨#[66]⟩]) := ⟨11, ⟨60, by kernel_rfl⟩, by kernel_rfl⟩
theorem whT72 : Whole (par := parC) ⟨#[36, 71, 32, 43, 32, 49, 32, 43, 32, 36, 67]⟩ (exC ⟨#[43]⟩ [exC ⟨#[43]⟩ [exR ⟨#[71]⟩, exN ⟨1, 1000⟩], exR ⟨#[67]⟩]) := ⟨11, ⟨60, by kernel_rfl⟩, by kernel_rfl⟩
theorem whT73 : Whole (par := parC) ⟨#[36, 71, 32, 43, 32, 49, 32, 43, 32, 36, 68]⟩ (exC ⟨#[43]⟩ [exC ⟨#[43]⟩ [exR ⟨#[71]⟩, exN ⟨1, 1000⟩], exR ⟨#[68]⟩]) := ⟨11, ⟨60, by kernel_rfl⟩, by kernel_rfl⟩
theorem whT74 : Whole (par := parC) ⟨#[36, 71, 32, 43, 32, 49, 32, 43, 32, 36, 69]⟩ (exC ⟨#[43]⟩ [exC ⟨#[43]⟩ [exR ⟨#[71]⟩, exN ⟨1, 1000⟩], exR ⟨#[69]⟩]) := ⟨11, ⟨60, by kernel_rfl⟩, by kernel_rfl⟩
theorem whT75 : Whole (par := parC) ⟨#[36, 71, 32, 43, 32, 49, 32, 43, 32, 36, 70]⟩ (exC ⟨#[43]⟩ [exC ⟨#[43]⟩ [exR ⟨#[71]⟩, exN ⟨1, 1000⟩], exR ⟨#[70]⟩]) := ⟨11, ⟨60, by kernel_rfl⟩, by kernel_rfl⟩
theorem whT76 : Whole (par := parC) ⟨#[36, 71, 32, 43, 32, 49, 32, 43, 32, 36, 71]⟩ (exC ⟨#[43]⟩ [exC ⟨#[43]⟩ [exR ⟨#[71]⟩, exN ⟨1, 1000⟩], exR ⟨#[71]⟩]) := ⟨11, ⟨60, by kernel_rfl⟩, by kernel_rfl⟩
theorem whT77 : Whole (par := parC) ⟨#[36, 71, 32, 43, 32, 49, 32, 43, 32, 36, 72]⟩ (exC ⟨#[43]⟩ [exC ⟨#[43]⟩ [exR ⟨#[71]⟩, exN ⟨1, 1000⟩], exR ⟨#[72]⟩]) := ⟨11, ⟨60, by kernel_rfl⟩, by kernel_rfl⟩
theorem whT78 : Whole (par := parC) ⟨#[36, 71, 32, 43, 32, 49, 32, 43, 32, 36, 73]⟩ (exC ⟨#[43]⟩ [exC ⟨#[43]⟩ [exR ⟨#[71]⟩, exN ⟨1, 1000⟩], exR ⟨#[73]⟩]) := ⟨11, ⟨60, by kernel_rfl⟩, by kernel_rfl⟩
theorem whT79 : Whole (par := parC) ⟨#[36, 71, 32, 43, 32, 49, 32, 43, 32, 36, 74]⟩ (exC ⟨#[43]⟩ [exC ⟨#[43]⟩ [exR ⟨#[71]⟩, exN ⟨1, 1000⟩], exR ⟨#[74]⟩]) := ⟨11, ⟨60, by kernel_rfl⟩, by kernel_rfl⟩
theorem whT80 : Whole (par := parC) ⟨#[36, 72, 32, 43, 32, 49, 32, 43, 32, 36, 65]⟩ (exC ⟨#[43]⟩ [exC ⟨#[43]⟩ [exR ⟨#[72]⟩, exN ⟨1, 1000⟩], exR ⟨#[65]⟩]) := ⟨11, ⟨60, by kernel_rfl⟩, by kernel_rfl⟩
theorem whT81 : Whole (par := parC) ⟨#[36, 72, 32, 43, 32, 49, 32, 43, 32, 36, 66]⟩ (exC ⟨#[43]⟩ [exC ⟨#[43]⟩ [exR ⟨#[72]⟩, exN ⟨1, 1000⟩], exR ⟨#[66]⟩]) := ⟨11, ⟨60, by kernel_rfl⟩, by kernel_rfl⟩
theorem whT82 : Whole (par := parC) ⟨#[36, 72, 32, 43, 32, 49, 32, 43, 32, 36, 67]⟩ (exC ⟨#[43]⟩ [exC ⟨#[43]⟩ [exR ⟨#[72]⟩, exN ⟨1, 1000⟩], exR ⟨#[67]⟩]) := ⟨11, ⟨60, by kernel_rfl⟩, by kernel_rfl⟩
theorem whT83 : Whole (par := parC) ⟨#[36, 72, 32, 43, 32, 49, 32, 43, 32, 36, 68]⟩ (exC ⟨#[43]⟩ [exC ⟨#[43]⟩ [exR ⟨#[72]⟩, exN ⟨1, 1000⟩], exR ⟨#[68]⟩]) := ⟨11, ⟨60, by kernel_rfl⟩, by kernel_rfl⟩
theorem whT84 : Whole (par := parC) ⟨#[36, 72, 32, 43, 32, 49, 32, 43, 32, 36, 69]⟩ (exC ⟨#[43]⟩ [exC ⟨#[43]⟩ [exR ⟨#[72]⟩, exN ⟨1, 1000⟩], exR ⟨#[69]⟩]) := ⟨11, ⟨60, by kernel_rfl⟩, by kernel_rfl⟩
theorem whT85 : Whole (par := parC) ⟨#[36, 72, 32, 43, 32, 49, 32, 43, 32, 36, 70]⟩ (exC ⟨#[43]⟩ [exC ⟨#[43]⟩ [exR ⟨#[72]⟩, exN ⟨1, 1000⟩], exR ⟨#[70]⟩]) := ⟨11, ⟨60, by kernel_rfl⟩, by kernel_rfl⟩
theorem whT86 : Whole (par := parC) ⟨#[36, 72, 32, 43, 32, 49, 32, 43, 32, 36, 71]⟩ (exC ⟨#[43]⟩ [exC ⟨#[43]⟩ [exR ⟨#[72]⟩, exN ⟨1, 1000⟩], exR ⟨#[71]⟩]) := ⟨11, ⟨60, by kernel_rfl⟩, by kernel_rfl⟩
theorem whT87 : Whole (par := parC) ⟨#[36, 72, 32, 43, 32, 49, 32, 43, 32, 36, 72]⟩ (exC ⟨#[43]⟩ [exC ⟨#[43]⟩ [exR ⟨#[72]⟩, exN ⟨1, 1000⟩], exR ⟨#[72]⟩]) := ⟨11, ⟨60, by kernel_rfl⟩, by kernel_rfl⟩
theorem whT88 : Whole (par := parC) ⟨#[36, 72, 32, 43, 32, 49, 32, 43, 32, 36, 73]⟩ (exC ⟨#[43]⟩ [exC ⟨#[43]⟩ [exR ⟨#[72]⟩, exN ⟨1, 1000⟩], exR ⟨#[73]⟩]) := ⟨11, ⟨60, by kernel_rfl⟩, by kernel_rfl⟩
theorem whT89 : Whole (par := parC) ⟨#[36, 72, 32, 43, 32, 49, 32, 43, 32, 36, 74]⟩ (exC ⟨#[43]⟩ [exC ⟨#[43]⟩ [exR ⟨#[72]⟩, exN ⟨1, 1000⟩], exR ⟨#[74]⟩]) := ⟨11, ⟨60, by kernel_rfl⟩, by kernel_rfl⟩
theorem whT90 : Whole (par := parC) ⟨#[36, 73, 32, 43, 32, 49, 32, 43, 32, 36, 65]⟩ (exC ⟨#[43]⟩ [exC ⟨#[43]⟩ [exR ⟨#[73]⟩, exN ⟨1, 1000⟩], exR ⟨#[65]⟩]) := ⟨11, ⟨60, by kernel_rfl⟩, by kernel_rfl⟩
theorem whT91 : Whole (par := parC) ⟨#[36, 73, 32, 43, 32, 49, 32, 43, 32, 36, 66]⟩ (exC ⟨#[43]⟩ [exC ⟨#[43]⟩ [exR ⟨#[73]⟩, exN ⟨1, 1000⟩], exR ⟨#[66]⟩]) := ⟨11, ⟨60, by kernel_rfl⟩, by kernel_rfl⟩
theorem whT92 : Whole (par := parC) ⟨#[36, 73, 32, 43, 32, 49, 32, 43, 32, 36, 67]⟩ (exC ⟨#[43]⟩ [exC ⟨#[43]⟩ [exR ⟨#[73]⟩, exN ⟨1, 1000⟩], exR ⟨#[67]⟩]) := ⟨11, ⟨60, by kernel_rfl⟩, by kernel_rfl⟩
theorem whT93 : Whole (par := parC) ⟨#[36, 73, 32, 43, 32, 49, 32, 43, 32, 36, 68]⟩ (exC ⟨#[43]⟩ [exC ⟨#[43]⟩ [exR ⟨#[73]⟩, exN ⟨1, 1000⟩], exR ⟨#[68]⟩]) := ⟨11, ⟨60, by kernel_rfl⟩, by kernel_rfl⟩
theorem whT94 : Whole (par := parC) ⟨#[36, 73, 32, 43, 32, 49, 32, 43, 32, 36, 69]⟩ (exC ⟨#[43]⟩ [exC ⟨#[43]⟩ [exR ⟨#[73]⟩, exN ⟨1, 1000⟩], exR ⟨#[69]⟩]) := ⟨11, ⟨60, by kernel_rfl⟩, by kernel_rfl⟩
theorem whT95 : Whole (par := parC) ⟨#[36, 73, 32, 43, 32, 49, 32, 43, 32, 36, 70]⟩ (exC ⟨#[43]⟩ [exC ⟨#[43]⟩ [exR ⟨#[73]⟩, exN ⟨1, 1000⟩], exR ⟨#[70]⟩]) := ⟨11, ⟨60, by kernel_rfl⟩, by kernel_rfl⟩
theorem whT96 : Whole (par := parC) ⟨#[36, 73, 32, 43, 32, 49, 32, 43, 32, 36, 71]⟩ (exC ⟨#[43]⟩ [exC ⟨#[43]⟩ [exR ⟨#[73]⟩, exN ⟨1, 1000⟩], exR ⟨#[71]⟩]) := ⟨11, ⟨60, by kernel_rfl⟩, by kernel_rfl⟩
theorem whT97 : Whole (par := parC) ⟨#[36, 73, 32, 43, 32, 49, 32, 43, 32, 36, 72]⟩ (exC ⟨#[43]⟩ [exC ⟨#[43]⟩ [exR ⟨#[73]⟩, exN ⟨1, 1000⟩], exR ⟨#[72]⟩]) := ⟨11, ⟨60, by kernel_rfl⟩, by kernel_rfl⟩
theorem whT98 : Whole (par := parC) ⟨#[36, 73, 32, 43, 32, 49, 32, 43, 32, 36, 73]⟩ (exC ⟨#[43]⟩ [exC ⟨#[43]⟩ [exR ⟨#[73]⟩, exN ⟨1, 1000⟩], exR ⟨#[73]⟩]) := ⟨11, ⟨60, by kernel_rfl⟩, by kernel_rfl⟩
theorem whT99 : Whole (par := parC) ⟨#[36, 73, 32, 43, 32, 49, 32, 43, 32, 36, 74]⟩ (exC ⟨#[43]⟩ [exC ⟨#[43]⟩ [exR ⟨#[73]⟩, exN ⟨1, 1000⟩], exR ⟨#[74]⟩]) := ⟨11, ⟨60, by kernel_rfl⟩, by kernel_rfl⟩
theorem whK : ∀ i, i < 10 → Whole (par := parC) (txK i) (exK i)
  | 0, _ => whK0
  | 1, _ => whK1
  | 2, _ => whK2
  | 3, _ => whK3
  | 4, _ => whK4
  | 5, _ => whK5
  | 6, _ => whK6
  | 7, _ => whK7
  | 8, _ => whK8
  | 9, _ => whK9
  | k + 10, h => absurd h (by omega)
theorem whR0 : ∀ t, t < 10 → Whole (par := parC) (txT 0 t) (exT 0 t)
  | 0, _ => whT00
  | 1, _ => whT01
  | 2, _ => whT02
  | 3, _ => whT03
  | 4, _ => whT04
  | 5, _ => whT05
  | 6, _ => whT06
  | 7, _ => whT07
  | 8, _ => whT08
  | 9, _ => whT09
  | k + 10, h => absurd h (by omega)
theorem whR1 : ∀ t, t < 10 → Whole (par := parC) (txT 1 t) (exT 1 t)
  | 0, _ => whT10
  | 1, _ => whT11
  | 2, _ => whT12
  | 3, _ => whT13
  | 4, _ => whT14
  | 5, _ => whT15
  | 6, _ => whT16
  | 7, _ => whT17
  | 8, _ => whT18
  | 9, _ => whT19
  | k + 10, h => absurd h (by omega)
theorem whR2 : ∀ t, t < 10 → Whole (par := parC) (txT 2 t) (exT 2 t)
  | 0, _ => whT20
  | 1, _ => whT21
  | 2, _ => whT22
  | 3, _ => whT23
  | 4, _ => whT24
  | 5, _ => whT25
  | 6, _ => whT26
  | 7, _ => whT27
  | 8, _ => whT28
  | 9, _ => whT29
  | k + 10, h => absurd h (by omega)
theorem whR3 : ∀ t, t < 10 → Whole (par := parC) (txT 3 t) (exT 3 t)
  | 0, _ => whT30
  | 1, _ => whT31
  | 2, _ => whT32
  | 3, _ => whT33
  | 4, _ => whT34
  | 5, _ => whT35
  | 6, _ => whT36
  | 7, _ => whT37
  | 8, _ => whT38
  | 9, _ => whT39
  | k + 10, h => absurd h (by omega)
theorem whR4 : ∀ t, t < 10 → Whole (par := parC) (txT 4 t) (exT 4 t)
  | 0, _ => whT40
  | 1, _ => whT41
  | 2, _ => whT42
  | 3, _ => whT43
  | 4, _ => whT44
  | 5, _ => whT45
  | 6, _ => whT46
  | 7, _ => whT47
  | 8, _ => whT48
  | 9, _ => whT49
  | k + 10, h => absurd h (by omega)
theorem whR5 : ∀ t, t < 10 → Whole (par := parC) (txT 5 t) (exT 5 t)
  | 0, _ => whT50
  | 1, _ => whT51
  | 2, _ => whT52
  | 3, _ => whT53
  | 4, _ => whT54
  | 5, _ => whT55
  | 6, _ => whT56
  | 7, _ => whT57
  | 8, _ => whT58
  | 9, _ => whT59
  | k + 10, h => absurd h (by omega)
theorem whR6 : ∀ t, t < 10 → Whole (par := parC) (txT 6 t) (exT 6 t)
  | 0, _ => whT60
  | 1, _ => whT61
  | 2, _ => whT62
  | 3, _ => whT63
  | 4, _ => whT64
  | 5, _ => whT65
  | 6, _ => whT66
  | 7, _ => whT67
  | 8, _ => whT68
  | 9, _ => whT69
  | k + 10, h => absurd h (by omega)
theorem whR7 : ∀ t, t < 10 → Whole (par := parC) (txT 7 t) (exT 7 t)
  | 0, _ => whT70
  | 1, _ => whT71
  | 2, _ => whT72
  | 3, _ => whT73
  | 4, _ => whT74
  | 5, _ => whT75
  | 6, _ => whT76
  | 7, _ => whT77
  | 8, _ => whT78
  | 9, _ => whT79
  | k + 10, h => absurd h (by omega)
theorem whR8 : ∀ t, t < 10 → Whole (par := parC) (txT 8 t) (exT 8 t)
  | 0, _ => whT80
  | 1, _ => whT81
  | 2, _ => whT82
  | 3, _ => whT83
  | 4, _ => whT84
  | 5, _ => whT85
  | 6, _ => whT86
  | 7, _ => whT87
  | 8, _ => whT88
  | 9, _ => whT89
  | k + 10, h => absurd h (by omega)
theorem whR9 : ∀ t, t < 10 → Whole (par := parC) (txT 9 t) (exT 9 t)
  | 0, _ => whT90
  | 1, _ => whT91
  | 2, _ => whT92
  | 3, _ => whT93
  | 4, _ => whT94
  | 5, _ => whT95
  | 6, _ => whT96
  | 7, _ => whT97
  | 8, _ => whT98
  | 9, _ => whT99
  | k + 10, h => absurd h (by omega)
theorem whT : ∀ i, i < 10 → ∀ t, t < 10 → Whole (par := parC) (txT i t) (exT i t)
  | 0, _ => whR0
  | 1, _ => whR1
  | 2, _ => whR2
  | 3, _ => whR3
  | 4, _ => whR4
  | 5, _ => whR5
  | 6, _ => whR6
  | 7, _ => whR7
  | 8, _ => whR8
  | 9, _ => whR9
  | k + 10, h => absurd h (by omega)
theorem txK_len : ∀ i, i < 10 → (txK i).size ≤ 10
  | 0, _ => by decide
  | 1, _ => by decide
  | 2, _ => by decide
  | 3, _ => by decide
  | 4, _ => by decide
  | 5, _ => by decide
  | 6, _ => by decide
  | 7, _ => by decide
  | 8, _ => by decide
  | 9, _ => by decide
  | k + 10, h => absurd h (by omega)
theorem nmK_inj : ∀ i, i < 10 → ∀ j, j < 10 → nmK i = nmK j → i = j := by
  intro i hi j hj h
  have h1 : (nmK i).data[0]? = (nmK j).data[0]? := by rw [h]
  unfold nmK at h1
  simp at h1
  have h2 := congrArg UInt8.toNat h1
  rw [UInt8.toNat_ofNat_of_lt' (by show _ < 256; omega), UInt8.toNat_ofNat_of_lt' (by show _ < 256; omega)] at h2
  omega
theorem refK : ∀ i, i < 10 → refB (nmK i) = true
  | 0, _ => by kernel_rfl
  | 1, _ => by kernel_rfl
  | 2, _ => by kernel_rfl
  | 3, _ => by kernel_rfl
  | 4, _ => by kernel_rfl
  | 5, _ => by kernel_rfl
  | 6, _ => by kernel_rfl
  | 7, _ => by kernel_rfl
  | 8, _ => by kernel_rfl
  | 9, _ => by kernel_rfl
  | k + 10, h => absurd h (by omega)
end Go.Proofs.YtaffplmfnincfaaGreatDoor
