/- Nm; Is; Qb. -/
import Derived.Test.YtaffplmfnincfaaGreatDoorBaRw
import Derived.SizedLaws
import Derived.Laws.StructEq
import Derived.WalkSmall
/- Names: isLetter, isDigit, isName; the document's Name. -/
namespace Go.Proofs.YtaffplmfnincfaaGreatDoor
set_option linter.unusedVariables false
open Go.RowKit
def letterB (c : Int) : Bool := (97 ≤ c ∧ c ≤ 122) || (65 ≤ c ∧ c ≤ 90) || c = 95
def digitB (c : Int) : Bool := decide (48 ≤ c ∧ c ≤ 57)
/-- The byte at place k. -/
def byteAt (s : ByteArray) (k : Nat) : Int := (numsS s).getD k 0
theorem byteAt_in (s : ByteArray) (k : Nat) : 0 ≤ byteAt s k ∧ byteAt s k < 256 := by
  unfold byteAt
  by_cases h : k < (numsS s).length
  · exact numsS_bytes s _ (lgetD_mem _ _ _ h)
  · rw [List.getD_eq_getElem?_getD, List.getElem?_eq_none (by omega)]; decide
theorem byteAt_get (s : ByteArray) (k : Nat) (h : k < s.size) : (s[k].toNat : Int) = byteAt s k := by
  unfold byteAt numsS
  have h2 : k < s.data.toList.length := by simpa using h
  rw [List.getD_eq_getElem?_getD, List.getElem?_map, List.getElem?_eq_getElem h2]
  simp [ByteArray.getElem_eq_getElem_data]
/-- The first k bytes may be in a name. -/
def nameTo (s : ByteArray) (k : Nat) : Prop := ∀ j, j < k → nameC (j == 0) (byteAt s j) = true
open Classical in
/-- It is a name. -/
noncomputable def nameB (s : ByteArray) : Bool := decide (IsName s)
end Go.Proofs.YtaffplmfnincfaaGreatDoor
/- Labels that may be (mayBe, Is); num, own, small, Same. -/
namespace Go.Proofs.YtaffplmfnincfaaGreatDoor
set_option linter.unusedVariables false
open Go.RowKit
/-- A label as a value. -/
def lbV (a : Lb) : Value := .agg #[.string a.name, .string a.value]
open Classical in
noncomputable def lbB (a : Lb) : Bool := decide (IsLb a)
/-- No text of a label is longer than what may come in. -/
def LbR (a : Lb) : Prop := a.name.size ≤ reachBytes ∧ a.value.size ≤ reachBytes
def LbsR (l : List Lb) : Prop := ∀ a ∈ l, LbR a
theorem lret_bool {a b : Bool} (h : a = b) : Ending.returned (.bool a) = .returned (.bool b) := by rw [h]
set_option maxRecDepth 100000 in
set_option maxHeartbeats 1000000 in
theorem lnum_any (x : Int) (w : World) (h0 : -1000 ≤ x) (h1 : x ≤ 1000) : Calls Tryz.prog 14 #[.int .i64 x] w fun e w' => e = .returned (.int .i64 x) ∧ w' = w := by
  go_enter Tryz.func14, Tryz.ntmps14
  go_wp2
  go_ret
  exact ⟨rfl, rfl⟩
/-! ### small -/
/-- The bytes of all texts. -/
def total (l : List Lb) : Nat := (l.map fun p => p.name.size + p.value.size).sum
/-- Is a list small? -/
def smallB (l : List Lb) : Bool := decide (l.length ≤ 60 ∧ total l ≤ 20000)
/-! ### Same -/
/-- What Same tells. -/
def SameQ (l m : List Lb) (w : World) (e : Ending) (w' : World) : Prop := ∃ B, e = .returned (.bool B) ∧ (B = true ↔ l = m) ∧ Below w.heap.size w w'
theorem ltake_getD {α : Type} (l : List α) (d : α) (k : Nat) (h : k < l.length) : l.take (k + 1) = l.take k ++ [l.getD k d] := by
  rw [List.take_succ_eq_append_getElem h]; simp [h]
theorem toList_eq {s t : ByteArray} (h : (s.toList == t.toList) = true) : s = t := by
  have h := eq_of_beq h
  rw [Lib.toList_data, Lib.toList_data] at h
  exact ByteArray.ext (Array.toList_inj.1 h)
theorem toList_ne {s t : ByteArray} (h : s ≠ t) : (s.toList == t.toList) = false := by
  cases e : (s.toList == t.toList) with
  | false => rfl
  | true => exact absurd (toList_eq e) h
end Go.Proofs.YtaffplmfnincfaaGreatDoor
/- A region that draws its order, whose operations read and whose callees may lay blocks: walked once, in the class of the worlds in which all that lay ahead of it lies unturned. -/
namespace Go.Proofs.YtaffplmfnincfaaGreatDoor
set_option linter.unusedVariables false
open Go.RowKit
/-- A world in which all that lay in w lies unturned. -/
structure Bel (w : World) where
  W : World
  h : Below w.heap.size w W
instance (w : World) : Nonempty (Bel w) := ⟨⟨w, Below.refl _ _⟩⟩
theorem wp_region_bel {P : Program} {id : Nat} {Q : Exit → Act → World → Prop} {a : Act} {w : World} {l : List Oper} (hm : P.follows .mixedOrders = true) (hB : Region.lexB .any l.toArray = true)
    (h : wpQuiet P l.toArray (fun w' => ∃ p : Bel w, w' = p.W) (fun a' => ∀ w', (∃ p : Bel w, w' = p.W) → Q .normal a' w') l a) : (Code.region id l.toArray true).wp P Q a w :=
  wp_region_quiet (C := fun w' => ∃ p : Bel w, w' = p.W) hm hB ⟨⟨w.drew, (Below.refl _ _).drew⟩, rfl⟩ (by simpa using h)
theorem Calls.bel {P : Program} {f : FuncId} {args : Array Value} {w : World} {p : Bel w} {v : Value}
    (h : Calls P f args p.W fun e w' => e = .returned v ∧ Below p.W.heap.size p.W w') : Calls P f args p.W fun e w'' => e = .returned v ∧ ∃ q : Bel w, w'' = q.W :=
  h.mono fun _ w' ⟨he, hb⟩ => ⟨he, ⟨w', p.h.trans (hb.mono p.h.size)⟩, rfl⟩
theorem Bel.cell {w : World} (p : Bel w) {b o : Nat} {v : Value} (h : w.cell? ⟨b, o, none⟩ = some v) : p.W.cell? ⟨b, o, none⟩ = some v :=
  (p.h.cell (p := ⟨b, o, none⟩) (World.block_lt_of_cell? w _ h)).trans h
theorem calls_same {P : Program} {f : FuncId} {args : Array Value} {W : World} {v : Value} (h : Calls P f args W fun e w' => e = .returned v ∧ w' = W) : Calls P f args W fun e w' => e = .returned v ∧ Below W.heap.size W w' :=
  h.mono fun _ _ ⟨he, hw⟩ => ⟨he, hw ▸ Below.refl _ _⟩
end Go.Proofs.YtaffplmfnincfaaGreatDoor
