/- The mark of bytes: its mathematics, and the contracts of markByte and quill.Mark. -/
import Derived.Test.YtfbeilninpapaaaStrip
namespace Go.Proofs.Ytfbeilninpapaaa
open Go.RowKit
/-- One bit's step. -/
def mstep (m : Nat) : Nat := if m % 2 = 1 then (m / 2) ^^^ 3945912366 else m / 2
def miter : Nat → Nat → Nat
  | 0, m => m
  | k + 1, m => mstep (miter k m)
/-- One byte's step. -/
def mbyte (m : Nat) (c : Int) : Nat := miter 8 (m ^^^ c.toNat)
def mfold (m : Nat) (bs : List Int) : Nat := bs.foldl mbyte m
theorem mstep_lt (m : Nat) (h : m < 2 ^ 32) : mstep m < 2 ^ 32 := by
  unfold mstep
  split
  · exact Nat.xor_lt_two_pow (by omega) (by decide)
  · omega
theorem miter_lt (k m : Nat) (h : m < 2 ^ 32) : miter k m < 2 ^ 32 := by
  induction k with
  | zero => exact h
  | succ k ih => exact mstep_lt _ ih
theorem mbyte_lt (m : Nat) (c : Int) (h : m < 2 ^ 32) (hc : c < 256) : mbyte m c < 2 ^ 32 := miter_lt _ _ (Nat.xor_lt_two_pow h (by omega))
theorem mfold_lt (bs : List Int) (hby : IsBytes bs) : ∀ m, m < 2 ^ 32 → mfold m bs < 2 ^ 32 := by
  induction bs with
  | nil => intro m h; exact h
  | cons c r ih => intro m h; exact ih (fun x hx => hby x (by simp [hx])) _ (mbyte_lt m c h (hby c (by simp)).2)

theorem wrap_u32 (z : Int) (h0 : 0 ≤ z) (h1 : z < 2 ^ 32) : IntKind.u32.wrap z = z := by
  simp only [IntKind.wrap, IntKind.bits, IntKind.signed]
  simp
  omega
theorem bits_xor_u32 (a b : Nat) (ha : a < 2 ^ 32) (hb : b < 2 ^ 32) : bits .xor .u32 (a : Int) (b : Int) = ((a ^^^ b : Nat) : Int) := by
  have ha' : a % 2 ^ IntKind.u32.bits = a := Nat.mod_eq_of_lt ha
  have hb' : b % 2 ^ IntKind.u32.bits = b := Nat.mod_eq_of_lt hb
  have h := Nat.xor_lt_two_pow ha hb
  simp only [bits, BitVec.ofInt_natCast, BitVec.toNat_xor, BitVec.toNat_ofNat, ha', hb']
  exact wrap_u32 _ (by omega) (by omega)
theorem bits_and1_u32 (a : Nat) (ha : a < 2 ^ 32) : bits .and .u32 (a : Int) 1 = ((a % 2 : Nat) : Int) := by
  have h1 := bits_mask .u32 32 (by decide) wrap_u32 1 (by decide) a (by omega) (by omega)
  rw [show ((2 : Int) ^ 1 - 1) = 1 from rfl, show ((2 : Int) ^ 1) = 2 from rfl] at h1
  rw [h1]; omega

theorem mfold_append (m : Nat) (a b : List Int) : mfold m (a ++ b) = mfold (mfold m a) b := by simp [mfold]
theorem mfold_take (m : Nat) (bs : List Int) (k : Nat) (h : k < bs.length) : mfold m (bs.take (k + 1)) = mbyte (mfold m (bs.take k)) (bs.getD k 0) := by
  rw [List.take_succ_eq_append_getElem h, mfold_append]; simp [mfold, h]
theorem IsBytes.take {bs : List Int} (h : IsBytes bs) (k : Nat) : IsBytes (bs.take k) := fun c hc => h c (List.mem_of_mem_take hc)
theorem flatten_take (ls : List (List Int)) (k : Nat) (h : k < ls.length) : (ls.take (k + 1)).flatten = (ls.take k).flatten ++ ls.getD k [] := by
  rw [List.take_succ_eq_append_getElem h, List.flatten_append, List.getD_eq_getElem?_getD, List.getElem?_eq_getElem h]
  simp only [List.flatten_cons, List.flatten_nil, List.append_nil, Option.getD_some]
theorem isBytes_flatten (ls : List (List Int)) (h : ∀ p ∈ ls, IsBytes p) (k : Nat) : IsBytes (ls.take k).flatten := by
  intro c hc
  obtain ⟨p, hp, hcp⟩ := List.mem_flatten.1 hc
  exact h p (List.mem_of_mem_take hp) c hcp

end Go.Proofs.Ytfbeilninpapaaa
