/- A matcher that came in as a struct (LabelsAsk). -/
import Derived.Test.YtckchabcnmkbeaaAr
namespace Go.Proofs.Ytckchabcnmkbeaa
set_option linter.unusedVariables false
open Go.RowKit Go.ChangeShapes Go.WideShapes Go.ChangeAt
theorem mt_arg {H : Type} {enc : TypeId × Value → H} {W : World} {n : Nat} {v : Value} {b0 : Nat} {x : DataW H × List MemPlace} (hval : Value.okWide Try.prog W .any b0 46 v)
    (h : DataW.trod enc Try.prog W 0 (fun _ => true) true n 46 v.cells.toList = some x) (hF : Fits x.1 46) : ∃ m : Mt, v = mtV m ∧ MtR m := by
  obtain ⟨cs, rfl, hs⟩ := okWide_struct Try.underlying46 hval
  have k46 : Try.prog.cellsOf 46 = 3 := by kernel_rfl
  rw [k46] at hs
  obtain ⟨p, hcs, hp⟩ := mt_of_trod (by simpa [Value.cells] using hs) h hF
  refine ⟨p, ?_, hp⟩
  simp only [Value.cells] at hcs
  unfold mtV
  congr 1
  apply Array.toList_inj.1
  rw [hcs]
  rfl
/-! ### What the four signs say of one label -/
theorem sign_eq (val v : ByteArray) : holdsB ⟨#[61]⟩ val v = (v.toList == val.toList) := by
  have h : (⟨#[61]⟩ : ByteArray).toList = [61] := by decide +kernel
  unfold holdsB; rw [h]; rfl
theorem sign_ne (val v : ByteArray) : holdsB ⟨#[33, 61]⟩ val v = !(v.toList == val.toList) := by
  have h : (⟨#[33, 61]⟩ : ByteArray).toList = [33, 61] := by decide +kernel
  unfold holdsB; rw [h]; rfl
theorem sign_pre (val v : ByteArray) : holdsB ⟨#[94, 61]⟩ val v = preB v val := by
  have h : (⟨#[94, 61]⟩ : ByteArray).toList = [94, 61] := by decide +kernel
  unfold holdsB; rw [h]; rfl
theorem sign_npre (val v : ByteArray) : holdsB ⟨#[33, 94]⟩ val v = !preB v val := by
  have h : (⟨#[33, 94]⟩ : ByteArray).toList = [33, 94] := by decide +kernel
  unfold holdsB; rw [h]; rfl
theorem matchB_one (l : List Lb) (m : Mt) : matchB l [m] = holdsB m.op m.value (getL l m.name) := by simp [matchB]
theorem matchB_nil (l : List Lb) : matchB l [] = true := rfl
theorem matchB_more (l : List Lb) (ms : List Mt) (m : Mt) : matchB l (ms ++ [m]) = (matchB l ms && matchB l [m]) := by simp [matchB]
end Go.Proofs.Ytckchabcnmkbeaa
