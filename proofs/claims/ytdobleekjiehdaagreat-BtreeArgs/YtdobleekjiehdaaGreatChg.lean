/- Parts of slices of cells; the contract of pages, whole; the contract of change. -/
import Derived.Test.YtdobleekjiehdaaGreatPgs
namespace Go.Proofs.YtdobleekjiehdaaGreat
set_option linter.unusedVariables false
open Go.RowKit Go.Maps Go.Sort Go.Shelf
theorem size90 (W : World) : (sizeOf (Tryz.prog.elem 100)).run Tryz.prog W = .ok 4 W := by kernel_rfl
theorem elem100 : Tryz.prog.underlying 100 = some (.slice (Tryz.prog.elem 100)) := by kernel_rfl
section
variable {w : World} {m most size : Nat} {ps : List ByteArray}
/-- v[k:]. -/
theorem cells_from {v : Value} {l : List Cl} (hb : Cells w v l) (k : Nat) (hk : k ≤ l.length) :
    ∃ v2, (∀ W, (Instr.slice 100 v (some (.int .i64 (k : Int))) none none).run Tryz.prog W = .ok v2 W) ∧ Cells w v2 (l.drop k) := by
  obtain ⟨a, c, rfl, ⟨hn, hc⟩, h1⟩ := hb
  refine ⟨sliced a k l.length c 4, fun W => ?_, ⟨if c = k then a else a.map (·.add (k * 4)), c - k, by simp only [sliced, List.length_drop], ⟨fun e => ?_, by simp; omega⟩, ?_⟩⟩
  · rw [run_slice_l W 100 a l.length c elem100 .i64 k (by omega) (by omega), size90]; simp [Result.andThen]
  · by_cases h : c = k
    · omega
    · rw [if_neg h] at e
      simp at e; have := hn e; omega
  · rcases h1 with rfl | ⟨b, o, rfl, hr⟩
    · exact .inl (by simp)
    · by_cases h : k = l.length
      · exact .inl (by simp [h])
      · refine .inr ⟨b, o + k * 4, ?_, fun t ht => ?_⟩
        · rw [if_neg (by omega)]; simp [add_at]
        · rw [List.length_drop] at ht
          have := hr (k + t) (by omega)
          rw [show o + k * 4 + t * 4 = o + (k + t) * 4 by omega]
          have e : (l.drop k).getD t cl0 = l.getD (k + t) cl0 := by simp
          rw [e]; exact this
/-- v[:k]. -/
theorem cells_to {v : Value} {l : List Cl} (hb : Cells w v l) (k : Nat) (hk : k ≤ l.length) :
    ∃ v2, (∀ W, (Instr.slice 100 v none (some (.int .i64 (k : Int))) none).run Tryz.prog W = .ok v2 W) ∧ Cells w v2 (l.take k) := by
  obtain ⟨a, c, rfl, ⟨hn, hc⟩, h1⟩ := hb
  refine ⟨sliced a 0 k c 4, fun W => ?_, ⟨if c = 0 then a else a.map (·.add (0 * 4)), c - 0, by simp only [sliced, List.length_take, Nat.min_eq_left hk, Nat.sub_zero], ⟨fun e => ?_, by simp; omega⟩, ?_⟩⟩
  · rw [run_slice_h W 100 a l.length c elem100 .i64 k (by omega) (by omega), size90]; simp [Result.andThen]
  · by_cases h : c = 0
    · omega
    · rw [if_neg h] at e
      simp at e; have := hn e; omega
  · rcases h1 with rfl | ⟨b, o, rfl, hr⟩
    · exact .inl (by simp)
    · by_cases h : k = 0
      · exact .inl (by simp [h])
      · refine .inr ⟨b, o, ?_, fun t ht => ?_⟩
        · rw [if_neg (by omega)]; simp [add_at]
        · rw [List.length_take] at ht
          have := hr t (by omega)
          have e : (l.take k).getD t cl0 = l.getD t cl0 := by simp [show t < k by omega]
          rw [e]; exact this
theorem pages_ok {p room mb n : Nat} {nv : Value} {S : Int → Bool} (hw : WalkAt w p nv room mb) (hn : n ≤ 1000000) (hm : Met w mb n S) (xs : List Int) (hp : xs.Pairwise (fun a b => a < b)) (hx : ∀ x, x ∈ xs ↔ S x = true) :
    Calls Tryz.prog 39 #[.pointer (some ⟨p, 0, none⟩)] w fun e w' => ∃ a c, e = .returned (.slice a xs.length c) ∧ Below w.heap.size w w' := by
  obtain ⟨D0, hown, hD⟩ := hm
  refine (pages_raw hw hn D0 hown).mono ?_
  rintro e w' ⟨v, ss, rfl, hS, hrow, hb⟩
  have hpm : xs.Perm (intKeys D0) := CollectedI.perm (left := fun _ => false) ⟨hp.imp (fun h => by omega), fun x => by
    rw [hx x]
    have := (hD x).1
    rw [this]
    cases h : S x <;> simp [h]⟩ hown law Tryz.underlying3 (fun _ => rfl)
  have e2 : ss.length = xs.length := (hS.trans hpm.symm).length_eq
  rw [e2] at hrow
  rcases hrow.2 with ⟨rfl, h0⟩ | ⟨g, cap, cur, rfl, _⟩
  · rw [h0]; exact ⟨none, 0, rfl, hb⟩
  · exact ⟨_, _, rfl, hb⟩
end
end Go.Proofs.YtdobleekjiehdaaGreat
