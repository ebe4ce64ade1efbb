/- The comparison: strings.Compare 24, cmp.Compare 25, cmp.Or 23, the closure 22. -/
import Derived.Test.YtnbhnnjgnojgbaaLe
import Derived.Shelf.Small.Strs
namespace Go.Proofs
open Go.Shelf
def Try.lays106_ren : Go.Shelf.Ren := ⟨fun | 106 => 24 | 213 => 28 | 265 => 32 | n => n, fun | 9 => 9 | 3 => 3 | n => n, fun | n => n⟩
theorem Try.lays106 : Go.Proofs.Lays.n106 Try.prog Try.lays106_ren := {
  mixed := by kernel_rfl
  f106 := Try.func24.trans (congrArg some (by kernel_rfl))
  f213 := Try.func28.trans (congrArg some (by kernel_rfl))
  f265 := Try.func32.trans (congrArg some (by kernel_rfl))
  t3 := Try.underlying3
  a3 := Try.isAgg3
  z3 := Try.sizeOf3
  v3 := Try.zeroValue3
  t9 := Try.underlying9
  a9 := Try.isAgg9
  z9 := Try.sizeOf9
  v9 := Try.zeroValue9 }
end Go.Proofs
namespace Go.Proofs.Ytnbhnnjgnojgbaa
set_option linter.unusedVariables false
open Go.RowKit
def cS (a b : ByteArray) : Int := Lib.compareBytes a.data.toList b.data.toList
def cI (x y : Int) : Int := if x < y then -1 else if y < x then 1 else 0
def orI (a b c : Int) : Int := if a = 0 then (if b = 0 then c else b) else a
def cmpJ (x y : Jb) : Int := orI (cS x.fo y.fo) (cS x.gr y.gr) (cI x.id y.id)
theorem cs24 (a b : ByteArray) (w : World) : Calls Try.prog 24 #[.string a, .string b] w fun e w' => e = .returned (.int .i64 (cS a b)) ∧ w' = w := Any.strings_Compare Try.lays106 a b w
set_option maxRecDepth 100000 in
set_option maxHeartbeats 1000000 in
theorem ci25 (x y : Int) (w : World) : Calls Try.prog 25 #[.int .i64 x, .int .i64 y] w fun e w' => e = .returned (.int .i64 (cI x y)) ∧ w' = w := by
  by_cases h1 : x < y
  · have hf : Hid (cI x y = -1) := by show _ = _; unfold cI; rw [if_pos h1]
    go_enter Try.func25, Try.ntmps25
    go_wp2
    go_ret
    exact ⟨by rw [hf.out]; rfl, rfl⟩
  · by_cases h2 : y < x
    · have hf : Hid (cI x y = 1) := by show _ = _; unfold cI; rw [if_neg h1, if_pos h2]
      go_enter Try.func25, Try.ntmps25
      go_wp2
      go_ret
      exact ⟨by rw [hf.out]; rfl, rfl⟩
    · have hf : Hid (cI x y = 0) := by show _ = _; unfold cI; rw [if_neg h1, if_neg h2]
      go_enter Try.func25, Try.ntmps25
      go_wp2
      go_ret
      exact ⟨by rw [hf.out]; rfl, rfl⟩
def eI3 : Enc Int where
  arr a := [.int .i64 a]
  d := 0
  k := 1
  len _ := rfl
  one _ u hu := by simp at hu; subst hu; rfl
  pos := by decide
set_option maxRecDepth 100000 in
set_option maxHeartbeats 1000000 in
theorem or23 (a b c : Int) (w : World) : Calls Try.prog 23 #[.slice (some ⟨w.heap.size, 0, none⟩) 3 3] (w.alloc (.cells #[.int .i64 a, .int .i64 b, .int .i64 c] 3)) fun e w' => e = .returned (.int .i64 (orI a b c)) ∧ Below w.heap.size w w' := by
  have hb0 : Hid (Below w.heap.size w (w.alloc (.cells #[.int .i64 a, .int .i64 b, .int .i64 c] 3))) := (Below.refl _ w).alloc (Nat.le_refl _) _
  have c0 : (w.alloc (.cells #[.int .i64 a, .int .i64 b, .int .i64 c] 3)).cell? ⟨w.heap.size, 0, none⟩ = some (.int .i64 a) := by unfold World.cell?; rw [heap_new]; rfl
  have c1 : (w.alloc (.cells #[.int .i64 a, .int .i64 b, .int .i64 c] 3)).cell? ⟨w.heap.size, 1, none⟩ = some (.int .i64 b) := by unfold World.cell?; rw [heap_new]; rfl
  have c2 : (w.alloc (.cells #[.int .i64 a, .int .i64 b, .int .i64 c] 3)).cell? ⟨w.heap.size, 2, none⟩ = some (.int .i64 c) := by unfold World.cell?; rw [heap_new]; rfl
  generalize w.alloc (.cells #[.int .i64 a, .int .i64 b, .int .i64 c] 3) = W at *
  have hf : Hid (orI a b c = _) := orI.eq_def a b c
  by_cases ha : a = 0
  · subst ha
    by_cases hb : b = 0
    · subst hb
      by_cases hc : c = 0
      · subst hc
        go_enter Try.func23, Try.ntmps23
        go_wp2
        refine wp_loop_rounds 4 ?_
        iterate 4 (rw [rounds_succ]; go_wp2)
        go_ret
        exact ⟨by rw [hf.out]; rfl, hb0.out⟩
      · have hcb : (c == 0) = false := by simpa using hc
        have hcn : (c != 0) = true := by simpa using hc
        go_enter Try.func23, Try.ntmps23
        go_wp2
        refine wp_loop_rounds 3 ?_
        iterate 3 (rw [rounds_succ]; go_wp2)
        go_ret
        exact ⟨by rw [hf.out]; rfl, hb0.out⟩
    · have hcb : (b == 0) = false := by simpa using hb
      have hcn : (b != 0) = true := by simpa using hb
      have hff : Hid (orI 0 b c = b) := by show _ = _; unfold orI; rw [if_pos rfl, if_neg hb]
      clear hb
      go_enter Try.func23, Try.ntmps23
      go_wp2
      refine wp_loop_rounds 2 ?_
      iterate 2 (rw [rounds_succ]; go_wp2)
      go_ret
      exact ⟨by rw [hff.out]; rfl, hb0.out⟩
  · have hcb : (a == 0) = false := by simpa using ha
    have hcn : (a != 0) = true := by simpa using ha
    have hff : Hid (orI a b c = a) := by show _ = _; unfold orI; rw [if_neg ha]
    clear ha
    go_enter Try.func23, Try.ntmps23
    go_wp2
    refine wp_loop_rounds 1 ?_
    iterate 1 (rw [rounds_succ]; go_wp2)
    go_ret
    exact ⟨by rw [hff.out]; rfl, hb0.out⟩
end Go.Proofs.Ytnbhnnjgnojgbaa
