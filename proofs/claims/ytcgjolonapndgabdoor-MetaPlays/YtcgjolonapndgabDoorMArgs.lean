/- A meta that came in; nil disks. -/
import Derived.Test.YtcgjolonapndgabDoorMLive
import Derived.Deep.Fields
import Derived.ChangeArms
import Derived.ProofKit
import Derived.ChangeOld
import Derived.Lay
import Derived.LaidOnce
import Derived.SevenTiedAt
namespace Go.Proofs.YtcgjolonapndgabDoor
open Go.RowKit Go.Maps Go.ChangeMaps Go.MapKept Go.ChangeShapes Go.WideShapes Go.ChangeAt Go.Deep
theorem bounds_i64 {n : Int} (h : (Lit.int .i64 n).wf = true) : -9223372036854775808 ≤ n ∧ n ≤ 9223372036854775807 := by
  simpa [Lit.wf, IntKind.min, IntKind.max, IntKind.signed, IntKind.bits] using h
theorem bounds_u64 {n : Int} (h : (Lit.int .u64 n).wf = true) : 0 ≤ n ∧ n < 18446744073709551616 := by
  have : 0 ≤ n ∧ n ≤ 18446744073709551615 := by simpa [Lit.wf, IntKind.min, IntKind.max, IntKind.signed, IntKind.bits] using h
  omega
/-- An int's bounds. -/
def In6 (n : Int) : Prop := -9223372036854775808 ≤ n ∧ n ≤ 9223372036854775807
section
variable {H : Type} {enc : TypeId × Value → H} {W : World} {n : Nat}
set_option maxRecDepth 100000 in
/-- A meta's cells, read. -/
theorem meta_cells {cs : List Value} {x : DataW H × List MemPlace} (hl : cs.length = 4) (h : DataW.trod enc Tryd.prog W 0 (fun _ => true) true n 24 cs = some x) :
    ∃ (q : Nat) (r k d : Int), cs = [.int .u64 q, .int .i64 r, .int .i64 k, .int .i64 d] ∧ q < 2 ^ 64 ∧ In6 r ∧ In6 k ∧ In6 d := by
  match cs, hl with
  | [v0, v1, v2, v3], _ =>
    obtain ⟨xs, k, _, _, _, hxl, hf⟩ := DataW.trod_struct Tryd.underlying24 h
    have g0 : DataW.trod enc Tryd.prog W 0 (fun _ => true) true k 22 (([v0, v1, v2, v3].drop 0).take (Tryd.prog.cellsOf 22)) = xs[0]? := hf 0 _ rfl
    have g1 : DataW.trod enc Tryd.prog W 0 (fun _ => true) true k 3 (([v0, v1, v2, v3].drop 1).take (Tryd.prog.cellsOf 3)) = xs[1]? := hf 1 _ rfl
    have g2 : DataW.trod enc Tryd.prog W 0 (fun _ => true) true k 3 (([v0, v1, v2, v3].drop 2).take (Tryd.prog.cellsOf 3)) = xs[2]? := hf 2 _ rfl
    have g3 : DataW.trod enc Tryd.prog W 0 (fun _ => true) true k 3 (([v0, v1, v2, v3].drop 3).take (Tryd.prog.cellsOf 3)) = xs[3]? := hf 3 _ rfl
    have k22 : Tryd.prog.cellsOf 22 = 1 := by kernel_rfl
    have k3 : Tryd.prog.cellsOf 3 = 1 := by kernel_rfl
    simp only [k22, k3, List.drop_zero, List.drop_succ_cons, List.take_succ_cons, List.take_zero] at g0 g1 g2 g3
    match xs, hxl with
    | [y0, y1, y2, y3], _ =>
      simp at g0 g1 g2 g3
      obtain ⟨a0, h01, _, h03⟩ := DataW.trod_int Tryd.underlying22 g0
      obtain ⟨a1, h11, _, h13⟩ := DataW.trod_int Tryd.underlying3 g1
      obtain ⟨a2, h21, _, h23⟩ := DataW.trod_int Tryd.underlying3 g2
      obtain ⟨a3, h31, _, h33⟩ := DataW.trod_int Tryd.underlying3 g3
      simp at h01 h11 h21 h31
      subst h01 h11 h21 h31
      have b0 := bounds_u64 h03
      obtain ⟨i, rfl⟩ : ∃ i : Nat, a0 = i := ⟨a0.toNat, by omega⟩
      exact ⟨i, a1, a2, a3, rfl, by omega, bounds_i64 h13, bounds_i64 h23, bounds_i64 h33⟩
set_option maxRecDepth 100000 in
theorem meta_arg {v : Value} {b0 : Nat} {d : DataW H} {ps : List MemPlace} (hval : Value.okWide Tryd.prog W .any b0 24 v) (h : DataW.Trod enc Tryd.prog W 0 (fun _ => true) true 24 v d ps) :
    ∃ (q : Nat) (r k d : Int), v = .agg #[.int .u64 q, .int .i64 r, .int .i64 k, .int .i64 d] ∧ q < 2 ^ 64 ∧ In6 r ∧ In6 k ∧ In6 d := by
  obtain ⟨cs, rfl, hs⟩ := okWide_struct Tryd.underlying24 hval
  obtain ⟨fuel, hf⟩ := h
  have k24 : Tryd.prog.cellsOf 24 = 4 := by kernel_rfl
  rw [k24] at hs
  obtain ⟨q, r, k, d, hcs, h1, h2, h3, h4⟩ := meta_cells (by simpa [Value.cells] using hs) hf
  refine ⟨q, r, k, d, ?_, h1, h2, h3, h4⟩
  simp only [Value.cells] at hcs
  congr 1
  apply Array.toList_inj.1
  rw [hcs]
end
/-- The variables that the rows list. -/
def laidV : List (String × DataW Unit) := [("unicode/utf8.acceptRanges", Rows.laid_unicode_utf8_acceptRanges), ("unicode/utf8.first", Rows.laid_unicode_utf8_first)]
set_option maxRecDepth 100000 in
theorem laidV_ok (os : Os) (args : Array Value) : laidMetH Tryd.prog laidV ((World.laidAll Tryd.prog os laidV).forCall (fun _ _ => 0) ⟨#[], args, []⟩).memory := by
  rw [MakeChecks.laidMetH_plain _ _ _ (by kernel_rfl)]
  exact laidMet_laidAll _ (by kernel_rfl) (by kernel_rfl)
set_option maxRecDepth 100000 in
set_option maxHeartbeats 1000000 in
theorem nil28 (per : Int) (W : World) :
    Calls Tryd.prog 28 #[.pointer none, .int .i64 per] W fun e w' => e = .returned (.tuple #[.agg #[.int .u64 0, .int .i64 0, .int .i64 0, .int .i64 0], .int .i64 7]) ∧ Below W.heap.size W w' := by
  have hB : Below W.heap.size W (W.alloc (.cells #[.int .u64 0, .int .i64 0, .int .i64 0, .int .i64 0] 24)) := (Below.refl _ _).alloc (Nat.le_refl _) _
  go_enter Tryd.func28, Tryd.ntmps28
  go_wp2_with fail
  exact bodyPost_ret (v := .tuple #[.agg #[.int .u64 0, .int .i64 0, .int .i64 0, .int .i64 0], .int .i64 7]) (by simp [results, Tryd.results28, go_sem]) rfl ⟨rfl, by first | exact hB | exact belFour _ _ _ _ hB (Nat.le_refl _)⟩
set_option maxRecDepth 100000 in
set_option maxHeartbeats 1000000 in
theorem nil18 (per : Int) (q : Nat) (r k d : Int) (W : World) :
    Calls Tryd.prog 18 #[.pointer none, .int .i64 per, .agg #[.int .u64 q, .int .i64 r, .int .i64 k, .int .i64 d]] W fun e w' => e = .returned (.int .i64 7) ∧ Below W.heap.size W w' := by
  have hB : Below W.heap.size W (W.alloc (.cells #[.int .u64 q, .int .i64 r, .int .i64 k, .int .i64 d] 24)) := (Below.refl _ _).alloc (Nat.le_refl _) _
  go_enter Tryd.func18, Tryd.ntmps18
  go_wp2_with fail
  go_ret
  exact ⟨rfl, hB⟩
end Go.Proofs.YtcgjolonapndgabDoor
