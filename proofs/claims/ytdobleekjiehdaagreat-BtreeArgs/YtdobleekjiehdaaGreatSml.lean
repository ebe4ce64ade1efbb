/- Pages that are too small: the first errors of all calls. -/
import Derived.Test.YtdobleekjiehdaaGreatNil
import Derived.Test.YtdobleekjiehdaaGreatRm
namespace Go.Proofs.YtdobleekjiehdaaGreat
set_option linter.unusedVariables false
open Go.RowKit Go.Maps Go.ChangeMaps Go.MapKept
set_option maxRecDepth 100000 in
set_option maxHeartbeats 1000000 in
theorem find_small (a b c : Int) (k v : ByteArray) (W : World) (m : Nat) (room : Int) (hm : m < W.heap.size) (h : W.cell? ⟨m, 2, none⟩ = some (.int .i64 room)) (hr : room < 480) : Calls Tryz.prog 31 #[.iface 26 (.pointer (some ⟨m, 0, none⟩)), .agg #[.int .i64 a, .int .i64 b, .int .i64 c], .string k, .string v] W fun e w' => e = .returned (.tuple #[.pointer none, .int .i64 2]) ∧ Below W.heap.size W w' := by
  have hB := (Below.refl W.heap.size W).alloc (Nat.le_refl _) (.cells #[.int .i64 a, .int .i64 b, .int .i64 c] 31)
  have hso := setOut_small m room (W.alloc (.cells #[.int .i64 a, .int .i64 b, .int .i64 c] 31)) ((hB.cell (p := ⟨m, 2, none⟩) hm).trans h) hr
  go_enter Tryz.func31, Tryz.ntmps31
  go_wp2_with (first | (go_at_call 34; refine hso.mono ?_; rintro e w' ⟨rfl, hw'⟩; subst w'))
  go_ret2
  exact ⟨rfl, hB⟩
set_option maxRecDepth 100000 in
set_option maxHeartbeats 1000000 in
theorem get_small (a b c : Int) (k : ByteArray) (W : World) (m : Nat) (room : Int) (hm : m < W.heap.size) (h : W.cell? ⟨m, 2, none⟩ = some (.int .i64 room)) (hr : room < 480) : Calls Tryz.prog 16 #[.iface 26 (.pointer (some ⟨m, 0, none⟩)), .agg #[.int .i64 a, .int .i64 b, .int .i64 c], .string k] W fun e w' => e = .returned (.tuple #[.string ⟨#[]⟩, .bool false, .int .i64 2]) ∧ Below W.heap.size W w' := by
  have hB := (Below.refl W.heap.size W).alloc (Nat.le_refl _) (.cells #[.int .i64 a, .int .i64 b, .int .i64 c] 31)
  have hfi := find_small a b c k ⟨#[]⟩ (W.alloc (.cells #[.int .i64 a, .int .i64 b, .int .i64 c] 31)) m room (Nat.lt_of_lt_of_le hm hB.size) ((hB.cell (p := ⟨m, 2, none⟩) hm).trans h) hr
  go_enter Tryz.func16, Tryz.ntmps16
  go_wp2_with (first | (go_at_call 31; refine hfi.mono ?_; rintro e w2 ⟨rfl, hb2⟩))
  refine bodyPost_ret (v := .tuple #[.string ⟨#[]⟩, .bool false, .int .i64 2]) (by simp [results, Tryz.results16, go_sem]) rfl ⟨rfl, hB.trans (hb2.mono hB.size)⟩
set_option maxRecDepth 100000 in
set_option maxHeartbeats 1000000 in
theorem pages_small (a b c : Int) (W : World) (m : Nat) (room : Int) (hm : m < W.heap.size) (h : W.cell? ⟨m, 2, none⟩ = some (.int .i64 room)) (hr : room < 480) : Calls Tryz.prog 21 #[.iface 26 (.pointer (some ⟨m, 0, none⟩)), .agg #[.int .i64 a, .int .i64 b, .int .i64 c]] W fun e w' => e = .returned (.tuple #[.slice none 0 0, .int .i64 2]) ∧ Below W.heap.size W w' := by
  have hB := (Below.refl W.heap.size W).alloc (Nat.le_refl _) (.cells #[.int .i64 a, .int .i64 b, .int .i64 c] 31)
  have hso := setOut_small m room (W.alloc (.cells #[.int .i64 a, .int .i64 b, .int .i64 c] 31)) ((hB.cell (p := ⟨m, 2, none⟩) hm).trans h) hr
  go_enter Tryz.func21, Tryz.ntmps21
  go_wp2_with (first | (go_at_call 34; refine hso.mono ?_; rintro e w' ⟨rfl, hw'⟩; subst w'))
  refine bodyPost_ret (v := .tuple #[.slice none 0 0, .int .i64 2]) (by simp [results, Tryz.results21, go_sem]) rfl ⟨rfl, ?_⟩
  exact hB.alloc hB.size _
set_option maxRecDepth 100000 in
set_option maxHeartbeats 1000000 in
theorem put_small (a b c : Int) (k v : ByteArray) (W : World) (m : Nat) (room : Int) (hm : m < W.heap.size) (h : W.cell? ⟨m, 2, none⟩ = some (.int .i64 room)) (hr : room < 480) : Calls Tryz.prog 26 #[.iface 26 (.pointer (some ⟨m, 0, none⟩)), .agg #[.int .i64 a, .int .i64 b, .int .i64 c], .string k, .string v] W fun e w' => e = .returned (.tuple #[.agg #[.int .i64 0, .int .i64 0, .int .i64 0], .slice none 0 0, .int .i64 2]) ∧ Below W.heap.size W w' := by
  have hB := (Below.refl W.heap.size W).alloc (Nat.le_refl _) (.cells #[.int .i64 a, .int .i64 b, .int .i64 c] 31)
  have hB2 := hB.alloc hB.size (.cells #[.int .i64 0, .int .i64 0, .int .i64 0] 31)
  have hc : (((W.alloc (.cells #[.int .i64 a, .int .i64 b, .int .i64 c] 31)).alloc (.cells #[.int .i64 0, .int .i64 0, .int .i64 0] 31))).heap[W.heap.size + 1]? = some (.cells #[.int .i64 0, .int .i64 0, .int .i64 0] 31 (0, 0)) := by
    have := heap_alloc_new (W.alloc (.cells #[.int .i64 a, .int .i64 b, .int .i64 c] 31)) (.cells #[.int .i64 0, .int .i64 0, .int .i64 0] 31)
    rw [World.size_alloc] at this
    exact this
  have hfi := find_small a b c k v ((W.alloc (.cells #[.int .i64 a, .int .i64 b, .int .i64 c] 31)).alloc (.cells #[.int .i64 0, .int .i64 0, .int .i64 0] 31)) m room (Nat.lt_of_lt_of_le hm hB2.size) ((hB2.cell (p := ⟨m, 2, none⟩) hm).trans h) hr
  go_enter Tryz.func26, Tryz.ntmps26
  go_wp2_with (first | (go_at_call 31; refine hfi.mono ?_; rintro e w2 ⟨rfl, hb2⟩; have hc2 := (hb2.block _ (Array.getElem?_eq_some_iff.1 hc).1).trans hc; have k0 : w2.cell? ⟨W.heap.size + 1, 0, none⟩ = some (.int .i64 0) := (by simp [World.cell?, hc2]); have k1 : w2.cell? ⟨W.heap.size + 1, 1, none⟩ = some (.int .i64 0) := (by simp [World.cell?, hc2]); have k2 : w2.cell? ⟨W.heap.size + 1, 2, none⟩ = some (.int .i64 0) := (by simp [World.cell?, hc2]); have f0 : w2.frozen? ⟨W.heap.size + 1, 0, none⟩ = false := (by simp [World.frozen?, hc2]); have f1 : w2.frozen? ⟨W.heap.size + 1, 1, none⟩ = false := (by simp [World.frozen?, hc2]); have f2 : w2.frozen? ⟨W.heap.size + 1, 2, none⟩ = false := (by simp [World.frozen?, hc2])))
  have hB3 := hB2.trans (hb2.mono hB2.size)
  refine bodyPost_ret (v := .tuple #[.agg #[.int .i64 0, .int .i64 0, .int .i64 0], .slice none 0 0, .int .i64 2]) (by simp [results, Tryz.results26, go_sem, k0, k1, k2]) rfl ⟨rfl, ?_⟩
  first
    | exact hB3
    | exact ((hB3.setCell (p := ⟨W.heap.size + 1, 0, none⟩) (Nat.le_succ _) _).setCell (p := ⟨W.heap.size + 1, 1, none⟩) (Nat.le_succ _) _).setCell (p := ⟨W.heap.size + 1, 2, none⟩) (Nat.le_succ _) _
end Go.Proofs.YtdobleekjiehdaaGreat
