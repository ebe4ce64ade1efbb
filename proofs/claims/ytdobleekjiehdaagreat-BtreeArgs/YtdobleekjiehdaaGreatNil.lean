/- No pages: the first errors of all calls. -/
import Derived.Test.YtdobleekjiehdaaGreatTell
namespace Go.Proofs.YtdobleekjiehdaaGreat
set_option linter.unusedVariables false
open Go.RowKit Go.Maps Go.ChangeMaps Go.MapKept
set_option maxRecDepth 100000 in
set_option maxHeartbeats 1000000 in
theorem setOut_nil (W : World) : Calls Tryz.prog 34 #[Value.nilIface] W fun e w' => e = .returned (.tuple #[.pointer none, .int .i64 7]) ∧ w' = W := by
  go_enter Tryz.func34, Tryz.ntmps34
  go_wp2_with fail
  go_ret2
  exact ⟨rfl, rfl⟩
set_option maxRecDepth 100000 in
set_option maxHeartbeats 1000000 in
theorem find_nil (a b c : Int) (k v : ByteArray) (W : World) : Calls Tryz.prog 31 #[Value.nilIface, .agg #[.int .i64 a, .int .i64 b, .int .i64 c], .string k, .string v] W fun e w' => e = .returned (.tuple #[.pointer none, .int .i64 7]) ∧ Below W.heap.size W w' := by
  have hB := (Below.refl W.heap.size W).alloc (Nat.le_refl _) (.cells #[.int .i64 a, .int .i64 b, .int .i64 c] 31)
  go_enter Tryz.func31, Tryz.ntmps31
  go_wp2_with (first | (go_at_call 34; refine (setOut_nil _).mono ?_; rintro e w' ⟨rfl, hw'⟩; subst w'))
  go_ret2
  exact ⟨rfl, hB⟩
set_option maxRecDepth 100000 in
set_option maxHeartbeats 1000000 in
theorem get_nil (a b c : Int) (k : ByteArray) (W : World) : Calls Tryz.prog 16 #[Value.nilIface, .agg #[.int .i64 a, .int .i64 b, .int .i64 c], .string k] W fun e w' => e = .returned (.tuple #[.string ⟨#[]⟩, .bool false, .int .i64 7]) ∧ Below W.heap.size W w' := by
  have hB := (Below.refl W.heap.size W).alloc (Nat.le_refl _) (.cells #[.int .i64 a, .int .i64 b, .int .i64 c] 31)
  go_enter Tryz.func16, Tryz.ntmps16
  go_wp2_with (first | (go_at_call 31; refine (find_nil _ _ _ _ _ _).mono ?_; rintro e w2 ⟨rfl, hb2⟩))
  refine bodyPost_ret (v := .tuple #[.string ⟨#[]⟩, .bool false, .int .i64 7]) (by simp [results, Tryz.results16, go_sem]) rfl ⟨rfl, hB.trans (hb2.mono hB.size)⟩
set_option maxRecDepth 100000 in
set_option maxHeartbeats 1000000 in
theorem pages_nil (a b c : Int) (W : World) : Calls Tryz.prog 21 #[Value.nilIface, .agg #[.int .i64 a, .int .i64 b, .int .i64 c]] W fun e w' => e = .returned (.tuple #[.slice none 0 0, .int .i64 7]) ∧ Below W.heap.size W w' := by
  have hB := (Below.refl W.heap.size W).alloc (Nat.le_refl _) (.cells #[.int .i64 a, .int .i64 b, .int .i64 c] 31)
  go_enter Tryz.func21, Tryz.ntmps21
  go_wp2_with (first | (go_at_call 34; refine (setOut_nil _).mono ?_; rintro e w' ⟨rfl, hw'⟩; subst w'))
  refine bodyPost_ret (v := .tuple #[.slice none 0 0, .int .i64 7]) (by simp [results, Tryz.results21, go_sem]) rfl ⟨rfl, ?_⟩
  exact hB.alloc hB.size _
set_option maxRecDepth 100000 in
set_option maxHeartbeats 1000000 in
theorem put_nil (a b c : Int) (k v : ByteArray) (W : World) : Calls Tryz.prog 26 #[Value.nilIface, .agg #[.int .i64 a, .int .i64 b, .int .i64 c], .string k, .string v] W fun e w' => e = .returned (.tuple #[.agg #[.int .i64 0, .int .i64 0, .int .i64 0], .slice none 0 0, .int .i64 7]) ∧ Below W.heap.size W w' := by
  have hB := (Below.refl W.heap.size W).alloc (Nat.le_refl _) (.cells #[.int .i64 a, .int .i64 b, .int .i64 c] 31)
  have hB2 := hB.alloc hB.size (.cells #[.int .i64 0, .int .i64 0, .int .i64 0] 31)
  have hc : (((W.alloc (.cells #[.int .i64 a, .int .i64 b, .int .i64 c] 31)).alloc (.cells #[.int .i64 0, .int .i64 0, .int .i64 0] 31))).heap[W.heap.size + 1]? = some (.cells #[.int .i64 0, .int .i64 0, .int .i64 0] 31 (0, 0)) := by
    have := heap_alloc_new (W.alloc (.cells #[.int .i64 a, .int .i64 b, .int .i64 c] 31)) (.cells #[.int .i64 0, .int .i64 0, .int .i64 0] 31)
    rw [World.size_alloc] at this
    exact this
  go_enter Tryz.func26, Tryz.ntmps26
  go_wp2_with (first | (go_at_call 31; refine (find_nil _ _ _ _ _ _).mono ?_; rintro e w2 ⟨rfl, hb2⟩; have hc2 := (hb2.block _ (Array.getElem?_eq_some_iff.1 hc).1).trans hc; have k0 : w2.cell? ⟨W.heap.size + 1, 0, none⟩ = some (.int .i64 0) := (by simp [World.cell?, hc2]); have k1 : w2.cell? ⟨W.heap.size + 1, 1, none⟩ = some (.int .i64 0) := (by simp [World.cell?, hc2]); have k2 : w2.cell? ⟨W.heap.size + 1, 2, none⟩ = some (.int .i64 0) := (by simp [World.cell?, hc2]); have f0 : w2.frozen? ⟨W.heap.size + 1, 0, none⟩ = false := (by simp [World.frozen?, hc2]); have f1 : w2.frozen? ⟨W.heap.size + 1, 1, none⟩ = false := (by simp [World.frozen?, hc2]); have f2 : w2.frozen? ⟨W.heap.size + 1, 2, none⟩ = false := (by simp [World.frozen?, hc2])))
  have hB3 := hB2.trans (hb2.mono hB2.size)
  refine bodyPost_ret (v := .tuple #[.agg #[.int .i64 0, .int .i64 0, .int .i64 0], .slice none 0 0, .int .i64 7]) (by simp [results, Tryz.results26, go_sem, k0, k1, k2]) rfl ⟨rfl, ?_⟩
  first
    | exact hB3
    | exact ((hB3.setCell (p := ⟨W.heap.size + 1, 0, none⟩) (Nat.le_succ _) _).setCell (p := ⟨W.heap.size + 1, 1, none⟩) (Nat.le_succ _) _).setCell (p := ⟨W.heap.size + 1, 2, none⟩) (Nat.le_succ _) _
set_option maxRecDepth 100000 in
set_option maxHeartbeats 1000000 in
theorem delete_nil (a b c : Int) (k : ByteArray) (W : World) : Calls Tryz.prog 27 #[Value.nilIface, .agg #[.int .i64 a, .int .i64 b, .int .i64 c], .string k] W fun e w' => e = .returned (.tuple #[.agg #[.int .i64 0, .int .i64 0, .int .i64 0], .slice none 0 0, .int .i64 7]) ∧ Below W.heap.size W w' := by
  have hB := (Below.refl W.heap.size W).alloc (Nat.le_refl _) (.cells #[.int .i64 a, .int .i64 b, .int .i64 c] 31)
  have hB2 := hB.alloc hB.size (.cells #[.int .i64 0, .int .i64 0, .int .i64 0] 31)
  have hc : (((W.alloc (.cells #[.int .i64 a, .int .i64 b, .int .i64 c] 31)).alloc (.cells #[.int .i64 0, .int .i64 0, .int .i64 0] 31))).heap[W.heap.size + 1]? = some (.cells #[.int .i64 0, .int .i64 0, .int .i64 0] 31 (0, 0)) := by
    have := heap_alloc_new (W.alloc (.cells #[.int .i64 a, .int .i64 b, .int .i64 c] 31)) (.cells #[.int .i64 0, .int .i64 0, .int .i64 0] 31)
    rw [World.size_alloc] at this
    exact this
  go_enter Tryz.func27, Tryz.ntmps27
  go_wp2_with (first | (go_at_call 31; refine (find_nil _ _ _ _ _ _).mono ?_; rintro e w2 ⟨rfl, hb2⟩; have hc2 := (hb2.block _ (Array.getElem?_eq_some_iff.1 hc).1).trans hc; have k0 : w2.cell? ⟨W.heap.size + 1, 0, none⟩ = some (.int .i64 0) := (by simp [World.cell?, hc2]); have k1 : w2.cell? ⟨W.heap.size + 1, 1, none⟩ = some (.int .i64 0) := (by simp [World.cell?, hc2]); have k2 : w2.cell? ⟨W.heap.size + 1, 2, none⟩ = some (.int .i64 0) := (by simp [World.cell?, hc2]); have f0 : w2.frozen? ⟨W.heap.size + 1, 0, none⟩ = false := (by simp [World.frozen?, hc2]); have f1 : w2.frozen? ⟨W.heap.size + 1, 1, none⟩ = false := (by simp [World.frozen?, hc2]); have f2 : w2.frozen? ⟨W.heap.size + 1, 2, none⟩ = false := (by simp [World.frozen?, hc2])))
  have hB3 := hB2.trans (hb2.mono hB2.size)
  refine bodyPost_ret (v := .tuple #[.agg #[.int .i64 0, .int .i64 0, .int .i64 0], .slice none 0 0, .int .i64 7]) (by simp [results, Tryz.results27, go_sem, k0, k1, k2]) rfl ⟨rfl, ?_⟩
  first
    | exact hB3
    | exact ((hB3.setCell (p := ⟨W.heap.size + 1, 0, none⟩) (Nat.le_succ _) _).setCell (p := ⟨W.heap.size + 1, 1, none⟩) (Nat.le_succ _) _).setCell (p := ⟨W.heap.size + 1, 2, none⟩) (Nat.le_succ _) _
set_option maxRecDepth 100000 in
set_option maxHeartbeats 1000000 in
theorem scan_nil (a b c : Int) (k v : ByteArray) (W : World) : Calls Tryz.prog 18 #[Value.nilIface, .agg #[.int .i64 a, .int .i64 b, .int .i64 c], .string k, .string v] W fun e w' => e = .returned (.tuple #[.slice none 0 0, .int .i64 7]) ∧ Below W.heap.size W w' := by
  have hB := (Below.refl W.heap.size W).alloc (Nat.le_refl _) (.cells #[.int .i64 a, .int .i64 b, .int .i64 c] 31)
  go_enter Tryz.func18, Tryz.ntmps18
  go_wp2_with (first | (go_at_call 34; refine (setOut_nil _).mono ?_; rintro e w' ⟨rfl, hw'⟩; subst w'))
  refine bodyPost_ret (v := .tuple #[.slice none 0 0, .int .i64 7]) (by simp [results, Tryz.results18, go_sem]) rfl ⟨rfl, ?_⟩
  first
    | exact hB.alloc hB.size _
    | exact (hB.alloc hB.size _).alloc (Nat.le_trans hB.size (by simp)) _
    | trace_state
end Go.Proofs.YtdobleekjiehdaaGreat
