/- Slices of a block; make. -/
import Derived.Test.YtcgjolonapndgabDoorNum
import Derived.Deep.RegionHeld3
namespace Go.Proofs.YtcgjolonapndgabDoor
open Go.RowKit Go.Maps Go.ChangeMaps Go.MapKept
/-- b[i:j] of a slice of a block. -/
theorem cut_mid (s g i j : Nat) (hi : i ≤ j) (hj : j ≤ s) (h0 : i < s) (W : World) : (Instr.slice 25 (.slice (some ⟨g, 0, none⟩) s s) (some (.int .i64 (i : Int))) (some (.int .i64 (j : Int))) none).run Tryd.prog W = .ok (.slice (some ⟨g, i, none⟩) (j - i) (s - i)) W := by
  rw [run_slice_lh W 25 (some ⟨g, 0, none⟩) s s elem33 .i64 .i64 i j (by omega) (by omega) (by omega), size5]
  simp only [Result.andThen, sliced, Int.toNat_natCast]
  rw [if_neg (by omega)]
  simp [add_at]
/-- make([]byte, n) beside a struct. -/
theorem makeB (w : World) (s : Nat) (hs : s ≤ 1000000) (o : Obj) : ∃ W, (Instr.makeSlice 25 (.int .i64 s) (.int .i64 s)).run Tryd.prog (w.alloc o) = .ok (.slice (some ⟨w.heap.size + 1, 0, none⟩) s s) W ∧ Row W (w.heap.size + 1) (zeros s) ∧ W.heap[w.heap.size]? = some o ∧ Below w.heap.size w W ∧ W.heap.size = w.heap.size + 2 := by
  have hm := makeZ (w.alloc o) s hs
  rw [World.size_alloc] at hm
  refine ⟨_, hm, ?_, ?_, ((Below.refl _ w).alloc (Nat.le_refl _) _).alloc (by simp) _, by simp⟩
  · have := (heap_alloc (w.alloc o) (.cells ((zeros s).map (Value.int .u8)).toArray 5)).1
    unfold Row
    simpa using this
  · rw [(heap_alloc (w.alloc o) _).2 _ (by simp)]
    exact heap_alloc_new w o
theorem Row.drew {w : World} {g : Nat} {bs : List Int} (h : Row w g bs) : Row w.drew g bs := h
theorem heap1d (w : World) (a : Obj) : (w.alloc a).drew.heap[w.heap.size]? = some a := heap_alloc_new w a
theorem bel1d (w : World) (a : Obj) : Below w.heap.size w (w.alloc a).drew := ((Below.refl _ w).alloc (Nat.le_refl _) a).drew
theorem Row.allocd {w : World} {g : Nat} {bs : List Int} (h : Row w g bs) (o : Obj) : Row (w.alloc o).drew g bs := ((heap_alloc w o).2 g h.lt).trans h
theorem splice_end (z q : List Int) (n : Nat) (hz : z.length = n + q.length) : splice z n q = z.take n ++ q := by
  unfold splice
  rw [List.drop_eq_nil_of_le (by omega)]; simp
theorem Bts.split {w : World} {v : Value} {bs : List Int} (hb : Bts w v bs) : ∃ a c, v = .slice a bs.length c := by
  obtain ⟨a, c, h, _⟩ := hb
  exact ⟨a, c, h⟩
end Go.Proofs.YtcgjolonapndgabDoor
