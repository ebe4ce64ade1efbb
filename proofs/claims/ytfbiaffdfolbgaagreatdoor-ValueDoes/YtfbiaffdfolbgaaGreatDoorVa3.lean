/- Check, the document's, at values that a law hands over. -/
import Derived.Test.YtfbiaffdfolbgaaGreatDoorVa2
namespace Go.Proofs.YtfbiaffdfolbgaaGreatDoor
set_option linter.unusedVariables false
open Go.RowKit
theorem rc2 (a b : Vl) (W : World) : Calls Tryz.prog 17 #[.slice (some ⟨W.heap.size, 0, none⟩) 2 2] (W.alloc (.cells #[.int .i64 a.kind, .int .i64 a.n, .int .i64 b.kind, .int .i64 b.n] 25)) fun e w' => e = .returned (.int .i64 (chkE [a, b])) ∧ Below W.heap.size W w' :=
  (rcheck_any _ [a, b] _ (row2V W a b) (by simp)).mono fun e w' ⟨h, hb⟩ => ⟨h, (bW0 W _).trans (hb.mono (bW0 W _).size)⟩
/-- At two values that the law has boxed. -/
theorem rc2' (a b : Vl) (w : World) : Calls Tryz.prog 17 #[.slice (some ⟨w.heap.size + 1 + 1, 0, none⟩) 2 2] (((w.alloc (.cells #[.int .i64 a.kind, .int .i64 a.n] 25)).alloc (.cells #[.int .i64 b.kind, .int .i64 b.n] 25)).alloc (.cells #[.int .i64 a.kind, .int .i64 a.n, .int .i64 b.kind, .int .i64 b.n] 25))
    fun e w' => e = .returned (.int .i64 (chkE [a, b])) ∧ Below ((w.alloc (.cells #[.int .i64 a.kind, .int .i64 a.n] 25)).alloc (.cells #[.int .i64 b.kind, .int .i64 b.n] 25)).heap.size ((w.alloc (.cells #[.int .i64 a.kind, .int .i64 a.n] 25)).alloc (.cells #[.int .i64 b.kind, .int .i64 b.n] 25)) w' := by
  have hsz : ((w.alloc (.cells #[.int .i64 a.kind, .int .i64 a.n] 25)).alloc (.cells #[.int .i64 b.kind, .int .i64 b.n] 25)).heap.size = w.heap.size + 1 + 1 := by simp
  rw [← hsz]
  exact rc2 a b _
theorem chk2 {a b : Vl} (h : chkE [a, b] = 0) : IsV a ∧ IsV b := by
  have hall : ∀ u ∈ [a, b], IsV u := by
    by_cases h2 : ∀ u ∈ [a, b], IsV u
    · exact h2
    · rw [chkE, if_neg h2] at h; omega
  exact ⟨hall a (by simp), hall b (by simp)⟩
end Go.Proofs.YtfbiaffdfolbgaaGreatDoor
