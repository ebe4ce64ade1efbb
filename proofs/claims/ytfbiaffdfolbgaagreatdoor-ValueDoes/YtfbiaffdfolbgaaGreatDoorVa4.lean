/- odd, yes; Check, the document's, at three values. -/
import Derived.Test.YtfbiaffdfolbgaaGreatDoorVa3
namespace Go.Proofs.YtfbiaffdfolbgaaGreatDoor
set_option linter.unusedVariables false
open Go.RowKit
/-- Null or NaN. -/
def oddB (v : Vl) : Bool := (v.kind == 2) || (v.kind == 3)
set_option maxRecDepth 100000 in
theorem odd_any (v : Vl) (w : World) : Calls Tryz.prog 34 #[.agg #[.int .i64 v.kind, .int .i64 v.n]] w fun e w' => e = .returned (.bool (oddB v)) ∧ Below w.heap.size w w' := by
  unfold oddB
  cases h : (v.kind == 2)
  · go_enter Tryz.func34, Tryz.ntmps34
    go_wp2
    go_ret
    exact ⟨rfl, bW0 w _⟩
  · go_enter Tryz.func34, Tryz.ntmps34
    go_wp2
    go_ret
    exact ⟨rfl, bW0 w _⟩
theorem do2' (op : ByteArray) (a b : Vl) (w : World) : Calls Tryz.prog 10 #[.string op, .slice (some ⟨w.heap.size + 1 + 1, 0, none⟩) 2 2] (((w.alloc (.cells #[.int .i64 a.kind, .int .i64 a.n] 25)).alloc (.cells #[.int .i64 b.kind, .int .i64 b.n] 25)).alloc (.cells #[.int .i64 a.kind, .int .i64 a.n, .int .i64 b.kind, .int .i64 b.n] 25))
    fun e w' => e = .returned (.tuple #[vlV (doV op [a, b]), .int .i64 (doE op [a, b])]) ∧ Below ((w.alloc (.cells #[.int .i64 a.kind, .int .i64 a.n] 25)).alloc (.cells #[.int .i64 b.kind, .int .i64 b.n] 25)).heap.size ((w.alloc (.cells #[.int .i64 a.kind, .int .i64 a.n] 25)).alloc (.cells #[.int .i64 b.kind, .int .i64 b.n] 25)) w' := by
  have hsz : ((w.alloc (.cells #[.int .i64 a.kind, .int .i64 a.n] 25)).alloc (.cells #[.int .i64 b.kind, .int .i64 b.n] 25)).heap.size = w.heap.size + 1 + 1 := by simp
  rw [← hsz]
  exact do2 op a b _
set_option maxRecDepth 100000 in
set_option maxHeartbeats 1000000 in
theorem yes_any (op : ByteArray) (a b v : Vl) (T : Bool) (h1 : doV op [a, b] = v) (h2 : doE op [a, b] = 0) (hv : IsV v) (hT : truB v = T) (w : World) : Calls Tryz.prog 35 #[.string op, .agg #[.int .i64 a.kind, .int .i64 a.n], .agg #[.int .i64 b.kind, .int .i64 b.n]] w fun e w' => e = .returned (.bool T) ∧ Below w.heap.size w w' := by
  have hd := do2' op a b w
  rw [h1, h2] at hd
  have htr := fun W => true_any v hv W
  rw [hT] at htr
  have he := fun W => enum_any 0 W
  have hO := below2 w (.cells #[.int .i64 a.kind, .int .i64 a.n] 25) (.cells #[.int .i64 b.kind, .int .i64 b.n] 25)
  clear h1 h2 hv hT
  unfold vlV at *
  go_enter Tryz.func35, Tryz.ntmps35
  go_wp2_with (first | (go_at_call 10; refine hd.mono ?_; rintro e w1 ⟨rfl, hb1⟩; replace hO := hO.trans (hb1.mono hO.size); have hx := vlNew w1 v) | (go_at_call 15; with_reducible refine (he _).mono ?_; rintro e w2 ⟨rfl, hb2⟩; replace hO := (hO.alloc hO.size _).trans (hb2.mono (hO.alloc hO.size _).size); obtain ⟨x0, x1⟩ := (hx.grow hb2).cells) | (go_at_call 13; with_reducible refine (htr _).mono ?_; rintro e w3 ⟨rfl, hb3⟩; replace hO := hO.trans (hb3.mono hO.size)))
  go_ret
  exact ⟨rfl, hO⟩
theorem row3V (w : World) (a b c : Vl) : Vls (w.alloc (.cells #[.int .i64 a.kind, .int .i64 a.n, .int .i64 b.kind, .int .i64 b.n, .int .i64 c.kind, .int .i64 c.n] 25)) (.slice (some ⟨w.heap.size, 0, none⟩) 3 3) [a, b, c] := by
  refine ⟨_, _, rfl, .inr ⟨_, _, rfl, fun t ht => ?_⟩⟩
  have h : (w.alloc (.cells #[.int .i64 a.kind, .int .i64 a.n, .int .i64 b.kind, .int .i64 b.n, .int .i64 c.kind, .int .i64 c.n] 25)).heap[w.heap.size]? = some (.cells #[.int .i64 a.kind, .int .i64 a.n, .int .i64 b.kind, .int .i64 b.n, .int .i64 c.kind, .int .i64 c.n] 25) := by
    show (w.heap.push _)[w.heap.size]? = _; simp
  have ht3 : t = 0 ∨ t = 1 ∨ t = 2 := by simp at ht; omega
  unfold VAt World.cell?
  rw [h]
  rcases ht3 with rfl | rfl | rfl <;> simp
/-- At three values that the law has boxed. -/
theorem rc3' (a b c : Vl) (w : World) : Calls Tryz.prog 17 #[.slice (some ⟨w.heap.size + 1 + 1 + 1, 0, none⟩) 3 3] ((((w.alloc (.cells #[.int .i64 a.kind, .int .i64 a.n] 25)).alloc (.cells #[.int .i64 b.kind, .int .i64 b.n] 25)).alloc (.cells #[.int .i64 c.kind, .int .i64 c.n] 25)).alloc (.cells #[.int .i64 a.kind, .int .i64 a.n, .int .i64 b.kind, .int .i64 b.n, .int .i64 c.kind, .int .i64 c.n] 25))
    fun e w' => e = .returned (.int .i64 (chkE [a, b, c])) ∧ Below (((w.alloc (.cells #[.int .i64 a.kind, .int .i64 a.n] 25)).alloc (.cells #[.int .i64 b.kind, .int .i64 b.n] 25)).alloc (.cells #[.int .i64 c.kind, .int .i64 c.n] 25)).heap.size (((w.alloc (.cells #[.int .i64 a.kind, .int .i64 a.n] 25)).alloc (.cells #[.int .i64 b.kind, .int .i64 b.n] 25)).alloc (.cells #[.int .i64 c.kind, .int .i64 c.n] 25)) w' := by
  have hsz : (((w.alloc (.cells #[.int .i64 a.kind, .int .i64 a.n] 25)).alloc (.cells #[.int .i64 b.kind, .int .i64 b.n] 25)).alloc (.cells #[.int .i64 c.kind, .int .i64 c.n] 25)).heap.size = w.heap.size + 1 + 1 + 1 := by simp
  rw [← hsz]
  exact (rcheck_any _ [a, b, c] _ (row3V _ a b c) (by simp)).mono fun e w' ⟨h, hb⟩ => ⟨h, (bW0 _ _).trans (hb.mono (bW0 _ _).size)⟩
theorem chk3 {a b c : Vl} (h : chkE [a, b, c] = 0) : IsV a ∧ IsV b ∧ IsV c := by
  have hall : ∀ u ∈ [a, b, c], IsV u := by
    by_cases h2 : ∀ u ∈ [a, b, c], IsV u
    · exact h2
    · rw [chkE, if_neg h2] at h; omega
  exact ⟨hall a (by simp), hall b (by simp), hall c (by simp)⟩
end Go.Proofs.YtfbiaffdfolbgaaGreatDoor
