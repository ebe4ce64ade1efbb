/- The contracts of crown and rebuild: cells that lie in one leaf. -/
import Derived.Test.YtdobleekjiehdaaGreatLyn
namespace Go.Proofs.YtdobleekjiehdaaGreat
set_option linter.unusedVariables false
open Go.RowKit
section
variable {w : World} {m most size : Nat} {ps : List ByteArray}
theorem cells3 {b : Nat} {a0 a1 a2 : Value} {t : TypeId} (h : w.heap[b]? = some (.cells #[a0, a1, a2] t (0, 0))) : w.cell? ⟨b, 0, none⟩ = some a0 ∧ w.cell? ⟨b, 1, none⟩ = some a1 ∧ w.cell? ⟨b, 2, none⟩ = some a2 := by
  refine ⟨?_, ?_, ?_⟩ <;> simp [World.cell?, h]
theorem IsMem.set {b i : Nat} {u : Value} {c : Array Value} {t : TypeId} {fr : Nat × Nat} (h : IsMem w m ps most size) (hb : w.heap[b]? = some (.cells c t fr)) (h9 : t ≠ 9) (h29 : t ≠ 29) : IsMem (w.setCell ⟨b, i, none⟩ u) m ps most size := by
  obtain ⟨v, h1, h2⟩ := h
  have hmb : m ≠ b := fun e => by rw [← e, h1] at hb; cases hb; exact h29 rfl
  refine ⟨v, (Below.heap_setCell _ _ _ _ hmb).trans h1, World.ownsRow.kept h2 (grownBy_set (Below.refl _ w) b i u) ?_⟩
  rcases h2.2 with ⟨rfl, _⟩ | ⟨g, cap, cur, rfl, _, hgg, _⟩
  · exact .inl rfl
  · refine .inr (fun e => ?_)
    simp [Value.ownBlock] at e
    subst e
    rw [hb] at hgg
    cases hgg
    exact h9 rfl
theorem Kl.set {W : World} {b i : Nat} {u : Value} (h : Kl m w W) (hb : w.heap.size ≤ b) : Kl m w (W.setCell ⟨b, i, none⟩ u) :=
  ⟨h.os, h.tape, h.output, by simpa using h.size, fun k hk hm hn => (Below.heap_setCell _ _ _ _ (by show k ≠ b; omega)).trans (h.block k hk hm hn), fun k hk hm => (Below.heap_setCell _ _ _ _ (by show k ≠ b; omega)).trans (h.low k hk hm)⟩
set_option maxRecDepth 100000 in
set_option maxHeartbeats 2000000 in
theorem crown_empty (q lv : Nat) (a : Option Addr) (cap : Nat) : Calls Tryz.prog 65 #[.pointer (some ⟨q, 0, none⟩), .int .i64 lv, .slice a 0 cap] w fun e w' => e = .returned (.tuple #[.agg #[.int .i64 0, .int .i64 0, .int .i64 0], .int .i64 0]) ∧ Below w.heap.size w w' := by
  go_enter Tryz.func65, Tryz.ntmps65
  go_wp2_with fail
  refine bodyPost_ret (v := .tuple #[.agg #[.int .i64 0, .int .i64 0, .int .i64 0], .int .i64 0]) ?_ rfl ⟨rfl, (Below.refl _ w).alloc (Nat.le_refl _) _⟩
  rw [results_cell_tmp rfl]; simp [asAddr, Result.andThen, go_sem]
set_option maxRecDepth 100000 in
set_option maxHeartbeats 4000000 in
theorem crown_ok {q p mb : Nat} {vS : Value} {th : Bool} (hq : PathAt w q p vS th) (hw : WalkAt w p (.iface 26 (.pointer (some ⟨m, 0, none⟩))) size mb) (hm : IsMem w m ps most size) (hs1 : 480 ≤ size) (hs2 : size ≤ 1000000) (hmo : ps.length < most) (hpl : ps.length ≤ 1000000) (base : Nat) (a : Option Addr) (n cap : Nat) (l : List Cl) (ho : OwnC w base (.slice a n cap) l) (h0 : l ≠ []) (hok : ∀ c ∈ l, c.ok) (hcn : ∀ c ∈ l, c.count ≤ 2147483647) (hlen : (nodeB 1 l).length ≤ size) (hl : l.length ≤ 8000000) :
    Calls Tryz.prog 65 #[.pointer (some ⟨q, 0, none⟩), .int .i64 1, .slice a n cap] w fun e w' => e = .returned (.tuple #[.agg #[.int .i64 ((ps.length + 1 : Nat) : Int), .int .i64 (l.length : Int), .int .i64 1], .int .i64 0]) ∧ IsMem w' m (ps ++ [strOfNums (nodeB 1 l)]) most size ∧ Kl m w w' := by
  have hn : n = l.length := by obtain ⟨_, _, e⟩ := ho.shape; cases e; rfl
  have hn0 : ((n : Int) == 0) = false := by
    have : l.length ≠ 0 := fun e => h0 (List.length_eq_zero_iff.1 e)
    simp; omega
  have hB : Below w.heap.size w (w.alloc (.cells #[.int .i64 0, .int .i64 0, .int .i64 0] 31)) := (Below.refl _ w).alloc (Nat.le_refl _) _
  have hln := layNodes_ok (hq.keep (hB.block _ hq.lt)) (hw.keep (hB.block _ hw.lt)) (hm.grow hB) hs1 hs2 hmo hpl base a n cap l (ho.grow hB) h0 hok hcn hlen hl
  have hr : (w.alloc (.cells #[.int .i64 0, .int .i64 0, .int .i64 0] 31)).heap[w.heap.size]? = some (.cells #[.int .i64 0, .int .i64 0, .int .i64 0] 31 (0, 0)) := heap_alloc_new w _
  have hmB := hm.grow hB
  obtain ⟨P1, hP1⟩ : ∃ P1, Hid (P1 = ps.length + 1) := ⟨_, rfl⟩
  obtain ⟨L, hL⟩ : ∃ L, Hid (L = l.length) := ⟨_, rfl⟩
  rw [← hP1.out, ← hL.out] at hln ⊢
  clear hn
  generalize ps ++ [strOfNums (nodeB 1 l)] = ps2 at *
  generalize (l.getD 0 cl0).key = key at *
  clear ho hok hcn hlen h0 hq hw hm
  go_enter Tryz.func65, Tryz.ntmps65
  go_wp2_with fail
  generalize w.alloc (.cells #[.int .i64 0, .int .i64 0, .int .i64 0] 31) = W1 at *
  refine wp_loop_rounds 2 ?_
  rw [rounds_succ]
  go_wp2_with fail
  refine hln.mono ?_
  rintro e w3 ⟨v3, rfl, ho3, hm3, hk3⟩
  obtain ⟨a3, c3, rfl⟩ := ho3.shape
  obtain ⟨a', c', e3, _, hcs⟩ := ho3.cells
  cases e3
  rcases hcs with h1 | ⟨b, o, rfl, hcs⟩
  · cases h1
  obtain ⟨x0, x1, x2, x3⟩ := hcs 0 (by simp)
  rw [show o + 0 * 4 = o by omega] at x0 x1 x2 x3
  simp only [List.getD_cons_zero] at x0 x1 x2 x3
  have hr3 := hk3.cells hmB hr (by decide) (by decide)
  clear hcs hln
  simp only [List.length_singleton]
  have r0 : w3.cell? ⟨w.heap.size, 0, none⟩ = some (.int .i64 0) ∧ w3.cell? ⟨w.heap.size, 1, none⟩ = some (.int .i64 0) ∧ w3.cell? ⟨w.heap.size, 2, none⟩ = some (.int .i64 0) := by refine ⟨?_, ?_, ?_⟩ <;> simp [World.cell?, hr3]
  have rf : ∀ i, w3.frozen? ⟨w.heap.size, i, none⟩ = false := fun i => by simp [World.frozen?, hr3]
  obtain ⟨r0, r1, r2⟩ := r0
  have rf0 := rf 0
  have rf1 := rf 1
  have rf2 := rf 2
  clear rf
  go_wp2_with fail
  rw [rounds_succ]
  go_wp2_with fail
  go_region
  go_wp2_with fail
  have hrF : _ = some (Obj.cells #[.int .i64 (P1 : Int), .int .i64 (L : Int), .int .i64 1] 31 (0, 0)) := block_setCell (i := 2) (u := .int .i64 1) (block_setCell (i := 1) (u := .int .i64 (L : Int)) (block_setCell (i := 0) (u := .int .i64 (P1 : Int)) hr3))
  obtain ⟨f0, f1, f2⟩ := cells3 hrF
  have hS0 := IsMem.set (i := 0) (u := .int .i64 (P1 : Int)) hm3 hr3 (by decide) (by decide)
  have hS1 := IsMem.set (i := 1) (u := .int .i64 (L : Int)) hS0 (block_setCell (i := 0) (u := .int .i64 (P1 : Int)) hr3) (by decide) (by decide)
  have hS2 := IsMem.set (i := 2) (u := .int .i64 1) hS1 (block_setCell (i := 1) (u := .int .i64 (L : Int)) (block_setCell (i := 0) (u := .int .i64 (P1 : Int)) hr3)) (by decide) (by decide)
  have hK0 : Kl m w w3 := (Kl.of_below hB).trans hk3
  refine bodyPost_ret (v := .tuple #[.agg #[.int .i64 (P1 : Int), .int .i64 (L : Int), .int .i64 1], .int .i64 0]) ?_ rfl ⟨rfl, ?_, ?_⟩
  · rw [results_cell_tmp rfl]
    simp [asAddr, Result.andThen, go_sem, f0, f1, f2]
  · exact hS2.grow (below_draw _ 1)
  · exact (((hK0.set (i := 0) (u := .int .i64 (P1 : Int)) (Nat.le_refl _)).set (i := 1) (u := .int .i64 (L : Int)) (Nat.le_refl _)).set (i := 2) (u := .int .i64 1) (Nat.le_refl _)).trans (Kl.of_below (below_draw _ 1))
end
end Go.Proofs.YtdobleekjiehdaaGreat
