/- The contract of rebuild, of a path of one step. -/
import Derived.Test.YtdobleekjiehdaaGreatCrw
namespace Go.Proofs.YtdobleekjiehdaaGreat
set_option linter.unusedVariables false
open Go.RowKit
section
variable {w : World} {m most size : Nat} {ps : List ByteArray}
set_option maxRecDepth 100000 in
set_option maxHeartbeats 4000000 in
theorem rebuild_of {q p : Nat} {vS : Value} {th : Bool} {base id keys i : Nat} {u : Value} (hq : PathAt w q p vS th) (hst : StepAt w vS base id 1 keys u i) (a : Option Addr) (n cap : Nat) (A K C : Int) (Post : World → Prop)
    (hcr : ∀ W, Below w.heap.size w W → Calls Tryz.prog 65 #[.pointer (some ⟨q, 0, none⟩), .int .i64 1, .slice a n cap] W fun e w' => e = .returned (.tuple #[.agg #[.int .i64 A, .int .i64 K, .int .i64 C], .int .i64 0]) ∧ Post w' ∧ ∀ c, W.heap[w.heap.size]? = some (.cells c 31 (0, 0)) → w'.heap[w.heap.size]? = some (.cells c 31 (0, 0)))
    (hps : ∀ W j v c, Post W → W.heap[w.heap.size]? = some (.cells c 31 (0, 0)) → Post (W.setCell ⟨w.heap.size, j, none⟩ v)) :
    Calls Tryz.prog 54 #[.pointer (some ⟨q, 0, none⟩), .slice a n cap] w fun e w' => e = .returned (.tuple #[.agg #[.int .i64 A, .int .i64 K, .int .i64 C], .int .i64 0]) ∧ Post w' := by
  obtain ⟨B, cap2, rfl, hbB, hBl, ⟨c0, c1, c2⟩, _⟩ := hst.cells
  have hB : Below w.heap.size w (w.alloc (.cells #[.int .i64 0, .int .i64 0, .int .i64 0] 31)) := (Below.refl _ w).alloc (Nat.le_refl _) _
  have hr : (w.alloc (.cells #[.int .i64 0, .int .i64 0, .int .i64 0] 31)).heap[w.heap.size]? = some (.cells #[.int .i64 0, .int .i64 0, .int .i64 0] 31 (0, 0)) := heap_alloc_new w _
  have hq1 := hq.keep (hB.block _ hq.lt)
  have k1 := (hB.cell (p := ⟨B, 1, none⟩) hBl).trans c1
  have hcr1 := hcr _ hB
  obtain ⟨⟨q0, q1, q2⟩, _⟩ := hq1.cells
  clear c0 c1 c2 hst hcr
  go_enter Tryz.func54, Tryz.ntmps54
  go_upto_region 2 with fail
  generalize w.alloc (.cells #[.int .i64 0, .int .i64 0, .int .i64 0] 31) = W1 at *
  refine wp_loop_rounds 1 ?_
  rw [rounds_succ]
  go_wp2_with (first | (go_at_call 65; refine hcr1.mono ?_; rintro e w3 ⟨rfl, hp3, hk3⟩; have hr3 := hk3 _ hr; obtain ⟨r0, r1, r2⟩ := cells3 hr3; have rf : ∀ i, w3.frozen? ⟨w.heap.size, i, none⟩ = false := (fun i => by simp [World.frozen?, hr3]); have rf0 := rf 0; have rf1 := rf 1; have rf2 := rf 2; clear rf))
  have h1 := block_setCell (i := 0) (u := .int .i64 A) hr3
  have h2 := block_setCell (i := 1) (u := .int .i64 K) h1
  have hrF : _ = some (Obj.cells #[.int .i64 A, .int .i64 K, .int .i64 C] 31 (0, 0)) := block_setCell (i := 2) (u := .int .i64 C) h2
  obtain ⟨f0, f1, f2⟩ := cells3 hrF
  refine bodyPost_ret (v := .tuple #[.agg #[.int .i64 A, .int .i64 K, .int .i64 C], .int .i64 0]) ?_ rfl ⟨rfl, ?_⟩
  · rw [results_cell_tmp rfl]
    simp [asAddr, Result.andThen, go_sem, f0, f1, f2]
  · exact hps _ 2 _ _ (hps _ 1 _ _ (hps _ 0 _ _ hp3 hr3) h1) h2
theorem rebuild_empty {q p : Nat} {vS : Value} {th : Bool} {base id keys i : Nat} {u : Value} (hq : PathAt w q p vS th) (hst : StepAt w vS base id 1 keys u i) (a : Option Addr) (cap : Nat) :
    Calls Tryz.prog 54 #[.pointer (some ⟨q, 0, none⟩), .slice a 0 cap] w fun e w' => e = .returned (.tuple #[.agg #[.int .i64 0, .int .i64 0, .int .i64 0], .int .i64 0]) ∧ Below w.heap.size w w' := by
  refine rebuild_of hq hst a 0 cap 0 0 0 (fun w' => Below w.heap.size w w') (fun W hW => ?_) (fun W j v c hP _ => hP.setCell (p := ⟨w.heap.size, j, none⟩) (Nat.le_refl _) v)
  refine (crown_empty (w := W) q 1 a cap).mono ?_
  rintro e w' ⟨rfl, hb⟩
  exact ⟨rfl, hW.trans (hb.mono hW.size), fun c hc => (hb.block _ (lt_of_block hc)).trans hc⟩
theorem rebuild_ok {q p mb : Nat} {vS : Value} {th : Bool} {base2 id keys i : Nat} {u : Value} (hq : PathAt w q p vS th) (hst : StepAt w vS base2 id 1 keys u i) (hw : WalkAt w p (.iface 26 (.pointer (some ⟨m, 0, none⟩))) size mb) (hm : IsMem w m ps most size) (hs1 : 480 ≤ size) (hs2 : size ≤ 1000000) (hmo : ps.length < most) (hpl : ps.length ≤ 1000000) (base : Nat) (a : Option Addr) (n cap : Nat) (l : List Cl) (ho : OwnC w base (.slice a n cap) l) (h0 : l ≠ []) (hok : ∀ c ∈ l, c.ok) (hcn : ∀ c ∈ l, c.count ≤ 2147483647) (hlen : (nodeB 1 l).length ≤ size) (hl : l.length ≤ 8000000) :
    Calls Tryz.prog 54 #[.pointer (some ⟨q, 0, none⟩), .slice a n cap] w fun e w' => e = .returned (.tuple #[.agg #[.int .i64 ((ps.length + 1 : Nat) : Int), .int .i64 (l.length : Int), .int .i64 1], .int .i64 0]) ∧ IsMem w' m (ps ++ [strOfNums (nodeB 1 l)]) most size ∧ Kl m w w' := by
  refine rebuild_of hq hst a n cap _ _ 1 (fun w' => IsMem w' m (ps ++ [strOfNums (nodeB 1 l)]) most size ∧ Kl m w w') (fun W hW => ?_) (fun W j v c hP hc => ⟨hP.1.set hc (by decide) (by decide), hP.2.set (Nat.le_refl _)⟩)
  refine (crown_ok (hq.keep (hW.block _ hq.lt)) (hw.keep (hW.block _ hw.lt)) (hm.grow hW) hs1 hs2 hmo hpl base a n cap l (ho.grow hW) h0 hok hcn hlen hl).mono ?_
  rintro e w' ⟨rfl, hm', hk'⟩
  exact ⟨rfl, ⟨hm', (Kl.of_below hW).trans hk'⟩, fun c hc => hk'.cells (hm.grow hW) hc (by decide) (by decide)⟩
end
end Go.Proofs.YtdobleekjiehdaaGreat
