/- The contracts of last, value and Get, at trees of one leaf. -/
import Derived.Test.YtdobleekjiehdaaGreatFnd
namespace Go.Proofs.YtdobleekjiehdaaGreat
set_option linter.unusedVariables false
open Go.RowKit
section
variable {w : World} {m most size : Nat} {ps : List ByteArray}
theorem StepAt.cells {vS v : Value} {base id lv keys i : Nat} (h : StepAt w vS base id lv keys v i) : ∃ B cap, vS = .slice (some ⟨B, 0, none⟩) 1 cap ∧ base ≤ B ∧ B < w.heap.size ∧ (w.cell? ⟨B, 0, none⟩ = some (.int .i64 id) ∧ w.cell? ⟨B, 1, none⟩ = some (.int .i64 lv) ∧ w.cell? ⟨B, 2, none⟩ = some (.int .i64 keys)) ∧ (w.cell? ⟨B, 3, none⟩ = some (.string ⟨#[]⟩) ∧ w.cell? ⟨B, 4, none⟩ = some (.string ⟨#[]⟩)) ∧ w.cell? ⟨B, 5, none⟩ = some v ∧ w.cell? ⟨B, 6, none⟩ = some (.int .i64 i) := by
  obtain ⟨B, cap, C, rfl, hb, hC, ht⟩ := h
  have key : ∀ j u, j < 7 → (stepC id lv keys v i)[j]? = some u → w.cell? ⟨B, j, none⟩ = some u := fun j u hj hu => by
    rw [← ht, List.getElem?_take, if_pos hj, Array.getElem?_toList] at hu
    simp only [World.cell?, hC]
    exact hu
  exact ⟨B, cap, rfl, hb, lt_of_block hC, ⟨key 0 _ (by omega) rfl, key 1 _ (by omega) rfl, key 2 _ (by omega) rfl⟩, ⟨key 3 _ (by omega) rfl, key 4 _ (by omega) rfl⟩, key 5 _ (by omega) rfl, key 6 _ (by omega) rfl⟩
theorem StepAt.keep {W : World} {vS v : Value} {base id lv keys i : Nat} (h : StepAt w vS base id lv keys v i) (hb : ∀ B, base ≤ B → B < w.heap.size → (∃ c, w.heap[B]? = some (.cells c 102 (0, 0))) → W.heap[B]? = w.heap[B]?) : StepAt W vS base id lv keys v i := by
  obtain ⟨B, cap, C, e, h1, h2, h3⟩ := h
  exact ⟨B, cap, C, e, h1, (hb B h1 (lt_of_block h2) ⟨C, h2⟩).trans h2, h3⟩
set_option maxRecDepth 100000 in
set_option maxHeartbeats 4000000 in
theorem last_ok {q p : Nat} {vS : Value} {th : Bool} {base id lv keys i : Nat} {a : Option Addr} {n c : Nat} (hq : PathAt w q p vS th) (hst : StepAt w vS base id lv keys (.slice a n c) i) :
    Calls Tryz.prog 43 #[.pointer (some ⟨q, 0, none⟩)] w fun e w' => e = .returned (.agg #[.int .i64 id, .int .i64 lv, .int .i64 keys, .string ⟨#[]⟩, .string ⟨#[]⟩, .slice a n c, .int .i64 i]) ∧ Below w.heap.size w w' := by
  obtain ⟨B, cap, rfl, hbB, hBl, ⟨c0, c1, c2⟩, ⟨c3, c4⟩, c5, c6⟩ := hst.cells
  have hB : Below w.heap.size w (w.alloc (.cells #[.int .i64 0, .int .i64 0, .int .i64 0, .string ⟨#[]⟩, .string ⟨#[]⟩, .slice none 0 0, .int .i64 0] 102)) := (Below.refl _ w).alloc (Nat.le_refl _) _
  have hx : (w.alloc (.cells #[.int .i64 0, .int .i64 0, .int .i64 0, .string ⟨#[]⟩, .string ⟨#[]⟩, .slice none 0 0, .int .i64 0] 102)).heap[w.heap.size]? = some (.cells #[.int .i64 0, .int .i64 0, .int .i64 0, .string ⟨#[]⟩, .string ⟨#[]⟩, .slice none 0 0, .int .i64 0] 102 (0, 0)) := heap_alloc_new w _
  have hq1 := hq.keep (hB.block _ hq.lt)
  have kc : ∀ j u, w.cell? ⟨B, j, none⟩ = some u → (w.alloc (.cells #[.int .i64 0, .int .i64 0, .int .i64 0, .string ⟨#[]⟩, .string ⟨#[]⟩, .slice none 0 0, .int .i64 0] 102)).cell? ⟨B, j, none⟩ = some u := fun j u hu => (hB.cell (p := ⟨B, j, none⟩) hBl).trans hu
  replace c0 := kc _ _ c0
  replace c1 := kc _ _ c1
  replace c2 := kc _ _ c2
  replace c3 := kc _ _ c3
  replace c4 := kc _ _ c4
  replace c5 := kc _ _ c5
  replace c6 := kc _ _ c6
  clear kc
  go_enter Tryz.func43, Tryz.ntmps43
  go_wp2_with fail
  generalize w.alloc (.cells #[.int .i64 0, .int .i64 0, .int .i64 0, .string ⟨#[]⟩, .string ⟨#[]⟩, .slice none 0 0, .int .i64 0] 102) = W1 at *
  obtain ⟨⟨q0, q1, q2⟩, _⟩ := hq1.cells
  obtain ⟨⟨d0, d1, d2, d3⟩, ⟨d4, d5, d6⟩, df⟩ := cells7 hx
  have df0 := df 0
  have df1 := df 1
  have df2 := df 2
  have df3 := df 3
  have df4 := df 4
  have df5 := df 5
  have df6 := df 6
  clear df
  go_region
  go_wp2_with fail
  have hrF : _ = some (Obj.cells #[.int .i64 id, .int .i64 lv, .int .i64 keys, .string ⟨#[]⟩, .string ⟨#[]⟩, .slice a n c, .int .i64 i] 102 (0, 0)) := (block_setCell (i := 6) (u := .int .i64 i) (block_setCell (i := 5) (u := .slice a n c) (block_setCell (i := 4) (u := .string ⟨#[]⟩) (block_setCell (i := 3) (u := .string ⟨#[]⟩) (block_setCell (i := 2) (u := .int .i64 keys) (block_setCell (i := 1) (u := .int .i64 lv) (block_setCell (i := 0) (u := .int .i64 id) hx)))))))
  obtain ⟨⟨f0, f1, f2, f3⟩, ⟨f4, f5, f6⟩, _⟩ := cells7 hrF
  refine bodyPost_ret (v := .agg #[.int .i64 id, .int .i64 lv, .int .i64 keys, .string ⟨#[]⟩, .string ⟨#[]⟩, .slice a n c, .int .i64 i]) ?_ rfl ⟨rfl, ?_⟩
  · simp [results, go_sem, f0, f1, f2, f3, f4, f5, f6]
  · exact Below.drew (Below.setCell ((Below.setCell ((Below.setCell ((Below.setCell ((Below.setCell ((Below.setCell ((Below.setCell (hB) (p := ⟨w.heap.size, _, none⟩) (Nat.le_refl _) _)) (p := ⟨w.heap.size, _, none⟩) (Nat.le_refl _) _)) (p := ⟨w.heap.size, _, none⟩) (Nat.le_refl _) _)) (p := ⟨w.heap.size, _, none⟩) (Nat.le_refl _) _)) (p := ⟨w.heap.size, _, none⟩) (Nat.le_refl _) _)) (p := ⟨w.heap.size, _, none⟩) (Nat.le_refl _) _)) (p := ⟨w.heap.size, _, none⟩) (Nat.le_refl _) _)
set_option maxRecDepth 100000 in
set_option maxHeartbeats 2000000 in
theorem value_short (p : Nat) (c : Cl) (hc : c.page = 0) : Calls Tryz.prog 37 #[.pointer (some ⟨p, 0, none⟩), .agg #[.string c.key, .string c.val, .int .i64 c.page, .int .i64 c.count]] w fun e w' => e = .returned (.tuple #[.string c.val, .int .i64 0]) ∧ Below w.heap.size w w' := by
  have hpe : ((c.page : Int) == 0) = true := by simp [hc]
  clear hc
  go_enter Tryz.func37, Tryz.ntmps37
  go_wp2_with fail
  go_ret2
  exact ⟨rfl, (Below.refl _ w).alloc (Nat.le_refl _) _⟩
set_option maxRecDepth 100000 in
set_option maxHeartbeats 4000000 in
theorem pvalue_ok {q p : Nat} {vS : Value} {th : Bool} {base id lv keys i : Nat} {a : Option Addr} {n c : Nat} {l : List Cl} (hq : PathAt w q p vS th) (hst : StepAt w vS base id lv keys (.slice a n c) i) (hcl : Cells w (.slice a n c) l) (hi : i < l.length) (hp0 : (l.getD i cl0).page = 0) :
    Calls Tryz.prog 32 #[.pointer (some ⟨q, 0, none⟩)] w fun e w' => e = .returned (.tuple #[.string (l.getD i cl0).val, .int .i64 0]) ∧ Below w.heap.size w w' := by
  have hla := last_ok hq hst
  have hn : n = l.length := by obtain ⟨_, _, e, _⟩ := hcl; cases e; rfl
  obtain ⟨_, _, e, _, hcs⟩ := hcl
  cases e
  rcases hcs with h1 | ⟨b, o, rfl, hcs⟩
  · rw [h1] at hi; simp at hi
  · obtain ⟨N, hN⟩ : ∃ N, Hid (N = l.length) := ⟨_, rfl⟩
    have hiN : i < N := by rw [hN.out]; exact hi
    have hca := hcs i hi
    rw [← hN.out] at hla
    clear hn hst hcs
    generalize l.getD i cl0 = x at *
    go_enter Tryz.func32, Tryz.ntmps32
    go_upto_region 2 with (first | (go_at_call 43; refine hla.mono ?_; rintro e w2 ⟨rfl, hb2⟩))
    have hA : Below w2.heap.size w2 (w2.alloc (.cells #[.int .i64 id, .int .i64 lv, .int .i64 keys, .string ⟨#[]⟩, .string ⟨#[]⟩, .slice (some ⟨b, o, none⟩) N c, .int .i64 i] 102)) := (Below.refl _ w2).alloc (Nat.le_refl _) _
    have hx : (w2.alloc (.cells #[.int .i64 id, .int .i64 lv, .int .i64 keys, .string ⟨#[]⟩, .string ⟨#[]⟩, .slice (some ⟨b, o, none⟩) N c, .int .i64 i] 102)).heap[w2.heap.size]? = some (.cells #[.int .i64 id, .int .i64 lv, .int .i64 keys, .string ⟨#[]⟩, .string ⟨#[]⟩, .slice (some ⟨b, o, none⟩) N c, .int .i64 i] 102 (0, 0)) := heap_alloc_new w2 _
    have hB := hb2.trans (hA.mono hb2.size)
    have hq3 := hq.keep (hB.block _ hq.lt)
    have hca3 := hca.keep (hB.block _ hca.lt)
    generalize w2.alloc (.cells #[.int .i64 id, .int .i64 lv, .int .i64 keys, .string ⟨#[]⟩, .string ⟨#[]⟩, .slice (some ⟨b, o, none⟩) N c, .int .i64 i] 102) = W3 at *
    generalize w2.heap.size = sb at *
    obtain ⟨⟨q0, q1, q2⟩, _⟩ := hq3.cells
    obtain ⟨⟨d0, d1, d2, d3⟩, ⟨d4, d5, d6⟩, _⟩ := cells7 hx
    obtain ⟨x0, x1, x2, x3⟩ := hca3
    have hii : (i : Int) < (N : Int) := by omega
    have hva := fun W => value_short (w := W) p x hp0
    clear hp0
    go_region_held3 (fun W => W.cell? ⟨q, 0, none⟩ = some (.pointer (some ⟨p, 0, none⟩)) ∧ W.cell? ⟨sb, 5, none⟩ = some (.slice (some ⟨b, o, none⟩) N c) ∧ W.cell? ⟨sb, 6, none⟩ = some (.int .i64 i) ∧ W.cell? ⟨b, o + i * 4, none⟩ = some (.string x.key) ∧ W.cell? ⟨b, o + i * 4 + 1, none⟩ = some (.string x.val) ∧ W.cell? ⟨b, o + i * 4 + 2, none⟩ = some (.int .i64 x.page) ∧ W.cell? ⟨b, o + i * 4 + 3, none⟩ = some (.int .i64 x.count)) (first | go_keep | exact ⟨r0, r1, r2, r3, r4, r5, r6⟩) (first
      | (go_at_call 37; refine (hva _).mono ?_; rintro e w4 ⟨rfl, hb4⟩; have hb4' : Below W3.heap.size W3 w4 := Below.trans (by first | exact Below.refl _ _ | exact below_draw _ 1) hb4; have r0 := (hb4'.cell (p := ⟨q, 0, none⟩) hq3.lt).trans q0; have r1 := (hb4'.cell (p := ⟨sb, 5, none⟩) (lt_of_block hx)).trans d5; have r2 := (hb4'.cell (p := ⟨sb, 6, none⟩) (lt_of_block hx)).trans d6; have hbl := World.block_lt_of_cell? W3 _ x0; have r3 := (hb4'.cell (p := ⟨b, o + i * 4, none⟩) hbl).trans x0; have r4 := (hb4'.cell (p := ⟨b, o + i * 4 + 1, none⟩) hbl).trans x1; have r5 := (hb4'.cell (p := ⟨b, o + i * 4 + 2, none⟩) hbl).trans x2; have r6 := (hb4'.cell (p := ⟨b, o + i * 4 + 3, none⟩) hbl).trans x3))
    all_goals
      go_wp2_with fail
      go_ret2
      exact ⟨rfl, hB.trans (hb4'.mono hB.size)⟩
end
end Go.Proofs.YtdobleekjiehdaaGreat
