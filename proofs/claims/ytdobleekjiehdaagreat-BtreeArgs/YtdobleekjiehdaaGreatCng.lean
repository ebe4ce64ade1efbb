/- The contract of change. -/
import Derived.Test.YtdobleekjiehdaaGreatChg
namespace Go.Proofs.YtdobleekjiehdaaGreat
set_option linter.unusedVariables false
open Go.RowKit Go.Maps Go.Sort Go.Shelf
section
variable {w : World} {m most size : Nat} {ps ps2 : List ByteArray}
theorem Cells.shp {v : Value} {l : List Cl} (h : Cells w v l) : ∃ a n c, v = .slice a n c := by
  obtain ⟨a, c, e, _⟩ := h
  exact ⟨a, _, c, e⟩
theorem cell_set3 {b b' j : Nat} {v x y z : Value} (h : w.cell? ⟨b, j, none⟩ = some v) (hb : b ≠ b') : (((w.setCell ⟨b', 0, none⟩ x).setCell ⟨b', 1, none⟩ y).setCell ⟨b', 2, none⟩ z).cell? ⟨b, j, none⟩ = some v := by
  have e : (((w.setCell ⟨b', 0, none⟩ x).setCell ⟨b', 1, none⟩ y).setCell ⟨b', 2, none⟩ z).heap[b]? = w.heap[b]? := ((Below.heap_setCell _ _ _ _ hb).trans (Below.heap_setCell _ _ _ _ hb)).trans (Below.heap_setCell _ _ _ _ hb)
  simp only [World.cell?, e] at h ⊢
  exact h
theorem frz {b : Nat} {c : Array Value} {t : TypeId} (h : w.heap[b]? = some (.cells c t (0, 0))) (j : Nat) : w.frozen? ⟨b, j, none⟩ = false := by simp [World.frozen?, h]
theorem Met.kl {W : World} {mb n : Nat} {S : Int → Bool} (h : Met w mb n S) (hk : Kl m w W) (hm : IsMem w m ps most size) : Met W mb n S := by
  obtain ⟨es, clock, hb⟩ := h.isMap
  refine h.keep (hk.block mb h.lt (fun e => ?_) (fun c fr e => ?_))
  · obtain ⟨v, hv, _⟩ := hm
    rw [← e, hb] at hv
    cases hv
  · rw [hb] at e
    cases e
theorem tset {W : World} {b r : Nat} (A K C : Int) (ht : W.heap[b]? = some (.cells #[.int .i64 0, .int .i64 0, .int .i64 0] 31 (0, 0))) (hm : IsMem W m ps2 most size) (hk : Kl m w W) (hr : W.heap[r]? = some (.cells #[.int .i64 0, .int .i64 0, .int .i64 0] 31 (0, 0))) (hb : w.heap.size ≤ b) (hrb : r ≠ b) :
    (((W.setCell ⟨b, 0, none⟩ (.int .i64 A)).setCell ⟨b, 1, none⟩ (.int .i64 K)).setCell ⟨b, 2, none⟩ (.int .i64 C)).heap[b]? = some (.cells #[.int .i64 A, .int .i64 K, .int .i64 C] 31 (0, 0)) ∧ IsMem (((W.setCell ⟨b, 0, none⟩ (.int .i64 A)).setCell ⟨b, 1, none⟩ (.int .i64 K)).setCell ⟨b, 2, none⟩ (.int .i64 C)) m ps2 most size ∧ Kl m w (((W.setCell ⟨b, 0, none⟩ (.int .i64 A)).setCell ⟨b, 1, none⟩ (.int .i64 K)).setCell ⟨b, 2, none⟩ (.int .i64 C)) ∧ (((W.setCell ⟨b, 0, none⟩ (.int .i64 A)).setCell ⟨b, 1, none⟩ (.int .i64 K)).setCell ⟨b, 2, none⟩ (.int .i64 C)).heap[r]? = some (.cells #[.int .i64 0, .int .i64 0, .int .i64 0] 31 (0, 0)) := by
  have h1 := block_setCell (i := 0) (u := .int .i64 A) ht
  have h2 := block_setCell (i := 1) (u := .int .i64 K) h1
  exact ⟨block_setCell (i := 2) (u := .int .i64 C) h2, ((hm.set ht (by decide) (by decide)).set h1 (by decide) (by decide)).set h2 (by decide) (by decide), ((hk.set hb).set hb).set hb, (((Below.heap_setCell _ _ _ _ hrb).trans (Below.heap_setCell _ _ _ _ hrb)).trans (Below.heap_setCell _ _ _ _ hrb)).trans hr⟩
theorem tnew {W : World} {r : Nat} (A K C : Int) (hm : IsMem W m ps2 most size) (hk : Kl m w W) (hr : W.heap[r]? = some (.cells #[.int .i64 0, .int .i64 0, .int .i64 0] 31 (0, 0))) :
    (W.alloc (.cells #[.int .i64 A, .int .i64 K, .int .i64 C] 31)).heap[W.heap.size]? = some (.cells #[.int .i64 A, .int .i64 K, .int .i64 C] 31 (0, 0)) ∧ IsMem (W.alloc (.cells #[.int .i64 A, .int .i64 K, .int .i64 C] 31)) m ps2 most size ∧ Kl m w (W.alloc (.cells #[.int .i64 A, .int .i64 K, .int .i64 C] 31)) ∧ (W.alloc (.cells #[.int .i64 A, .int .i64 K, .int .i64 C] 31)).heap[r]? = some (.cells #[.int .i64 0, .int .i64 0, .int .i64 0] 31 (0, 0)) := by
  have hB : Below W.heap.size W (W.alloc (.cells #[.int .i64 A, .int .i64 K, .int .i64 C] 31)) := (Below.refl _ W).alloc (Nat.le_refl _) _
  exact ⟨heap_alloc_new W _, hm.grow hB, hk.trans (Kl.of_below hB), (hB.block _ (lt_of_block hr)).trans hr⟩
set_option maxRecDepth 100000 in
set_option maxHeartbeats 4000000 in
theorem change_of {q p mb n1 : Nat} {vS : Value} {th : Bool} {base id keys i : Nat} {a : Option Addr} {n c : Nat} {l : List Cl} {S : Int → Bool}
    (hq : PathAt w q p vS th) (hst : StepAt w vS base id 1 keys (.slice a n c) i) (hw : WalkAt w p (.iface 26 (.pointer (some ⟨m, 0, none⟩))) size mb) (hm : IsMem w m ps most size) (hmt : Met w mb n1 S) (hn1 : n1 ≤ 1000000)
    (hcl : Cells w (.slice a n c) l) (hi : i ≤ l.length) (hth : th = true → i < l.length ∧ (l.getD i cl0).page = 0) (hll : l.length ≤ 1000000)
    (u : Value) (lf : List Cl) (hf : Cells w u lf) (hfl : lf.length ≤ 1) (xs : List Int) (hp : xs.Pairwise (fun a b => a < b)) (hx : ∀ x, x ∈ xs ↔ S x = true) (A K C : Int)
    (hrb : ∀ W v, Below w.heap.size w W → OwnC W w.heap.size v (l.take i ++ lf ++ l.drop (i + th.toNat)) → Calls Tryz.prog 54 #[.pointer (some ⟨q, 0, none⟩), v] W fun e w' => e = .returned (.tuple #[.agg #[.int .i64 A, .int .i64 K, .int .i64 C], .int .i64 0]) ∧ IsMem w' m ps2 most size ∧ Kl m W w') :
    Calls Tryz.prog 41 #[.pointer (some ⟨q, 0, none⟩), u] w fun e w' => ∃ a2 c2, e = .returned (.tuple #[.agg #[.int .i64 A, .int .i64 K, .int .i64 C], .slice a2 xs.length c2, .int .i64 0]) ∧ IsMem w' m ps2 most size ∧ Kl m w w' := by
  have hn : n = l.length := by obtain ⟨_, _, e, _⟩ := hcl; cases e; rfl
  have hB : Below w.heap.size w (w.alloc (.cells #[.int .i64 0, .int .i64 0, .int .i64 0] 31)) := (Below.refl _ w).alloc (Nat.le_refl _) _
  have hr : (w.alloc (.cells #[.int .i64 0, .int .i64 0, .int .i64 0] 31)).heap[w.heap.size]? = some (.cells #[.int .i64 0, .int .i64 0, .int .i64 0] 31 (0, 0)) := heap_alloc_new w _
  have hlast : ∀ W, Below w.heap.size w W → Calls Tryz.prog 43 #[.pointer (some ⟨q, 0, none⟩)] W fun e w' => e = .returned (.agg #[.int .i64 id, .int .i64 1, .int .i64 keys, .string ⟨#[]⟩, .string ⟨#[]⟩, .slice a n c, .int .i64 i]) ∧ Below W.heap.size W w' := fun W hW => last_ok (hq.keep (hW.block _ hq.lt)) (hst.keep (fun B _ hB _ => hW.block B hB))
  have hval : th = true → ∀ W, Below w.heap.size w W → Calls Tryz.prog 32 #[.pointer (some ⟨q, 0, none⟩)] W fun e w' => e = .returned (.tuple #[.string (l.getD i cl0).val, .int .i64 0]) ∧ Below W.heap.size W w' := fun ht W hW => pvalue_ok (hq.keep (hW.block _ hq.lt)) (hst.keep (fun B _ hB _ => hW.block B hB)) (hcl.grow hW) (hth ht).1 (hth ht).2
  have hla := hlast _ hB
  replace hn : Hid _ := hn
  cases th
  · go_enter Tryz.func41, Tryz.ntmps41
    go_upto_region 2 with (first | (go_at_call 43; refine hla.mono ?_; rintro e w2 ⟨rfl, hb2⟩; have hA3 : Below w.heap.size w (w2.alloc (.cells #[.int .i64 id, .int .i64 1, .int .i64 keys, .string ⟨#[]⟩, .string ⟨#[]⟩, .slice a n c, .int .i64 i] 102)) := (hB.trans (hb2.mono hB.size)).alloc (Nat.le_trans hB.size hb2.size) _; have q2 := (hq.keep (hA3.block _ hq.lt)).cells.1.2.2))
    have hx7 : (w2.alloc (.cells #[.int .i64 id, .int .i64 1, .int .i64 keys, .string ⟨#[]⟩, .string ⟨#[]⟩, .slice a n c, .int .i64 i] 102)).heap[w2.heap.size]? = _ := heap_alloc_new w2 _
    have hr3 := ((hb2.trans (((Below.refl _ w2).alloc (Nat.le_refl _) (.cells #[.int .i64 id, .int .i64 1, .int .i64 keys, .string ⟨#[]⟩, .string ⟨#[]⟩, .slice a n c, .int .i64 i] 102)).mono hb2.size)).block _ (lt_of_block hr)).trans hr
    obtain ⟨⟨d0, d1, d2, d3⟩, ⟨d4, d5, d6⟩, _⟩ := cells7 hx7
    generalize w2.alloc (.cells #[.int .i64 id, .int .i64 1, .int .i64 keys, .string ⟨#[]⟩, .string ⟨#[]⟩, .slice a n c, .int .i64 i] 102) = W3 at *
    generalize w2.heap.size = sb at *
    go_wp2_with fail
    obtain ⟨v1, hv1, hc1⟩ := cells_to (hcl.grow hA3) i hi
    obtain ⟨v2, hv2, hc2⟩ := cells_from (hcl.grow hA3) i hi
    obtain ⟨⟨a1, m1, k1, e1⟩, ⟨a2, m2, k2, e2⟩, ⟨au, mu, ku, eu⟩⟩ := And.intro hc1.shp (And.intro hc2.shp hf.shp)
    subst e1 e2 eu
    have hcc : ∀ W b, Below W3.heap.size W3 W → W.heap[b]? = some (.cells #[.slice a1 m1 k1, .slice au mu ku, .slice a2 m2 k2] 100 (0, 0)) → Calls Tryz.prog 55 #[.slice (some ⟨b, 0, none⟩) 3 3] W fun e w' => ∃ a4 n4 c4, e = .returned (.slice a4 n4 c4) ∧ OwnC w' w.heap.size (.slice a4 n4 c4) (l.take i ++ lf ++ l.drop (i + false.toNat)) ∧ Below W.heap.size W w' := fun W b hW hb => by
      refine (concat_any (w := W) _ [l.take i, lf, l.drop i] ⟨b, 0, 3, rfl, fun t ht => ?_⟩ (by simp) (by simp [totL]; omega)).mono ?_
      · simp only [List.length_cons, List.length_nil] at ht
        rcases (by omega : t = 0 ∨ t = 1 ∨ t = 2) with rfl | rfl | rfl
        · exact ⟨_, (cells3 hb).1, hc1.grow hW⟩
        · exact ⟨_, (cells3 hb).2.1, hf.grow (hA3.trans (hW.mono hA3.size))⟩
        · exact ⟨_, (cells3 hb).2.2, hc2.grow hW⟩
      · rintro e w' ⟨v', rfl, ho, hb⟩
        obtain ⟨a4, c4, rfl⟩ := ho.shape
        refine ⟨a4, _, c4, rfl, ?_, hb⟩
        have := ho.wide (Nat.le_trans hA3.size hW.size)
        simpa using this
    have hsb := lt_of_block hx7
    have hqr : q ≠ w.heap.size := by have := hq.lt; omega
    have hYA : Below W3.heap.size W3 (W3.alloc (Obj.cells #[.slice a1 m1 k1, .slice au mu ku, .slice a2 m2 k2] 100)).drew := ((Below.refl _ W3).alloc (Nat.le_refl _) _).drew
    have hYC : Below W3.heap.size W3 ((W3.alloc (Obj.cells #[.slice a1 m1 k1, .slice au mu ku, .slice a2 m2 k2] 100)).alloc (Obj.cells #[.int .i64 0, .int .i64 0, .int .i64 0] 31)).drew := (((Below.refl _ W3).alloc (Nat.le_refl _) _).alloc (by simp) _).drew
    have hYB : Below W3.heap.size W3 ((W3.alloc (Obj.cells #[.int .i64 0, .int .i64 0, .int .i64 0] 31)).alloc (Obj.cells #[.slice a1 m1 k1, .slice au mu ku, .slice a2 m2 k2] 100)).drew := (((Below.refl _ W3).alloc (Nat.le_refl _) _).alloc (by simp) _).drew
    have hcA := hcc _ W3.heap.size hYA (heap_alloc_new W3 _)
    have hcC := hcc _ W3.heap.size hYC ((((Below.refl _ (W3.alloc (Obj.cells #[.slice a1 m1 k1, .slice au mu ku, .slice a2 m2 k2] 100))).alloc (Nat.le_refl _) _).block _ (by simp)).trans (heap_alloc_new W3 _))
    have hcB := hcc _ (W3.heap.size + 1) hYB (by have := heap_alloc_new (W3.alloc (Obj.cells #[.int .i64 0, .int .i64 0, .int .i64 0] 31)) (Obj.cells #[.slice a1 m1 k1, .slice au mu ku, .slice a2 m2 k2] 100); rw [World.size_alloc] at this; exact this)
    have htC : ((W3.alloc (Obj.cells #[.slice a1 m1 k1, .slice au mu ku, .slice a2 m2 k2] 100)).alloc (Obj.cells #[.int .i64 0, .int .i64 0, .int .i64 0] 31)).drew.heap[W3.heap.size + 1]? = some (.cells #[.int .i64 0, .int .i64 0, .int .i64 0] 31 (0, 0)) := by have := heap_alloc_new (W3.alloc (Obj.cells #[.slice a1 m1 k1, .slice au mu ku, .slice a2 m2 k2] 100)) (Obj.cells #[.int .i64 0, .int .i64 0, .int .i64 0] 31); rw [World.size_alloc] at this; exact this
    have htB : ((W3.alloc (Obj.cells #[.int .i64 0, .int .i64 0, .int .i64 0] 31)).alloc (Obj.cells #[.slice a1 m1 k1, .slice au mu ku, .slice a2 m2 k2] 100)).drew.heap[W3.heap.size]? = some (.cells #[.int .i64 0, .int .i64 0, .int .i64 0] 31 (0, 0)) := (((Below.refl _ (W3.alloc (Obj.cells #[.int .i64 0, .int .i64 0, .int .i64 0] 31))).alloc (Nat.le_refl _) _).block _ (by simp)).trans (heap_alloc_new W3 _)
    clear hcc
    go_region_held3 (fun W => W.cell? ⟨sb, 5, none⟩ = some (.slice a n c) ∧ W.cell? ⟨sb, 6, none⟩ = some (.int .i64 i)) (first | go_keep | exact ⟨t5, t6⟩ | exact ⟨g5, g6⟩ | exact ⟨cell_set3 g5 (by omega), cell_set3 g6 (by omega)⟩) (first
      | (go_at_call 55; with_reducible refine hcA.mono ?_; have hY := hYA; rintro e w4 ⟨a4, n4, c4, rfl, ho4, hb4⟩; have hb4' := hY.trans (hb4.mono hY.size); have hsz := hb4'.size; have hx4 := (hb4'.block _ hsb).trans hx7; have t5 := (cells7 hx4).2.1.2.1; have t6 := (cells7 hx4).2.1.2.2; have hA4 := hA3.trans (hb4'.mono hA3.size))
      | (go_at_call 55; with_reducible refine hcC.mono ?_; have hY := hYC; rintro e w4 ⟨a4, n4, c4, rfl, ho4, hb4⟩; have hb4' := hY.trans (hb4.mono hY.size); have hsz := hb4'.size; have hx4 := (hb4'.block _ hsb).trans hx7; have t5 := (cells7 hx4).2.1.2.1; have t6 := (cells7 hx4).2.1.2.2; have hA4 := hA3.trans (hb4'.mono hA3.size); have ht4 := (hb4.block _ (lt_of_block htC)).trans htC)
      | (go_at_call 55; with_reducible refine hcB.mono ?_; have hY := hYB; rintro e w4 ⟨a4, n4, c4, rfl, ho4, hb4⟩; have hb4' := hY.trans (hb4.mono hY.size); have hsz := hb4'.size; have hx4 := (hb4'.block _ hsb).trans hx7; have t5 := (cells7 hx4).2.1.2.1; have t6 := (cells7 hx4).2.1.2.2; have hA4 := hA3.trans (hb4'.mono hA3.size); have ht4 := (hb4.block _ (lt_of_block htB)).trans htB)
      | (go_at_call 54; have ht4' := ht4; refine (hrb _ _ hA4 ho4).mono ?_; rintro e w5 ⟨rfl, hm5, hk5⟩; have hx5 := hk5.cells (hm.grow hA4) hx4 (by decide) (by decide); have g5 := (cells7 hx5).2.1.2.1; have g6 := (cells7 hx5).2.1.2.2; have ht5 := hk5.cells (hm.grow hA4) ht4 (by decide) (by decide); have hkw : Kl m w w5 := (Kl.of_below hA4).trans hk5; obtain ⟨tc0, tc1, tc2⟩ := cells3 ht5; have tf := frz ht5; have tf0 := tf 0; have tf1 := tf 1; have tf2 := tf 2; clear tf)
      | (go_at_call 54; with_reducible refine (hrb w4 _ hA4 ho4).mono ?_; rintro e w5 ⟨rfl, hm5, hk5⟩; have hx5 := hk5.cells (hm.grow hA4) hx4 (by decide) (by decide); have hkw : Kl m w w5 := (Kl.of_below hA4).trans hk5; have g5 := (cells7 hx5).2.1.2.1; have g6 := (cells7 hx5).2.1.2.2)
      | (go_at_call 54; have hA5 := hA4.alloc hA4.size (Obj.cells #[.int .i64 0, .int .i64 0, .int .i64 0] 31); refine (hrb _ _ hA5 (ho4.alloc _)).mono ?_; rintro e w5 ⟨rfl, hm5, hk5⟩; have hx5 := hk5.cells (hm.grow hA5) ((((Below.refl _ w4).alloc (Nat.le_refl _) _).block _ (lt_of_block hx4)).trans hx4) (by decide) (by decide); have g5 := (cells7 hx5).2.1.2.1; have g6 := (cells7 hx5).2.1.2.2; have ht5 := hk5.cells (hm.grow hA5) (heap_alloc_new w4 (Obj.cells #[.int .i64 0, .int .i64 0, .int .i64 0] 31)) (by decide) (by decide); have hkw : Kl m w w5 := (Kl.of_below hA5).trans hk5; obtain ⟨tc0, tc1, tc2⟩ := cells3 ht5; have tf := frz ht5; have tf0 := tf 0; have tf1 := tf 1; have tf2 := tf 2; clear tf))
    all_goals
      have hsz5 := hk5.size
      have hr3' := hk5.cells (by first | exact hm.grow hA5 | exact hm.grow hA4) (by first | exact ((((Below.refl _ w4).alloc (Nat.le_refl _) _).block _ (lt_of_block ((hb4'.block _ (lt_of_block hr3)).trans hr3))).trans ((hb4'.block _ (lt_of_block hr3)).trans hr3)) | exact (hb4'.block _ (lt_of_block hr3)).trans hr3) (by decide) (by decide)
      have hsw := hA3.size
      have hrl := lt_of_block hr3
      first
      | (have ht' : w5.heap[w4.heap.size]? = some (.cells #[.int .i64 0, .int .i64 0, .int .i64 0] 31 (0, 0)) := ht5; obtain ⟨u1, u2, u3, u4⟩ := tset A K C ht' hm5 hkw hr3' (by omega) (by omega); generalize (((w5.setCell ⟨w4.heap.size, 0, none⟩ (.int .i64 A)).setCell ⟨w4.heap.size, 1, none⟩ (.int .i64 K)).setCell ⟨w4.heap.size, 2, none⟩ (.int .i64 C)) = WF at *; have htr : w4.heap.size ≠ w.heap.size := (by omega); generalize w4.heap.size = tb at *)
      | (have ht' : w5.heap[W3.heap.size + 1]? = some (.cells #[.int .i64 0, .int .i64 0, .int .i64 0] 31 (0, 0)) := ht5; obtain ⟨u1, u2, u3, u4⟩ := tset A K C ht' hm5 hkw hr3' (by omega) (by omega); generalize (((w5.setCell ⟨W3.heap.size + 1, 0, none⟩ (.int .i64 A)).setCell ⟨W3.heap.size + 1, 1, none⟩ (.int .i64 K)).setCell ⟨W3.heap.size + 1, 2, none⟩ (.int .i64 C)) = WF at *; have htr : W3.heap.size + 1 ≠ w.heap.size := (by omega); generalize W3.heap.size + 1 = tb at *)
      | (have ht' : w5.heap[W3.heap.size]? = some (.cells #[.int .i64 0, .int .i64 0, .int .i64 0] 31 (0, 0)) := ht5; obtain ⟨u1, u2, u3, u4⟩ := tset A K C ht' hm5 hkw hr3' (by omega) (by omega); generalize (((w5.setCell ⟨W3.heap.size, 0, none⟩ (.int .i64 A)).setCell ⟨W3.heap.size, 1, none⟩ (.int .i64 K)).setCell ⟨W3.heap.size, 2, none⟩ (.int .i64 C)) = WF at *; have htr : W3.heap.size ≠ w.heap.size := (by omega); generalize W3.heap.size = tb at *)
      | (obtain ⟨u1, u2, u3, u4⟩ := tnew A K C hm5 hkw hr3'; generalize w5.alloc (.cells #[.int .i64 A, .int .i64 K, .int .i64 C] 31) = WF at *; have htr : w5.heap.size ≠ w.heap.size := (by omega); generalize w5.heap.size = tb at *)
      have hq5 := hq.kl u3 hm
      have hw5 := hw.kl u3 hm
      have hmt5 := hmt.kl u3 hm
      have hpg : ∀ W, Below WF.heap.size WF W → _ := fun W hW => pages_ok (w := W) (hw5.keep (hW.block _ hw5.lt)) hn1 (hmt5.keep (hW.block _ hmt5.lt)) xs hp hx
      obtain ⟨⟨q0, q1, q9⟩, _⟩ := hq5.cells
      obtain ⟨y0, y1, y2⟩ := cells3 u1
      obtain ⟨z0, z1, z2⟩ := cells3 u4
      have zf0 := frz u4 0
      have zf1 := frz u4 1
      have zf2 := frz u4 2
      go_wp2_with fail
      go_region_held3 (fun W => (W.cell? ⟨tb, 0, none⟩ = some (.int .i64 A) ∧ W.cell? ⟨tb, 1, none⟩ = some (.int .i64 K) ∧ W.cell? ⟨tb, 2, none⟩ = some (.int .i64 C)) ∧ W.cell? ⟨q, 0, none⟩ = some (.pointer (some ⟨p, 0, none⟩))) (first | go_keep | exact ⟨⟨y0, y1, y2⟩, q0⟩ | exact ⟨⟨s0, s1, s2⟩, s3⟩ | exact ⟨⟨cell_set3 s0 (by omega), cell_set3 s1 (by omega), cell_set3 s2 (by omega)⟩, cell_set3 s3 (by omega)⟩) (first
        | (go_at_call 39; refine (hpg _ (by first | exact Below.refl _ _ | exact below_draw _ 1)).mono ?_; rintro e w6 ⟨a6, c6, rfl, hb6⟩; have hb6' : Below WF.heap.size WF w6 := Below.trans (by first | exact Below.refl _ _ | exact below_draw _ 1) hb6; have ut := (hb6'.block _ (lt_of_block u1)).trans u1; have ur := (hb6'.block _ (lt_of_block u4)).trans u4; obtain ⟨s0, s1, s2⟩ := cells3 ut; obtain ⟨x0, x1, x2⟩ := cells3 ur; have xf0 := frz ur 0; have xf1 := frz ur 1; have xf2 := frz ur 2; have s3 := (hq5.keep (hb6'.block _ hq5.lt)).cells.1.1))
      all_goals
        go_wp2_with fail
        have h1 := block_setCell (i := 0) (u := .int .i64 A) ur
        have h2 := block_setCell (i := 1) (u := .int .i64 K) h1
        have hrF : _ = some (Obj.cells #[.int .i64 A, .int .i64 K, .int .i64 C] 31 (0, 0)) := block_setCell (i := 2) (u := .int .i64 C) h2
        obtain ⟨f0, f1, f2⟩ := cells3 hrF
        have f3 := (((u2.grow hb6').set ur (by decide) (by decide)).set (i := 1) (u := .int .i64 K) h1 (by decide) (by decide)).set (i := 2) (u := .int .i64 C) h2 (by decide) (by decide)
        have f4 := (((u3.trans (Kl.of_below hb6')).set (i := 0) (u := .int .i64 A) (Nat.le_refl _)).set (i := 1) (u := .int .i64 K) (Nat.le_refl _)).set (i := 2) (u := .int .i64 C) (Nat.le_refl _)
        refine bodyPost_ret (v := .tuple #[.agg #[.int .i64 A, .int .i64 K, .int .i64 C], .slice a6 xs.length c6, .int .i64 0]) ?_ rfl ⟨a6, c6, rfl, ?_, ?_⟩
        · simp [results, asAddr, Result.andThen, go_sem, f0, f1, f2]
        · exact f3
        · exact f4
  · replace hth := hth rfl
    replace hval := hval rfl
    go_enter Tryz.func41, Tryz.ntmps41
    go_upto_region 2 with (first | (go_at_call 43; refine hla.mono ?_; rintro e w2 ⟨rfl, hb2⟩; have hA3 : Below w.heap.size w (w2.alloc (.cells #[.int .i64 id, .int .i64 1, .int .i64 keys, .string ⟨#[]⟩, .string ⟨#[]⟩, .slice a n c, .int .i64 i] 102)) := (hB.trans (hb2.mono hB.size)).alloc (Nat.le_trans hB.size hb2.size) _; have q2 := (hq.keep (hA3.block _ hq.lt)).cells.1.2.2))
    have hx7 : (w2.alloc (.cells #[.int .i64 id, .int .i64 1, .int .i64 keys, .string ⟨#[]⟩, .string ⟨#[]⟩, .slice a n c, .int .i64 i] 102)).heap[w2.heap.size]? = _ := heap_alloc_new w2 _
    have hr3 := ((hb2.trans (((Below.refl _ w2).alloc (Nat.le_refl _) (.cells #[.int .i64 id, .int .i64 1, .int .i64 keys, .string ⟨#[]⟩, .string ⟨#[]⟩, .slice a n c, .int .i64 i] 102)).mono hb2.size)).block _ (lt_of_block hr)).trans hr
    obtain ⟨⟨d0, d1, d2, d3⟩, ⟨d4, d5, d6⟩, _⟩ := cells7 hx7
    generalize w2.alloc (.cells #[.int .i64 id, .int .i64 1, .int .i64 keys, .string ⟨#[]⟩, .string ⟨#[]⟩, .slice a n c, .int .i64 i] 102) = W3 at *
    generalize w2.heap.size = sb at *
    have hw1 : IntKind.i64.wrap ((i : Int) + 1) = (i : Int) + 1 := Go.IntWalk.i64_in _ (by omega)
    have hva := hval _ hA3
    go_wp2_with (first | (go_at_call 32; refine hva.mono ?_; rintro e w3 ⟨rfl, hb3⟩))
    replace hA3 := hA3.trans (hb3.mono hA3.size)
    replace hx7 := (hb3.block _ (lt_of_block hx7)).trans hx7
    replace hr3 := (hb3.block _ (lt_of_block hr3)).trans hr3
    clear q2 d0 d1 d2 d3 d4 d5 d6 hva
    obtain ⟨⟨d0, d1, d2, d3⟩, ⟨d4, d5, d6⟩, _⟩ := cells7 hx7
    obtain ⟨v1, hv1, hc1⟩ := cells_to (hcl.grow hA3) i hi
    obtain ⟨v2, hv2, hc2⟩ := cells_from (hcl.grow hA3) (i + 1) hth.1
    replace hv2 : ∀ W, (Instr.slice 100 (.slice a n c) (some (.int .i64 ((i : Int) + 1))) none none).run Tryz.prog W = .ok v2 W := hv2
    obtain ⟨⟨a1, m1, k1, e1⟩, ⟨a2, m2, k2, e2⟩, ⟨au, mu, ku, eu⟩⟩ := And.intro hc1.shp (And.intro hc2.shp hf.shp)
    subst e1 e2 eu
    have hcc : ∀ W b, Below w3.heap.size w3 W → W.heap[b]? = some (.cells #[.slice a1 m1 k1, .slice au mu ku, .slice a2 m2 k2] 100 (0, 0)) → Calls Tryz.prog 55 #[.slice (some ⟨b, 0, none⟩) 3 3] W fun e w' => ∃ a4 n4 c4, e = .returned (.slice a4 n4 c4) ∧ OwnC w' w.heap.size (.slice a4 n4 c4) (l.take i ++ lf ++ l.drop (i + true.toNat)) ∧ Below W.heap.size W w' := fun W b hW hb => by
      refine (concat_any (w := W) _ [l.take i, lf, l.drop (i + 1)] ⟨b, 0, 3, rfl, fun t ht => ?_⟩ (by simp) (by simp [totL]; omega)).mono ?_
      · simp only [List.length_cons, List.length_nil] at ht
        rcases (by omega : t = 0 ∨ t = 1 ∨ t = 2) with rfl | rfl | rfl
        · exact ⟨_, (cells3 hb).1, hc1.grow hW⟩
        · exact ⟨_, (cells3 hb).2.1, hf.grow (hA3.trans (hW.mono hA3.size))⟩
        · exact ⟨_, (cells3 hb).2.2, hc2.grow hW⟩
      · rintro e w' ⟨v', rfl, ho, hb⟩
        obtain ⟨a4, c4, rfl⟩ := ho.shape
        refine ⟨a4, _, c4, rfl, ?_, hb⟩
        have := ho.wide (Nat.le_trans hA3.size hW.size)
        simpa using this
    have hsb := lt_of_block hx7
    have hqr : q ≠ w.heap.size := by have := hq.lt; omega
    have hYA : Below w3.heap.size w3 (w3.alloc (Obj.cells #[.slice a1 m1 k1, .slice au mu ku, .slice a2 m2 k2] 100)).drew := ((Below.refl _ w3).alloc (Nat.le_refl _) _).drew
    have hYC : Below w3.heap.size w3 ((w3.alloc (Obj.cells #[.slice a1 m1 k1, .slice au mu ku, .slice a2 m2 k2] 100)).alloc (Obj.cells #[.int .i64 0, .int .i64 0, .int .i64 0] 31)).drew := (((Below.refl _ w3).alloc (Nat.le_refl _) _).alloc (by simp) _).drew
    have hYB : Below w3.heap.size w3 ((w3.alloc (Obj.cells #[.int .i64 0, .int .i64 0, .int .i64 0] 31)).alloc (Obj.cells #[.slice a1 m1 k1, .slice au mu ku, .slice a2 m2 k2] 100)).drew := (((Below.refl _ w3).alloc (Nat.le_refl _) _).alloc (by simp) _).drew
    have hcA := hcc _ w3.heap.size hYA (heap_alloc_new w3 _)
    have hcC := hcc _ w3.heap.size hYC ((((Below.refl _ (w3.alloc (Obj.cells #[.slice a1 m1 k1, .slice au mu ku, .slice a2 m2 k2] 100))).alloc (Nat.le_refl _) _).block _ (by simp)).trans (heap_alloc_new w3 _))
    have hcB := hcc _ (w3.heap.size + 1) hYB (by have := heap_alloc_new (w3.alloc (Obj.cells #[.int .i64 0, .int .i64 0, .int .i64 0] 31)) (Obj.cells #[.slice a1 m1 k1, .slice au mu ku, .slice a2 m2 k2] 100); rw [World.size_alloc] at this; exact this)
    have htC : ((w3.alloc (Obj.cells #[.slice a1 m1 k1, .slice au mu ku, .slice a2 m2 k2] 100)).alloc (Obj.cells #[.int .i64 0, .int .i64 0, .int .i64 0] 31)).drew.heap[w3.heap.size + 1]? = some (.cells #[.int .i64 0, .int .i64 0, .int .i64 0] 31 (0, 0)) := by have := heap_alloc_new (w3.alloc (Obj.cells #[.slice a1 m1 k1, .slice au mu ku, .slice a2 m2 k2] 100)) (Obj.cells #[.int .i64 0, .int .i64 0, .int .i64 0] 31); rw [World.size_alloc] at this; exact this
    have htB : ((w3.alloc (Obj.cells #[.int .i64 0, .int .i64 0, .int .i64 0] 31)).alloc (Obj.cells #[.slice a1 m1 k1, .slice au mu ku, .slice a2 m2 k2] 100)).drew.heap[w3.heap.size]? = some (.cells #[.int .i64 0, .int .i64 0, .int .i64 0] 31 (0, 0)) := (((Below.refl _ (w3.alloc (Obj.cells #[.int .i64 0, .int .i64 0, .int .i64 0] 31))).alloc (Nat.le_refl _) _).block _ (by simp)).trans (heap_alloc_new w3 _)
    clear hcc
    go_region_held3 (fun W => W.cell? ⟨sb, 5, none⟩ = some (.slice a n c) ∧ W.cell? ⟨sb, 6, none⟩ = some (.int .i64 i)) (first | go_keep | exact ⟨t5, t6⟩ | exact ⟨g5, g6⟩ | exact ⟨cell_set3 g5 (by omega), cell_set3 g6 (by omega)⟩) (first
      | (go_at_call 55; with_reducible refine hcA.mono ?_; have hY := hYA; rintro e w4 ⟨a4, n4, c4, rfl, ho4, hb4⟩; have hb4' := hY.trans (hb4.mono hY.size); have hsz := hb4'.size; have hx4 := (hb4'.block _ hsb).trans hx7; have t5 := (cells7 hx4).2.1.2.1; have t6 := (cells7 hx4).2.1.2.2; have hA4 := hA3.trans (hb4'.mono hA3.size))
      | (go_at_call 55; with_reducible refine hcC.mono ?_; have hY := hYC; rintro e w4 ⟨a4, n4, c4, rfl, ho4, hb4⟩; have hb4' := hY.trans (hb4.mono hY.size); have hsz := hb4'.size; have hx4 := (hb4'.block _ hsb).trans hx7; have t5 := (cells7 hx4).2.1.2.1; have t6 := (cells7 hx4).2.1.2.2; have hA4 := hA3.trans (hb4'.mono hA3.size); have ht4 := (hb4.block _ (lt_of_block htC)).trans htC)
      | (go_at_call 55; with_reducible refine hcB.mono ?_; have hY := hYB; rintro e w4 ⟨a4, n4, c4, rfl, ho4, hb4⟩; have hb4' := hY.trans (hb4.mono hY.size); have hsz := hb4'.size; have hx4 := (hb4'.block _ hsb).trans hx7; have t5 := (cells7 hx4).2.1.2.1; have t6 := (cells7 hx4).2.1.2.2; have hA4 := hA3.trans (hb4'.mono hA3.size); have ht4 := (hb4.block _ (lt_of_block htB)).trans htB)
      | (go_at_call 54; have ht4' := ht4; refine (hrb _ _ hA4 ho4).mono ?_; rintro e w5 ⟨rfl, hm5, hk5⟩; have hx5 := hk5.cells (hm.grow hA4) hx4 (by decide) (by decide); have g5 := (cells7 hx5).2.1.2.1; have g6 := (cells7 hx5).2.1.2.2; have ht5 := hk5.cells (hm.grow hA4) ht4 (by decide) (by decide); have hkw : Kl m w w5 := (Kl.of_below hA4).trans hk5; obtain ⟨tc0, tc1, tc2⟩ := cells3 ht5; have tf := frz ht5; have tf0 := tf 0; have tf1 := tf 1; have tf2 := tf 2; clear tf)
      | (go_at_call 54; with_reducible refine (hrb w4 _ hA4 ho4).mono ?_; rintro e w5 ⟨rfl, hm5, hk5⟩; have hx5 := hk5.cells (hm.grow hA4) hx4 (by decide) (by decide); have hkw : Kl m w w5 := (Kl.of_below hA4).trans hk5; have g5 := (cells7 hx5).2.1.2.1; have g6 := (cells7 hx5).2.1.2.2)
      | (go_at_call 54; have hA5 := hA4.alloc hA4.size (Obj.cells #[.int .i64 0, .int .i64 0, .int .i64 0] 31); refine (hrb _ _ hA5 (ho4.alloc _)).mono ?_; rintro e w5 ⟨rfl, hm5, hk5⟩; have hx5 := hk5.cells (hm.grow hA5) ((((Below.refl _ w4).alloc (Nat.le_refl _) _).block _ (lt_of_block hx4)).trans hx4) (by decide) (by decide); have g5 := (cells7 hx5).2.1.2.1; have g6 := (cells7 hx5).2.1.2.2; have ht5 := hk5.cells (hm.grow hA5) (heap_alloc_new w4 (Obj.cells #[.int .i64 0, .int .i64 0, .int .i64 0] 31)) (by decide) (by decide); have hkw : Kl m w w5 := (Kl.of_below hA5).trans hk5; obtain ⟨tc0, tc1, tc2⟩ := cells3 ht5; have tf := frz ht5; have tf0 := tf 0; have tf1 := tf 1; have tf2 := tf 2; clear tf))
    all_goals
      have hsz5 := hk5.size
      have hr3' := hk5.cells (by first | exact hm.grow hA5 | exact hm.grow hA4) (by first | exact ((((Below.refl _ w4).alloc (Nat.le_refl _) _).block _ (lt_of_block ((hb4'.block _ (lt_of_block hr3)).trans hr3))).trans ((hb4'.block _ (lt_of_block hr3)).trans hr3)) | exact (hb4'.block _ (lt_of_block hr3)).trans hr3) (by decide) (by decide)
      have hsw := hA3.size
      have hrl := lt_of_block hr3
      first
      | (have ht' : w5.heap[w4.heap.size]? = some (.cells #[.int .i64 0, .int .i64 0, .int .i64 0] 31 (0, 0)) := ht5; obtain ⟨u1, u2, u3, u4⟩ := tset A K C ht' hm5 hkw hr3' (by omega) (by omega); generalize (((w5.setCell ⟨w4.heap.size, 0, none⟩ (.int .i64 A)).setCell ⟨w4.heap.size, 1, none⟩ (.int .i64 K)).setCell ⟨w4.heap.size, 2, none⟩ (.int .i64 C)) = WF at *; have htr : w4.heap.size ≠ w.heap.size := (by omega); generalize w4.heap.size = tb at *)
      | (have ht' : w5.heap[w3.heap.size + 1]? = some (.cells #[.int .i64 0, .int .i64 0, .int .i64 0] 31 (0, 0)) := ht5; obtain ⟨u1, u2, u3, u4⟩ := tset A K C ht' hm5 hkw hr3' (by omega) (by omega); generalize (((w5.setCell ⟨w3.heap.size + 1, 0, none⟩ (.int .i64 A)).setCell ⟨w3.heap.size + 1, 1, none⟩ (.int .i64 K)).setCell ⟨w3.heap.size + 1, 2, none⟩ (.int .i64 C)) = WF at *; have htr : w3.heap.size + 1 ≠ w.heap.size := (by omega); generalize w3.heap.size + 1 = tb at *)
      | (have ht' : w5.heap[w3.heap.size]? = some (.cells #[.int .i64 0, .int .i64 0, .int .i64 0] 31 (0, 0)) := ht5; obtain ⟨u1, u2, u3, u4⟩ := tset A K C ht' hm5 hkw hr3' (by omega) (by omega); generalize (((w5.setCell ⟨w3.heap.size, 0, none⟩ (.int .i64 A)).setCell ⟨w3.heap.size, 1, none⟩ (.int .i64 K)).setCell ⟨w3.heap.size, 2, none⟩ (.int .i64 C)) = WF at *; have htr : w3.heap.size ≠ w.heap.size := (by omega); generalize w3.heap.size = tb at *)
      | (obtain ⟨u1, u2, u3, u4⟩ := tnew A K C hm5 hkw hr3'; generalize w5.alloc (.cells #[.int .i64 A, .int .i64 K, .int .i64 C] 31) = WF at *; have htr : w5.heap.size ≠ w.heap.size := (by omega); generalize w5.heap.size = tb at *)
      have hq5 := hq.kl u3 hm
      have hw5 := hw.kl u3 hm
      have hmt5 := hmt.kl u3 hm
      have hpg : ∀ W, Below WF.heap.size WF W → _ := fun W hW => pages_ok (w := W) (hw5.keep (hW.block _ hw5.lt)) hn1 (hmt5.keep (hW.block _ hmt5.lt)) xs hp hx
      obtain ⟨⟨q0, q1, q9⟩, _⟩ := hq5.cells
      obtain ⟨y0, y1, y2⟩ := cells3 u1
      obtain ⟨z0, z1, z2⟩ := cells3 u4
      have zf0 := frz u4 0
      have zf1 := frz u4 1
      have zf2 := frz u4 2
      go_wp2_with fail
      go_region_held3 (fun W => (W.cell? ⟨tb, 0, none⟩ = some (.int .i64 A) ∧ W.cell? ⟨tb, 1, none⟩ = some (.int .i64 K) ∧ W.cell? ⟨tb, 2, none⟩ = some (.int .i64 C)) ∧ W.cell? ⟨q, 0, none⟩ = some (.pointer (some ⟨p, 0, none⟩))) (first | go_keep | exact ⟨⟨y0, y1, y2⟩, q0⟩ | exact ⟨⟨s0, s1, s2⟩, s3⟩ | exact ⟨⟨cell_set3 s0 (by omega), cell_set3 s1 (by omega), cell_set3 s2 (by omega)⟩, cell_set3 s3 (by omega)⟩) (first
        | (go_at_call 39; refine (hpg _ (by first | exact Below.refl _ _ | exact below_draw _ 1)).mono ?_; rintro e w6 ⟨a6, c6, rfl, hb6⟩; have hb6' : Below WF.heap.size WF w6 := Below.trans (by first | exact Below.refl _ _ | exact below_draw _ 1) hb6; have ut := (hb6'.block _ (lt_of_block u1)).trans u1; have ur := (hb6'.block _ (lt_of_block u4)).trans u4; obtain ⟨s0, s1, s2⟩ := cells3 ut; obtain ⟨x0, x1, x2⟩ := cells3 ur; have xf0 := frz ur 0; have xf1 := frz ur 1; have xf2 := frz ur 2; have s3 := (hq5.keep (hb6'.block _ hq5.lt)).cells.1.1))
      all_goals
        go_wp2_with fail
        have h1 := block_setCell (i := 0) (u := .int .i64 A) ur
        have h2 := block_setCell (i := 1) (u := .int .i64 K) h1
        have hrF : _ = some (Obj.cells #[.int .i64 A, .int .i64 K, .int .i64 C] 31 (0, 0)) := block_setCell (i := 2) (u := .int .i64 C) h2
        obtain ⟨f0, f1, f2⟩ := cells3 hrF
        have f3 := (((u2.grow hb6').set ur (by decide) (by decide)).set (i := 1) (u := .int .i64 K) h1 (by decide) (by decide)).set (i := 2) (u := .int .i64 C) h2 (by decide) (by decide)
        have f4 := (((u3.trans (Kl.of_below hb6')).set (i := 0) (u := .int .i64 A) (Nat.le_refl _)).set (i := 1) (u := .int .i64 K) (Nat.le_refl _)).set (i := 2) (u := .int .i64 C) (Nat.le_refl _)
        refine bodyPost_ret (v := .tuple #[.agg #[.int .i64 A, .int .i64 K, .int .i64 C], .slice a6 xs.length c6, .int .i64 0]) ?_ rfl ⟨a6, c6, rfl, ?_, ?_⟩
        · simp [results, asAddr, Result.andThen, go_sem, f0, f1, f2]
        · exact f3
        · exact f4
end
end Go.Proofs.YtdobleekjiehdaaGreat
