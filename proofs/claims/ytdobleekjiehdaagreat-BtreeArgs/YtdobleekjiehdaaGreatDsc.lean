/- The contract of descend: the empty tree, a tree of one leaf. -/
import Derived.Test.YtdobleekjiehdaaGreatStp
namespace Go.Proofs.YtdobleekjiehdaaGreat
set_option linter.unusedVariables false
open Go.RowKit
def stepC (id lv keys : Nat) (v : Value) (i : Nat) : List Value := [.int .i64 id, .int .i64 lv, .int .i64 keys, .string ⟨#[]⟩, .string ⟨#[]⟩, v, .int .i64 i]
/-- A slice of one step, in a block from base on. -/
def StepAt (w : World) (vS : Value) (base : Nat) (id lv keys : Nat) (v : Value) (i : Nat) : Prop :=
  ∃ B cap C, vS = .slice (some ⟨B, 0, none⟩) 1 cap ∧ base ≤ B ∧ w.heap[B]? = some (.cells C 102 (0, 0)) ∧ C.toList.take 7 = stepC id lv keys v i
section
variable {w : World} {m most size : Nat} {ps : List ByteArray}
theorem info102 : (Tryz.prog.info? 102).map (fun i => (i.zero, i.size, i.bytes)) = some (some (.agg #[.int .i64 0, .int .i64 0, .int .i64 0, .string ⟨#[]⟩, .string ⟨#[]⟩, .slice none 0 0, .int .i64 0]), 7, 88) := by kernel_rfl
/-- append(steps, s), in a region that draws; there is none yet. -/
theorem stepStp {ops : Array Oper} {o : Oper} {a : Act} {K : Act → World → Prop} {Q : Exit → Act → World → Prop} {E : Prop} (hg : o.guard = none) (s x : Operand)
    (hop : o.op = Op.call { callee := Callee.builtin Builtin.append, args := #[s, x], argTypes := #[77, 77] }) (g : Nat) (base id lv keys : Nat) (v : Value) (i : Nat) (hv : v.oneCell' = true) (hs : a.eval s = .slice none 0 0) (hx : a.eval x = .slice (some ⟨g, 0, none⟩) 1 1)
    (hb : w.heap[g]? = some (.cells (stepC id lv keys v i).toArray 102 (0, 0))) (hbase : base ≤ w.heap.size)
    (h : ∀ v' w', StepAt w' v' base id lv keys v i → Below w.heap.size w w' → K (a.put o.dst v') w') : if Region.wanted o (yielded ops a.tmps) = true then Oper.wp Tryz.prog o a w K Q else E := by
  have hw : Region.wanted o (yielded ops a.tmps) = true := by simp [Region.wanted, hg]
  rw [if_pos hw]
  obtain ⟨i0, hi, hz0, hz1, hz2⟩ := info_parts info102
  refine wp_append_own w s x 77 hop base 102 i0 _ 7 88 Tryz.underlying77 hi hz0 hz1 hz2 rfl (by decide) (.slice none 0 0) 0 [] hs (World.ownsRow_nil _ _ _ _) ⟨g, 0, none⟩ 1 1 (stepC id lv keys v i) hx rfl ?_ ?_ (by unfold maxLen; omega) (by omega) hbase ?_
  · intro j y hj
    rw [add_at]
    simp only [World.cell?, Nat.zero_add, hb]
    simpa using hj
  · intro u hu
    simp [stepC] at hu
    rcases hu with rfl | rfl | rfl | rfl | rfl | rfl <;> first | rfl | exact hv
  · intro v' w' h1 h2 _
    refine h v' w' ?_ ⟨h2.os, h2.tape, h2.output, h2.size, fun k hk => h2.block k hk (by simp [Value.ownBlock])⟩
    rcases h1.2 with ⟨_, h0⟩ | ⟨B, cap, C, rfl, hB, hC, _, _, _, ht⟩
    · simp at h0
    · exact ⟨B, cap, C, rfl, hB, hC, by simpa using ht⟩
set_option maxRecDepth 100000 in
set_option maxHeartbeats 4000000 in
theorem descend_empty {q p : Nat} {vS : Value} {th : Bool} (hq : PathAt w q p vS th) (k : ByteArray) :
    Calls Tryz.prog 42 #[.pointer (some ⟨q, 0, none⟩), .agg #[.int .i64 0, .int .i64 0, .int .i64 0], .string k] w fun e w' => e = .returned (.int .i64 0) ∧ ∃ vS', PathAt w' q p vS' th ∧ StepAt w' vS' w.heap.size 0 1 0 (.slice none 0 0) 0 ∧ Fm (fun b => b = q) w w' := by
  have hB : Below w.heap.size w (w.alloc (.cells #[.int .i64 0, .int .i64 0, .int .i64 0] 31)) := (Below.refl _ w).alloc (Nat.le_refl _) _
  have hql := hq.lt
  go_enter Tryz.func42, Tryz.ntmps42
  have hB2 := hB.alloc hB.size (.cells #[.int .i64 0, .int .i64 1, .int .i64 0, .string ⟨#[]⟩, .string ⟨#[]⟩, .slice none 0 0, .int .i64 0] 102)
  have hq2 := hq.keep (hB2.block _ hql)
  have hx : ((w.alloc (.cells #[.int .i64 0, .int .i64 0, .int .i64 0] 31)).alloc (.cells #[.int .i64 0, .int .i64 1, .int .i64 0, .string ⟨#[]⟩, .string ⟨#[]⟩, .slice none 0 0, .int .i64 0] 102)).heap[w.heap.size + 1]? = some (.cells #[.int .i64 0, .int .i64 1, .int .i64 0, .string ⟨#[]⟩, .string ⟨#[]⟩, .slice none 0 0, .int .i64 0] 102 (0, 0)) := by
    have := heap_alloc_new (w.alloc (.cells #[.int .i64 0, .int .i64 0, .int .i64 0] 31)) (.cells #[.int .i64 0, .int .i64 1, .int .i64 0, .string ⟨#[]⟩, .string ⟨#[]⟩, .slice none 0 0, .int .i64 0] 102)
    rwa [World.size_alloc] at this
  obtain ⟨⟨q0, q1, q2⟩, qf⟩ := hq2.cells
  have qf1 := qf 1
  go_wp2_with fail
  go_ret
  clear q0 q1 q2 qf qf1 hx hq2 hB2 hB
  have hp0 : PathAt (w.setCell ⟨q, 1, none⟩ (.slice (some ⟨w.heap.size + 1, 0, none⟩) 1 1)) q p (.slice (some ⟨w.heap.size + 1, 0, none⟩) 1 1) th := block_setCell (i := 1) hq
  have hf0 : Fm (fun b => b = q) w (w.setCell ⟨q, 1, none⟩ (.slice (some ⟨w.heap.size + 1, 0, none⟩) 1 1)) := Fm.set (Fm.refl _ w) q 1 _ (.inl rfl)
  have hz0 : (w.setCell ⟨q, 1, none⟩ (.slice (some ⟨w.heap.size + 1, 0, none⟩) 1 1)).heap.size = w.heap.size := by simp
  generalize w.setCell ⟨q, 1, none⟩ (.slice (some ⟨w.heap.size + 1, 0, none⟩) 1 1) = W0 at *
  have hA : Below W0.heap.size W0 (W0.alloc (.cells #[.int .i64 0, .int .i64 0, .int .i64 0] 31)) := (Below.refl _ W0).alloc (Nat.le_refl _) _
  have hA2 := hA.alloc hA.size (.cells #[.int .i64 0, .int .i64 1, .int .i64 0, .string ⟨#[]⟩, .string ⟨#[]⟩, .slice none 0 0, .int .i64 0] 102)
  have hx := heap_alloc_new (W0.alloc (.cells #[.int .i64 0, .int .i64 0, .int .i64 0] 31)) (.cells #[.int .i64 0, .int .i64 1, .int .i64 0, .string ⟨#[]⟩, .string ⟨#[]⟩, .slice none 0 0, .int .i64 0] 102)
  rw [World.size_alloc, hz0] at hx
  exact ⟨rfl, _, hp0.keep (hA2.block _ hp0.lt), ⟨w.heap.size + 1, 1, _, rfl, by omega, hx, rfl⟩, hf0.trans (Fm.of_below hA2 (fun _ => False)) (fun _ h => h.elim)⟩
set_option maxRecDepth 100000 in
set_option maxHeartbeats 4000000 in
theorem descend_leaf {q p mb n : Nat} {S : Int → Bool} (hq : PathAt w q p (.slice none 0 0) false) (id keys : Nat) (h1 : 1 ≤ id) (h2 : 1 ≤ keys) (l : List Cl) (k : ByteArray) (hqm : q ≠ mb) (hmbl : mb < w.heap.size)
    (hst : ∀ W, Below w.heap.size w W → Calls Tryz.prog 56 #[.pointer (some ⟨q, 0, none⟩), .agg #[.int .i64 id, .int .i64 1, .int .i64 keys, .string ⟨#[]⟩, .string ⟨#[]⟩], .string k] W fun e w' => ∃ v i fd, e = .returned (.tuple #[.agg #[.int .i64 id, .int .i64 1, .int .i64 keys, .string ⟨#[]⟩, .string ⟨#[]⟩, v, .int .i64 (i : Nat)], .int .i64 0]) ∧ OwnC w' W.heap.size v l ∧ SeekP l k i fd ∧ PathAt w' q p (.slice none 0 0) fd ∧ Met w' mb (n + 1) S ∧ Fm (fun b => b = q ∨ b = mb) W w') :
    Calls Tryz.prog 42 #[.pointer (some ⟨q, 0, none⟩), .agg #[.int .i64 id, .int .i64 keys, .int .i64 1], .string k] w fun e w' => e = .returned (.int .i64 0) ∧ ∃ vS' v i fd, PathAt w' q p vS' fd ∧ StepAt w' vS' w.heap.size id 1 keys v i ∧ OwnC w' w.heap.size v l ∧ SeekP l k i fd ∧ Met w' mb (n + 1) S ∧ Fm (fun b => b = q ∨ b = mb) w w' := by
  have hB : Below w.heap.size w (w.alloc (.cells #[.int .i64 id, .int .i64 keys, .int .i64 1] 31)) := (Below.refl _ w).alloc (Nat.le_refl _) _
  have htr := trunk_ok (w := w.alloc (.cells #[.int .i64 id, .int .i64 keys, .int .i64 1] 31)) id keys h1 h2
  go_enter Tryz.func42, Tryz.ntmps42
  go_upto_region 7 with (first | (go_at_call 44; refine htr.mono ?_; rintro e w2 ⟨rfl, hb2⟩))
  have hBw := hB.trans (hb2.mono hB.size)
  have hB3 := hBw.alloc hBw.size (.cells #[.int .i64 id, .int .i64 1, .int .i64 keys, .string ⟨#[]⟩, .string ⟨#[]⟩] 99)
  have hx3 : (w2.alloc (.cells #[.int .i64 id, .int .i64 1, .int .i64 keys, .string ⟨#[]⟩, .string ⟨#[]⟩] 99)).heap[w2.heap.size]? = some (.cells #[.int .i64 id, .int .i64 1, .int .i64 keys, .string ⟨#[]⟩, .string ⟨#[]⟩] 99 (0, 0)) := heap_alloc_new w2 _
  have hbb : w.heap.size < w2.heap.size := by have := hb2.size; simp at this; omega
  have hz3 : (w2.alloc (.cells #[.int .i64 id, .int .i64 1, .int .i64 keys, .string ⟨#[]⟩, .string ⟨#[]⟩] 99)).heap.size = w2.heap.size + 1 := by simp
  have hst3 := hst _ hB3
  generalize w2.alloc (.cells #[.int .i64 id, .int .i64 1, .int .i64 keys, .string ⟨#[]⟩, .string ⟨#[]⟩] 99) = W3 at *
  generalize w2.heap.size = bb at *
  obtain ⟨x0, x1, x2, x3, x4⟩ := cells5 hx3
  have hql := hq.lt
  clear hst htr hb2 hB hBw
  refine wp_loop_rounds 1 ?_
  rw [rounds_succ]
  go_upto_region 8 with (first | (go_at_call 56; refine hst3.mono ?_; rintro e w4 ⟨v4, i4, fd, he4, ho4, hsp, hp4, hm4, hf4⟩; obtain ⟨N, hN⟩ : ∃ N, Hid (N = l.length) := ⟨_, rfl⟩; obtain ⟨a4, c4, hv4⟩ := ho4.shape; rw [← hN.out] at hv4; subst hv4; subst he4))
  have hA5 : Below w4.heap.size w4 (w4.alloc (.cells #[.int .i64 id, .int .i64 1, .int .i64 keys, .string ⟨#[]⟩, .string ⟨#[]⟩, .slice a4 N c4, .int .i64 (i4 : Nat)] 102)) := (Below.refl _ w4).alloc (Nat.le_refl _) _
  have hs5 : (w4.alloc (.cells #[.int .i64 id, .int .i64 1, .int .i64 keys, .string ⟨#[]⟩, .string ⟨#[]⟩, .slice a4 N c4, .int .i64 (i4 : Nat)] 102)).heap[w4.heap.size]? = some (.cells #[.int .i64 id, .int .i64 1, .int .i64 keys, .string ⟨#[]⟩, .string ⟨#[]⟩, .slice a4 N c4, .int .i64 (i4 : Nat)] 102 (0, 0)) := heap_alloc_new w4 _
  have hp5 := hp4.keep (hA5.block _ hp4.lt)
  have ho5 := ho4.alloc (.cells #[.int .i64 id, .int .i64 1, .int .i64 keys, .string ⟨#[]⟩, .string ⟨#[]⟩, .slice a4 N c4, .int .i64 (i4 : Nat)] 102)
  have hm5 := hm4.keep (hA5.block _ hm4.lt)
  have hf5 : Fm (fun b => b = q ∨ b = mb) W3 (w4.alloc (.cells #[.int .i64 id, .int .i64 1, .int .i64 keys, .string ⟨#[]⟩, .string ⟨#[]⟩, .slice a4 N c4, .int .i64 (i4 : Nat)] 102)) := hf4.trans (Fm.of_below hA5 (fun _ => False)) (fun _ h => h.elim)
  have hz5 : (w4.alloc (.cells #[.int .i64 id, .int .i64 1, .int .i64 keys, .string ⟨#[]⟩, .string ⟨#[]⟩, .slice a4 N c4, .int .i64 (i4 : Nat)] 102)).heap.size = w4.heap.size + 1 := by simp
  have hz4 := hf4.size
  generalize w4.alloc (.cells #[.int .i64 id, .int .i64 1, .int .i64 keys, .string ⟨#[]⟩, .string ⟨#[]⟩, .slice a4 N c4, .int .i64 (i4 : Nat)] 102) = W5 at *
  generalize w4.heap.size = sb at *
  have hx5 := (hf5.block bb (by omega) (by rintro (e | e) <;> omega)).trans hx3
  have hAX : Below W5.heap.size W5 (W5.alloc (.cells #[.int .i64 id, .int .i64 1, .int .i64 keys, .string ⟨#[]⟩, .string ⟨#[]⟩, .slice a4 N c4, .int .i64 (i4 : Nat)] 102)) := (Below.refl _ W5).alloc (Nat.le_refl _) _
  have hxA : (W5.alloc (.cells #[.int .i64 id, .int .i64 1, .int .i64 keys, .string ⟨#[]⟩, .string ⟨#[]⟩, .slice a4 N c4, .int .i64 (i4 : Nat)] 102)).drew.heap[sb + 1]? = some (.cells (stepC id 1 keys (.slice a4 N c4) i4).toArray 102 (0, 0)) := by
    have := heap_alloc_new W5 (.cells #[.int .i64 id, .int .i64 1, .int .i64 keys, .string ⟨#[]⟩, .string ⟨#[]⟩, .slice a4 N c4, .int .i64 (i4 : Nat)] 102)
    rw [hz5] at this
    exact this
  obtain ⟨⟨p0, p1, p2⟩, pf⟩ := hp5.cells
  have hpA := hp5.keep (hAX.block _ hp5.lt)
  obtain ⟨⟨pa0, pa1, pa2⟩, paf⟩ := hpA.cells
  obtain ⟨⟨s0, s1, s2, s3⟩, ⟨s4, s5, s6⟩, sf⟩ := cells7 hs5
  obtain ⟨b0, b1, b2, b3, b4⟩ := cells5 hx5
  have hqb : q ≠ bb := by omega
  clear pf paf sf x0 x1 x2 x3 x4
  go_wp2_with fail
  go_region_law (first | (refine stepStp rfl (.tmp 42) (.tmp 44) rfl (sb + 1) w.heap.size id 1 keys _ i4 rfl rfl rfl hxA (by simp; omega) ?_; intro v6 w6 hst6 hb6; have hb6' : Below W5.heap.size W5 w6 := Below.trans hAX.drew (Below.mono hb6 hAX.size); have hp6 := hp5.keep (hb6'.block _ hp5.lt); obtain ⟨⟨g0, g1, g2⟩, gf⟩ := hp6.cells; have gf1 := gf 1; have hx6 := (hb6'.block _ (lt_of_block hx5)).trans hx5; obtain ⟨e0, e1, e2, e3, e4⟩ := cells5 hx6; obtain ⟨B6, cap6, C6, rfl, hB6, hC6, ht6⟩ := hst6))
  all_goals
    go_wp2_with fail
    go_ret
    have hsz6 := hb6'.size
    have hpF : PathAt (w6.setCell ⟨q, 1, none⟩ (.slice (some ⟨B6, 0, none⟩) 1 cap6)) q p (.slice (some ⟨B6, 0, none⟩) 1 cap6) fd := block_setCell (i := 1) hp6
    refine ⟨rfl, _, _, _, _, hpF, ⟨B6, cap6, C6, rfl, hB6, (Below.heap_setCell _ _ _ _ (by show _ ≠ q; omega)).trans hC6, ht6⟩, ?_, hsp, Met.set (hm5.keep (hb6'.block _ hm5.lt)) (by omega), ?_⟩
    · have ho6 : OwnC w6 W3.heap.size (.slice a4 N c4) l := World.ownsRow.kept (row := none) ho5 ⟨hb6'.os, hb6'.tape, hb6'.output, hb6'.size, fun k hk _ => hb6'.block k hk⟩ (by cases (Value.slice a4 N c4).ownBlock <;> simp)
      exact (OwnC.set ho6 (by omega)).wide (by omega)
    · exact Fm.set (((Fm.of_below hB3 _).trans hf5 (fun _ h => .inl h)).trans (Fm.of_below hb6' (fun _ => False)) (fun _ h => h.elim)) q 1 _ (.inl (.inl rfl))
end
end Go.Proofs.YtdobleekjiehdaaGreat
