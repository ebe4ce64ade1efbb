/- live. -/
import Derived.Test.YtfbiaffdfolbgaaGreatDoorVw
namespace Go.Proofs.YtfbiaffdfolbgaaGreatDoor
set_option linter.unusedVariables false
open Go.RowKit
attribute [local go_sem ↓] Go.wp_at_zero Go.wp_at_succ
theorem row2V (w : World) (a b : Vl) : Vls (w.alloc (.cells #[.int .i64 a.kind, .int .i64 a.n, .int .i64 b.kind, .int .i64 b.n] 25)) (.slice (some ⟨w.heap.size, 0, none⟩) 2 2) [a, b] := by
  refine ⟨_, _, rfl, .inr ⟨_, _, rfl, fun t ht => ?_⟩⟩
  have h : (w.alloc (.cells #[.int .i64 a.kind, .int .i64 a.n, .int .i64 b.kind, .int .i64 b.n] 25)).heap[w.heap.size]? = some (.cells #[.int .i64 a.kind, .int .i64 a.n, .int .i64 b.kind, .int .i64 b.n] 25) := by
    show (w.heap.push _)[w.heap.size]? = _; simp
  have ht2 : t = 0 ∨ t = 1 := by simp at ht; omega
  unfold VAt World.cell?
  rw [h]
  rcases ht2 with rfl | rfl <;> simp
theorem row1V (w : World) (a : Vl) : Vls (w.alloc (.cells #[.int .i64 a.kind, .int .i64 a.n] 25)) (.slice (some ⟨w.heap.size, 0, none⟩) 1 1) [a] := by
  refine ⟨_, _, rfl, .inr ⟨_, _, rfl, fun t ht => ?_⟩⟩
  obtain rfl : t = 0 := by simpa using ht
  exact (vlNew w a).cells
theorem do2 (op : ByteArray) (a b : Vl) (w : World) : Calls Tryz.prog 10 #[.string op, .slice (some ⟨w.heap.size, 0, none⟩) 2 2] (w.alloc (.cells #[.int .i64 a.kind, .int .i64 a.n, .int .i64 b.kind, .int .i64 b.n] 25)) fun e w' => e = .returned (.tuple #[vlV (doV op [a, b]), .int .i64 (doE op [a, b])]) ∧ Below w.heap.size w w' :=
  (do_any op _ [a, b] _ (row2V w a b) (by simp)).mono fun e w' ⟨h, hb⟩ => ⟨h, (bW0 w _).trans (hb.mono (bW0 w _).size)⟩
theorem do1 (op : ByteArray) (a : Vl) (w : World) : Calls Tryz.prog 10 #[.string op, .slice (some ⟨w.heap.size, 0, none⟩) 1 1] (w.alloc (.cells #[.int .i64 a.kind, .int .i64 a.n] 25)) fun e w' => e = .returned (.tuple #[vlV (doV op [a]), .int .i64 (doE op [a])]) ∧ Below w.heap.size w w' :=
  (do_any op _ [a] _ (row1V w a) (by simp)).mono fun e w' ⟨h, hb⟩ => ⟨h, (bW0 w _).trans (hb.mono (bW0 w _).size)⟩
theorem txt_12 : txtS ⟨1, -12050⟩ = ⟨#[45, 49, 50, 46, 48, 53]⟩ := by decide +kernel
theorem d1 (w : World) : Calls Tryz.prog 10 #[.string ⟨#[47]⟩, .slice (some ⟨w.heap.size, 0, none⟩) 2 2] (w.alloc (.cells #[.int .i64 1, .int .i64 1000, .int .i64 1, .int .i64 3000] 25)) fun e w' => e = .returned (.tuple #[.agg #[.int .i64 1, .int .i64 333], .int .i64 0]) ∧ Below w.heap.size w w' := by
  have h := do2 ⟨#[47]⟩ ⟨1, 1000⟩ ⟨1, 3000⟩ w
  have e1 : doV ⟨#[47]⟩ [⟨1, 1000⟩, ⟨1, 3000⟩] = ⟨1, 333⟩ := by decide +kernel
  have e2 : doE ⟨#[47]⟩ [⟨1, 1000⟩, ⟨1, 3000⟩] = 0 := by decide +kernel
  rw [e1, e2] at h
  exact h
theorem d2 (w : World) : Calls Tryz.prog 10 #[.string ⟨#[47]⟩, .slice (some ⟨w.heap.size, 0, none⟩) 2 2] (w.alloc (.cells #[.int .i64 1, .int .i64 (-1), .int .i64 1, .int .i64 0] 25)) fun e w' => e = .returned (.tuple #[.agg #[.int .i64 5, .int .i64 0], .int .i64 0]) ∧ Below w.heap.size w w' := by
  have h := do2 ⟨#[47]⟩ ⟨1, -1⟩ ⟨1, 0⟩ w
  have e1 : doV ⟨#[47]⟩ [⟨1, -1⟩, ⟨1, 0⟩] = ⟨5, 0⟩ := by decide +kernel
  have e2 : doE ⟨#[47]⟩ [⟨1, -1⟩, ⟨1, 0⟩] = 0 := by decide +kernel
  rw [e1, e2] at h
  exact h
theorem d3 (w : World) : Calls Tryz.prog 10 #[.string ⟨#[62]⟩, .slice (some ⟨w.heap.size, 0, none⟩) 2 2] (w.alloc (.cells #[.int .i64 2, .int .i64 0, .int .i64 1, .int .i64 1] 25)) fun e w' => e = .returned (.tuple #[.agg #[.int .i64 2, .int .i64 0], .int .i64 0]) ∧ Below w.heap.size w w' := by
  have h := do2 ⟨#[62]⟩ ⟨2, 0⟩ ⟨1, 1⟩ w
  have e1 : doV ⟨#[62]⟩ [⟨2, 0⟩, ⟨1, 1⟩] = ⟨2, 0⟩ := by decide +kernel
  have e2 : doE ⟨#[62]⟩ [⟨2, 0⟩, ⟨1, 1⟩] = 0 := by decide +kernel
  rw [e1, e2] at h
  exact h
theorem d4 (w : World) : Calls Tryz.prog 10 #[.string ⟨#[33, 61]⟩, .slice (some ⟨w.heap.size, 0, none⟩) 2 2] (w.alloc (.cells #[.int .i64 3, .int .i64 0, .int .i64 3, .int .i64 0] 25)) fun e w' => e = .returned (.tuple #[.agg #[.int .i64 1, .int .i64 1000], .int .i64 0]) ∧ Below w.heap.size w w' := by
  have h := do2 ⟨#[33, 61]⟩ ⟨3, 0⟩ ⟨3, 0⟩ w
  have e1 : doV ⟨#[33, 61]⟩ [⟨3, 0⟩, ⟨3, 0⟩] = ⟨1, 1000⟩ := by decide +kernel
  have e2 : doE ⟨#[33, 61]⟩ [⟨3, 0⟩, ⟨3, 0⟩] = 0 := by decide +kernel
  rw [e1, e2] at h
  exact h
set_option maxRecDepth 100000 in
set_option maxHeartbeats 4000000 in
theorem live_any (w : World) (hG : G w) : Calls Tryz.prog 9 #[] w fun e w' => e = .returned (.bool true) ∧ Below w.heap.size w w' := by
  have n1000 : ∀ W, Calls Tryz.prog 18 #[.int .i64 1000] W fun e w' => e = .returned (.agg #[.int .i64 1, .int .i64 1000]) ∧ Below W.heap.size W w' := fun W => num_any 1000 W
  have n3000 : ∀ W, Calls Tryz.prog 18 #[.int .i64 3000] W fun e w' => e = .returned (.agg #[.int .i64 1, .int .i64 3000]) ∧ Below W.heap.size W w' := fun W => num_any 3000 W
  have nm1 : ∀ W, Calls Tryz.prog 18 #[.int .i64 (-1)] W fun e w' => e = .returned (.agg #[.int .i64 1, .int .i64 (-1)]) ∧ Below W.heap.size W w' := fun W => num_any (-1) W
  have n0 : ∀ W, Calls Tryz.prog 18 #[.int .i64 0] W fun e w' => e = .returned (.agg #[.int .i64 1, .int .i64 0]) ∧ Below W.heap.size W w' := fun W => num_any 0 W
  have n1 : ∀ W, Calls Tryz.prog 18 #[.int .i64 1] W fun e w' => e = .returned (.agg #[.int .i64 1, .int .i64 1]) ∧ Below W.heap.size W w' := fun W => num_any 1 W
  have h22 : ∀ W, Calls Tryz.prog 22 #[] W fun e w' => e = .returned (.agg #[.int .i64 2, .int .i64 0]) ∧ Below W.heap.size W w' := fun W => null_b W
  have h24 : ∀ W, Calls Tryz.prog 24 #[] W fun e w' => e = .returned (.agg #[.int .i64 3, .int .i64 0]) ∧ Below W.heap.size W w' := fun W => nan_b W
  have r333 : ∀ W, Calls Tryz.prog 19 #[.int .i64 333] W fun e w' => e = .returned (.agg #[.int .i64 1, .int .i64 333]) ∧ Below W.heap.size W w' := fun W => rnum_any 333 W
  have r1000 : ∀ W, Calls Tryz.prog 19 #[.int .i64 1000] W fun e w' => e = .returned (.agg #[.int .i64 1, .int .i64 1000]) ∧ Below W.heap.size W w' := fun W => rnum_any 1000 W
  have rm12050 : ∀ W, Calls Tryz.prog 19 #[.int .i64 (-12050)] W fun e w' => e = .returned (.agg #[.int .i64 1, .int .i64 (-12050)]) ∧ Below W.heap.size W w' := fun W => rnum_any (-12050) W
  have r29 : ∀ W, Calls Tryz.prog 29 #[] W fun e w' => e = .returned (.agg #[.int .i64 5, .int .i64 0]) ∧ Below W.heap.size W w' := fun W => rminus_b W
  have r23 : ∀ W, Calls Tryz.prog 23 #[] W fun e w' => e = .returned (.agg #[.int .i64 2, .int .i64 0]) ∧ Below W.heap.size W w' := fun W => rnull_b W
  have hpa : ∀ W, Below w.heap.size w W → Calls Tryz.prog 30 #[.string ⟨#[45, 49, 50, 46, 48, 53]⟩] W fun e w' => e = .returned (.tuple #[.agg #[.int .i64 1, .int .i64 (-12050)], .int .i64 0]) ∧ Below W.heap.size W w' := fun W h => by
    have := parse_any ⟨#[45, 49, 50, 46, 48, 53]⟩ W (hG.grow h) (by decide)
    obtain ⟨e1, e2⟩ := par_yes (v := ⟨1, -12050⟩) (by decide) txt_12
    rw [e1, e2] at this
    exact this
  have hpr : ∀ W, Below w.heap.size w W → Calls Tryz.prog 32 #[.agg #[.int .i64 1, .int .i64 (-12050)]] W fun e w' => e = .returned (.string ⟨#[45, 49, 50, 46, 48, 53]⟩) ∧ Below W.heap.size W w' := fun W h => by
    have := print_any ⟨1, -12050⟩ W (hG.grow h)
    rw [prS, if_pos (by decide), txt_12] at this
    exact this
  have hck : ∀ W : World, Calls Tryz.prog 16 #[.slice (some ⟨W.heap.size, 0, none⟩) 1 1] (W.alloc (.cells #[.int .i64 0, .int .i64 0] 25)) fun e w' => e = .returned (.int .i64 80) ∧ Below W.heap.size W w' := fun W => by
    have := check_any _ [zer] _ (row1V W zer) (by decide)
    have e : chkE [zer] = 80 := by decide
    rw [e] at this
    exact this.mono fun e w' ⟨h, hb⟩ => ⟨h, (bW0 W _).trans (hb.mono (bW0 W _).size)⟩
  have he := fun n W => enum_any n W
  clear hG
  have hB : Below w.heap.size w w := Below.refl _ _
  go_enter Tryz.func9, Tryz.ntmps9
  go_wp2_with (first | (go_at_call 18; with_reducible refine (n1000 _).mono ?_; rintro e w2 ⟨rfl, hb2⟩; replace hB := hB.trans (hb2.mono hB.size)) | (go_at_call 18; with_reducible refine (n3000 _).mono ?_; rintro e w2 ⟨rfl, hb2⟩; replace hB := hB.trans (hb2.mono hB.size)) | (go_at_call 10; refine (d1 _).mono ?_; rintro e w2 ⟨rfl, hb2⟩; replace hB := hB.trans (hb2.mono hB.size)))
  have hp : VlAt (w2.alloc (.cells #[.int .i64 1, .int .i64 333] 25)) w2.heap.size ⟨1, 333⟩ := vlNew w2 ⟨1, 333⟩
  have hB2 : Below w.heap.size w (w2.alloc (.cells #[.int .i64 1, .int .i64 333] 25)) := hB.alloc hB.size _
  clear hB hb2
  generalize w2.alloc (.cells #[.int .i64 1, .int .i64 333] 25) = W1x at hp hB2 ⊢
  generalize w2.heap.size = bp at hp ⊢
  have hO := hB2
  clear hB2
  have hB : Below W1x.heap.size W1x W1x := Below.refl _ _
  go_wp2_with (first | (go_at_call 18; with_reducible refine (nm1 _).mono ?_; rintro e w2 ⟨rfl, hb2⟩; replace hB := hB.trans (hb2.mono hB.size)) | (go_at_call 18; with_reducible refine (n0 _).mono ?_; rintro e w2 ⟨rfl, hb2⟩; replace hB := hB.trans (hb2.mono hB.size)) | (go_at_call 10; refine (d2 _).mono ?_; rintro e w2 ⟨rfl, hb2⟩; replace hB := hB.trans (hb2.mono hB.size)))
  have hq : VlAt (w2.alloc (.cells #[.int .i64 5, .int .i64 0] 25)) w2.heap.size ⟨5, 0⟩ := vlNew w2 ⟨5, 0⟩
  have hB2 : Below W1x.heap.size W1x (w2.alloc (.cells #[.int .i64 5, .int .i64 0] 25)) := hB.alloc hB.size _
  clear hB hb2
  generalize w2.alloc (.cells #[.int .i64 5, .int .i64 0] 25) = W2x at hq hB2 ⊢
  generalize w2.heap.size = bq at hq ⊢
  replace hp := hp.grow hB2
  replace hO := hO.trans (hB2.mono hO.size)
  clear hB2
  have hB : Below W2x.heap.size W2x W2x := Below.refl _ _
  go_wp2_with (first | (go_at_call 22; with_reducible refine (h22 _).mono ?_; rintro e w2 ⟨rfl, hb2⟩; replace hB := hB.trans (hb2.mono hB.size)) | (go_at_call 18; with_reducible refine (n1 _).mono ?_; rintro e w2 ⟨rfl, hb2⟩; replace hB := hB.trans (hb2.mono hB.size)) | (go_at_call 10; refine (d3 _).mono ?_; rintro e w2 ⟨rfl, hb2⟩; replace hB := hB.trans (hb2.mono hB.size)))
  have hr : VlAt (w2.alloc (.cells #[.int .i64 2, .int .i64 0] 25)) w2.heap.size ⟨2, 0⟩ := vlNew w2 ⟨2, 0⟩
  have hB2 : Below W2x.heap.size W2x (w2.alloc (.cells #[.int .i64 2, .int .i64 0] 25)) := hB.alloc hB.size _
  clear hB hb2
  generalize w2.alloc (.cells #[.int .i64 2, .int .i64 0] 25) = W3x at hr hB2 ⊢
  generalize w2.heap.size = br at hr ⊢
  replace hp := hp.grow hB2
  replace hq := hq.grow hB2
  replace hO := hO.trans (hB2.mono hO.size)
  clear hB2
  have hB : Below W3x.heap.size W3x W3x := Below.refl _ _
  go_wp2_with (first | (go_at_call 24; with_reducible refine (h24 _).mono ?_; rintro e w2 ⟨rfl, hb2⟩; replace hB := hB.trans (hb2.mono hB.size)) | (go_at_call 10; refine (d4 _).mono ?_; rintro e w2 ⟨rfl, hb2⟩; replace hB := hB.trans (hb2.mono hB.size)))
  have hs : VlAt (w2.alloc (.cells #[.int .i64 1, .int .i64 1000] 25)) w2.heap.size ⟨1, 1000⟩ := vlNew w2 ⟨1, 1000⟩
  have hB2 : Below W3x.heap.size W3x (w2.alloc (.cells #[.int .i64 1, .int .i64 1000] 25)) := hB.alloc hB.size _
  clear hB hb2
  generalize w2.alloc (.cells #[.int .i64 1, .int .i64 1000] 25) = W4x at hs hB2 ⊢
  generalize w2.heap.size = bs at hs ⊢
  replace hp := hp.grow hB2
  replace hq := hq.grow hB2
  replace hr := hr.grow hB2
  replace hO := hO.trans (hB2.mono hO.size)
  clear hB2
  have hB : Below W4x.heap.size W4x W4x := Below.refl _ _
  go_wp2_with (first | (go_at_call 30; with_reducible refine (hpa _ (hO.trans (hB.mono hO.size))).mono ?_; rintro e w2 ⟨rfl, hb2⟩; replace hB := hB.trans (hb2.mono hB.size)))
  have hx : VlAt (w2.alloc (.cells #[.int .i64 1, .int .i64 (-12050)] 25)) w2.heap.size ⟨1, -12050⟩ := vlNew w2 ⟨1, -12050⟩
  have hB2 : Below W4x.heap.size W4x (w2.alloc (.cells #[.int .i64 1, .int .i64 (-12050)] 25)) := hB.alloc hB.size _
  clear hB hb2
  generalize w2.alloc (.cells #[.int .i64 1, .int .i64 (-12050)] 25) = W5x at hx hB2 ⊢
  generalize w2.heap.size = bx at hx ⊢
  replace hp := hp.grow hB2
  replace hq := hq.grow hB2
  replace hr := hr.grow hB2
  replace hs := hs.grow hB2
  replace hO := hO.trans (hB2.mono hO.size)
  clear hB2
  have hB : Below W5x.heap.size W5x W5x.drew := (Below.refl _ _).drew
  obtain ⟨p0, p1⟩ := (hp.grow hB).cells
  obtain ⟨q0, q1⟩ := (hq.grow hB).cells
  obtain ⟨r0, r1⟩ := (hr.grow hB).cells
  obtain ⟨s0, s1⟩ := (hs.grow hB).cells
  obtain ⟨x0, x1⟩ := (hx.grow hB).cells
  go_region_held3 (fun W => W.cell? ⟨bp, 0, none⟩ = some (.int .i64 1) ∧ W.cell? ⟨bp, 1, none⟩ = some (.int .i64 333) ∧ W.cell? ⟨bq, 0, none⟩ = some (.int .i64 5) ∧ W.cell? ⟨bq, 1, none⟩ = some (.int .i64 0) ∧ W.cell? ⟨br, 0, none⟩ = some (.int .i64 2) ∧ W.cell? ⟨br, 1, none⟩ = some (.int .i64 0) ∧ W.cell? ⟨bs, 0, none⟩ = some (.int .i64 1) ∧ W.cell? ⟨bs, 1, none⟩ = some (.int .i64 1000) ∧ W.cell? ⟨bx, 0, none⟩ = some (.int .i64 1) ∧ W.cell? ⟨bx, 1, none⟩ = some (.int .i64 (-12050))) (first | exact ⟨p0, p1, q0, q1, r0, r1, s0, s1, x0, x1⟩ | exact ⟨keepC p0 (bW0 _ _), keepC p1 (bW0 _ _), keepC q0 (bW0 _ _), keepC q1 (bW0 _ _), keepC r0 (bW0 _ _), keepC r1 (bW0 _ _), keepC s0 (bW0 _ _), keepC s1 (bW0 _ _), keepC x0 (bW0 _ _), keepC x1 (bW0 _ _)⟩) (first | (go_at_call 15; with_reducible refine (he _ _).mono ?_; rintro e w2 ⟨rfl, hb2⟩; replace hB := hB.trans (hb2.mono hB.size); obtain ⟨p0, p1⟩ := (hp.grow hB).cells; obtain ⟨q0, q1⟩ := (hq.grow hB).cells; obtain ⟨r0, r1⟩ := (hr.grow hB).cells; obtain ⟨s0, s1⟩ := (hs.grow hB).cells; obtain ⟨x0, x1⟩ := (hx.grow hB).cells) | (go_at_call 19; with_reducible refine (r333 _).mono ?_; rintro e w2 ⟨rfl, hb2⟩; replace hB := hB.trans (hb2.mono hB.size); obtain ⟨p0, p1⟩ := (hp.grow hB).cells; obtain ⟨q0, q1⟩ := (hq.grow hB).cells; obtain ⟨r0, r1⟩ := (hr.grow hB).cells; obtain ⟨s0, s1⟩ := (hs.grow hB).cells; obtain ⟨x0, x1⟩ := (hx.grow hB).cells) | (go_at_call 19; with_reducible refine (r1000 _).mono ?_; rintro e w2 ⟨rfl, hb2⟩; replace hB := hB.trans (hb2.mono hB.size); obtain ⟨p0, p1⟩ := (hp.grow hB).cells; obtain ⟨q0, q1⟩ := (hq.grow hB).cells; obtain ⟨r0, r1⟩ := (hr.grow hB).cells; obtain ⟨s0, s1⟩ := (hs.grow hB).cells; obtain ⟨x0, x1⟩ := (hx.grow hB).cells) | (go_at_call 19; with_reducible refine (rm12050 _).mono ?_; rintro e w2 ⟨rfl, hb2⟩; replace hB := hB.trans (hb2.mono hB.size); obtain ⟨p0, p1⟩ := (hp.grow hB).cells; obtain ⟨q0, q1⟩ := (hq.grow hB).cells; obtain ⟨r0, r1⟩ := (hr.grow hB).cells; obtain ⟨s0, s1⟩ := (hs.grow hB).cells; obtain ⟨x0, x1⟩ := (hx.grow hB).cells) | (go_at_call 29; with_reducible refine (r29 _).mono ?_; rintro e w2 ⟨rfl, hb2⟩; replace hB := hB.trans (hb2.mono hB.size); obtain ⟨p0, p1⟩ := (hp.grow hB).cells; obtain ⟨q0, q1⟩ := (hq.grow hB).cells; obtain ⟨r0, r1⟩ := (hr.grow hB).cells; obtain ⟨s0, s1⟩ := (hs.grow hB).cells; obtain ⟨x0, x1⟩ := (hx.grow hB).cells) | (go_at_call 23; with_reducible refine (r23 _).mono ?_; rintro e w2 ⟨rfl, hb2⟩; replace hB := hB.trans (hb2.mono hB.size); obtain ⟨p0, p1⟩ := (hp.grow hB).cells; obtain ⟨q0, q1⟩ := (hq.grow hB).cells; obtain ⟨r0, r1⟩ := (hr.grow hB).cells; obtain ⟨s0, s1⟩ := (hs.grow hB).cells; obtain ⟨x0, x1⟩ := (hx.grow hB).cells) | (go_at_call 32; with_reducible refine (hpr _ (hO.trans (hB.mono hO.size))).mono ?_; rintro e w2 ⟨rfl, hb2⟩; replace hB := hB.trans (hb2.mono hB.size); obtain ⟨p0, p1⟩ := (hp.grow hB).cells; obtain ⟨q0, q1⟩ := (hq.grow hB).cells; obtain ⟨r0, r1⟩ := (hr.grow hB).cells; obtain ⟨s0, s1⟩ := (hs.grow hB).cells; obtain ⟨x0, x1⟩ := (hx.grow hB).cells) | (go_at_call 16; refine (hck _).mono ?_; rintro e w2 ⟨rfl, hb2⟩; replace hB := hB.trans (hb2.mono hB.size); obtain ⟨p0, p1⟩ := (hp.grow hB).cells; obtain ⟨q0, q1⟩ := (hq.grow hB).cells; obtain ⟨r0, r1⟩ := (hr.grow hB).cells; obtain ⟨s0, s1⟩ := (hs.grow hB).cells; obtain ⟨x0, x1⟩ := (hx.grow hB).cells))
  all_goals
    go_wp2
    go_ret
    exact ⟨rfl, hO.trans (hB.mono hO.size)⟩
end Go.Proofs.YtfbiaffdfolbgaaGreatDoor
