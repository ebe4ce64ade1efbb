/- The document's Step: the same. -/
import Derived.Test.YtcfhpndoaiknhaaSt
namespace Go.Proofs.Ytcfhpndoaiknhaa
set_option linter.unusedVariables false
open Go.RowKit
theorem end_set2 {fn : Func} {p : Tmp} {tmps : Array Value} {w W : World} {x : Nat} {v u : Inst} (hr : fn.results = #[.cell p 25]) (ht : tmps[p]?.getD undef = .pointer (some ⟨x, 0, none⟩)) (hx : w.heap.size ≤ x)
    (hB : Below w.heap.size w W) (hv : IAt W x u) :
    bodyPost Try.prog fn (fun e w' => e = .returned (encI v) ∧ Below w.heap.size w w') .ret { tmps := tmps, defers := [] } (((((((W.setCell ⟨x, 0, none⟩ (.int .i64 v.st)).setCell ⟨x, 1, none⟩ (.int .i64 v.since)).setCell ⟨x, 2, none⟩ (.int .i64 v.fr)).setCell ⟨x, 3, none⟩ (.int .i64 v.quiet)).setCell ⟨x, 4, none⟩ (.int .i64 v.seen)).setCell ⟨x, 5, none⟩ (.int .i64 v.vk)).setCell ⟨x, 6, none⟩ (.int .i64 v.vn)) :=
  ret_cellI (i := v) hr ht (iSet (w := W) (x := x) (i := v) hv) ⟨rfl, belSet7 (i := v) hB hx⟩
theorem boxedR (w : World) (x : Inst) (h : Hd) (o : Obj) : IAt ((((w.alloc (iO x)).alloc (hO h)).alloc o).alloc (iO zI)) w.heap.size x ∧ HAt ((((w.alloc (iO x)).alloc (hO h)).alloc o).alloc (iO zI)) (w.heap.size + 1) h ∧
    IAt ((((w.alloc (iO x)).alloc (hO h)).alloc o).alloc (iO zI)) (w.heap.size + 3) zI ∧ Below w.heap.size w ((((w.alloc (iO x)).alloc (hO h)).alloc o).alloc (iO zI)) := by
  have b1 : Below w.heap.size w (w.alloc (iO x)) := bW0 w _
  have b2 := bW0 (w.alloc (iO x)) (hO h)
  have b3 := bW0 ((w.alloc (iO x)).alloc (hO h)) o
  have b4 := bW0 (((w.alloc (iO x)).alloc (hO h)).alloc o) (iO zI)
  refine ⟨((((iNew w x).grow b2).grow b3).grow b4), ?_, ?_, ?_⟩
  · have := ((((hNew (w.alloc (iO x)) h).grow b3).grow b4))
    rwa [World.size_alloc] at this
  · have := (iNew (((w.alloc (iO x)).alloc (hO h)).alloc o) zI)
    simpa using this
  · exact ((((b1.alloc (by simp) _).alloc (by simp; omega) _).alloc (by simp; omega) _))
set_option maxRecDepth 100000 in
set_option maxHeartbeats 4000000 in
theorem rstep_0 (st since fr quiet seen vk vn fo keep nd oe r k n now : Int) (w : World) (hm : meansI ⟨fo, keep, nd, oe⟩ r = 0) (hf : st = 2 → -9223372036854775808 ≤ now - fr ∧ now - fr ≤ 9223372036854775807) (hq : quiet ≠ -1 → -9223372036854775808 ≤ now - quiet ∧ now - quiet ≤ 9223372036854775807) (hk : st ≠ 3 → quiet = -1) :
    Calls Try.prog 18 #[encI ⟨st, since, fr, quiet, seen, vk, vn⟩, encH ⟨fo, keep, nd, oe⟩, .int .i64 r, encV k n, .int .i64 now] w fun e w' => e = .returned (encI (stepI ⟨st, since, fr, quiet, seen, vk, vn⟩ ⟨fo, keep, nd, oe⟩ r k n now)) ∧ Below w.heap.size w w' := by
  obtain ⟨y, hY⟩ : ∃ y, y = stepI ⟨st, since, fr, quiet, seen, vk, vn⟩ ⟨fo, keep, nd, oe⟩ r k n now := ⟨_, rfl⟩
  rw [← hY]
  replace hY : y = ⟨st, since, fr, quiet, now, k, n⟩ := by rw [hY]; unfold stepI; rw [hm]; rfl
  have hmeans : Hid (∀ W, Calls Try.prog 16 #[.agg #[.int .i64 fo, .int .i64 keep, .int .i64 nd, .int .i64 oe], .int .i64 r] W fun e w' => e = .returned (.int .i64 0) ∧ Below W.heap.size W w') := fun W => by
    have := rmeans16 ⟨fo, keep, nd, oe⟩ r W
    rw [hm] at this; exact this
  clear hm
  subst hY
  clear hf hq hk
  unfold encI encH encV
  simp only
  obtain ⟨hx, hh, hz, hb0⟩ := boxedR w ⟨st, since, fr, quiet, now, k, n⟩ ⟨fo, keep, nd, oe⟩ (.cells #[.int .i64 k, .int .i64 n] 23)
  replace hx : Hid (IAt (((((w.alloc (.cells #[.int .i64 st, .int .i64 since, .int .i64 fr, .int .i64 quiet, .int .i64 now, .int .i64 k, .int .i64 n] 25)).alloc (.cells #[.int .i64 fo, .int .i64 keep, .int .i64 nd, .int .i64 oe] 27)).alloc (.cells #[.int .i64 k, .int .i64 n] 23)).alloc (.cells #[.int .i64 0, .int .i64 0, .int .i64 0, .int .i64 0, .int .i64 0, .int .i64 0, .int .i64 0] 25))) w.heap.size ⟨st, since, fr, quiet, now, k, n⟩) := hx
  replace hh : Hid (HAt (((((w.alloc (.cells #[.int .i64 st, .int .i64 since, .int .i64 fr, .int .i64 quiet, .int .i64 now, .int .i64 k, .int .i64 n] 25)).alloc (.cells #[.int .i64 fo, .int .i64 keep, .int .i64 nd, .int .i64 oe] 27)).alloc (.cells #[.int .i64 k, .int .i64 n] 23)).alloc (.cells #[.int .i64 0, .int .i64 0, .int .i64 0, .int .i64 0, .int .i64 0, .int .i64 0, .int .i64 0] 25))) (w.heap.size + 1) ⟨fo, keep, nd, oe⟩) := hh
  replace hz : Hid (IAt (((((w.alloc (.cells #[.int .i64 st, .int .i64 since, .int .i64 fr, .int .i64 quiet, .int .i64 now, .int .i64 k, .int .i64 n] 25)).alloc (.cells #[.int .i64 fo, .int .i64 keep, .int .i64 nd, .int .i64 oe] 27)).alloc (.cells #[.int .i64 k, .int .i64 n] 23)).alloc (.cells #[.int .i64 0, .int .i64 0, .int .i64 0, .int .i64 0, .int .i64 0, .int .i64 0, .int .i64 0] 25))) (w.heap.size + 3) zI) := hz
  replace hb0 : Hid (Below w.heap.size w (((((w.alloc (.cells #[.int .i64 st, .int .i64 since, .int .i64 fr, .int .i64 quiet, .int .i64 now, .int .i64 k, .int .i64 n] 25)).alloc (.cells #[.int .i64 fo, .int .i64 keep, .int .i64 nd, .int .i64 oe] 27)).alloc (.cells #[.int .i64 k, .int .i64 n] 23)).alloc (.cells #[.int .i64 0, .int .i64 0, .int .i64 0, .int .i64 0, .int .i64 0, .int .i64 0, .int .i64 0] 25)))) := hb0
  go_enter Try.func18, Try.ntmps18
  go_wp2_with (first | (go_at_call 16; refine (hmeans.out _).mono ?_; rintro e w3 ⟨rfl, hb3⟩; have hx3 := hx.out.grow hb3; have hh3 := hh.out.grow hb3; have hz3 := hz.out.grow hb3; have hB3 := hb0.out.trans (hb3.mono hb0.out.size); clear hx hh hz hb0 hb3; obtain ⟨p0, p1, p2, p3, p4, p5, p6⟩ := hx3.cells; obtain ⟨g0, g1, g2, g3, g4, g5, g6⟩ := hx3.frozen; obtain ⟨h0, h1, h2, h3⟩ := hh3.cells; obtain ⟨z0, z1, z2, z3, z4, z5, z6⟩ := hz3.cells; obtain ⟨f0, f1, f2, f3, f4, f5, f6⟩ := hz3.frozen; replace hx3 : Hid _ := hx3; replace hh3 : Hid _ := hh3; replace hz3 : Hid (IAt w3 (w.heap.size + 3) zI) := hz3; replace hB3 : Hid (Below w.heap.size w w3) := hB3))
  exact end_set2 (v := ⟨st, since, fr, quiet, now, k, n⟩) Try.results18 rfl (by omega) hB3.out hz3.out
set_option maxRecDepth 100000 in
set_option maxHeartbeats 4000000 in
theorem rstep_3 (st since fr quiet seen vk vn fo keep nd oe r k n now : Int) (w : World) (hm : meansI ⟨fo, keep, nd, oe⟩ r = 3) (hf : st = 2 → -9223372036854775808 ≤ now - fr ∧ now - fr ≤ 9223372036854775807) (hq : quiet ≠ -1 → -9223372036854775808 ≤ now - quiet ∧ now - quiet ≤ 9223372036854775807) (hk : st ≠ 3 → quiet = -1) :
    Calls Try.prog 18 #[encI ⟨st, since, fr, quiet, seen, vk, vn⟩, encH ⟨fo, keep, nd, oe⟩, .int .i64 r, encV k n, .int .i64 now] w fun e w' => e = .returned (encI (stepI ⟨st, since, fr, quiet, seen, vk, vn⟩ ⟨fo, keep, nd, oe⟩ r k n now)) ∧ Below w.heap.size w w' := by
  obtain ⟨y, hY⟩ : ∃ y, y = stepI ⟨st, since, fr, quiet, seen, vk, vn⟩ ⟨fo, keep, nd, oe⟩ r k n now := ⟨_, rfl⟩
  rw [← hY]
  replace hY : y = comeI ⟨st, since, fr, quiet, now, k, n⟩ 4 now := by rw [hY]; unfold stepI; rw [hm]; rfl
  have hmeans : Hid (∀ W, Calls Try.prog 16 #[.agg #[.int .i64 fo, .int .i64 keep, .int .i64 nd, .int .i64 oe], .int .i64 r] W fun e w' => e = .returned (.int .i64 3) ∧ Below W.heap.size W w') := fun W => by
    have := rmeans16 ⟨fo, keep, nd, oe⟩ r W
    rw [hm] at this; exact this
  clear hm
  clear hf hq hk
  have hC : Hid (∀ W, Calls Try.prog 29 #[.agg #[.int .i64 st, .int .i64 since, .int .i64 fr, .int .i64 quiet, .int .i64 now, .int .i64 k, .int .i64 n], .int .i64 4, .int .i64 now] W fun e w' => e = .returned (.agg #[.int .i64 y.st, .int .i64 y.since, .int .i64 y.fr, .int .i64 y.quiet, .int .i64 y.seen, .int .i64 y.vk, .int .i64 y.vn]) ∧ Below W.heap.size W w') := fun W => by
    have := rto29 ⟨st, since, fr, quiet, now, k, n⟩ now 4 W (by simp) (by simp) (by simp)
    rw [← hY] at this; exact this
  clear hY
  unfold encI encH encV
  simp only
  obtain ⟨hx, hh, hz, hb0⟩ := boxedR w ⟨st, since, fr, quiet, now, k, n⟩ ⟨fo, keep, nd, oe⟩ (.cells #[.int .i64 k, .int .i64 n] 23)
  replace hx : Hid (IAt (((((w.alloc (.cells #[.int .i64 st, .int .i64 since, .int .i64 fr, .int .i64 quiet, .int .i64 now, .int .i64 k, .int .i64 n] 25)).alloc (.cells #[.int .i64 fo, .int .i64 keep, .int .i64 nd, .int .i64 oe] 27)).alloc (.cells #[.int .i64 k, .int .i64 n] 23)).alloc (.cells #[.int .i64 0, .int .i64 0, .int .i64 0, .int .i64 0, .int .i64 0, .int .i64 0, .int .i64 0] 25))) w.heap.size ⟨st, since, fr, quiet, now, k, n⟩) := hx
  replace hh : Hid (HAt (((((w.alloc (.cells #[.int .i64 st, .int .i64 since, .int .i64 fr, .int .i64 quiet, .int .i64 now, .int .i64 k, .int .i64 n] 25)).alloc (.cells #[.int .i64 fo, .int .i64 keep, .int .i64 nd, .int .i64 oe] 27)).alloc (.cells #[.int .i64 k, .int .i64 n] 23)).alloc (.cells #[.int .i64 0, .int .i64 0, .int .i64 0, .int .i64 0, .int .i64 0, .int .i64 0, .int .i64 0] 25))) (w.heap.size + 1) ⟨fo, keep, nd, oe⟩) := hh
  replace hz : Hid (IAt (((((w.alloc (.cells #[.int .i64 st, .int .i64 since, .int .i64 fr, .int .i64 quiet, .int .i64 now, .int .i64 k, .int .i64 n] 25)).alloc (.cells #[.int .i64 fo, .int .i64 keep, .int .i64 nd, .int .i64 oe] 27)).alloc (.cells #[.int .i64 k, .int .i64 n] 23)).alloc (.cells #[.int .i64 0, .int .i64 0, .int .i64 0, .int .i64 0, .int .i64 0, .int .i64 0, .int .i64 0] 25))) (w.heap.size + 3) zI) := hz
  replace hb0 : Hid (Below w.heap.size w (((((w.alloc (.cells #[.int .i64 st, .int .i64 since, .int .i64 fr, .int .i64 quiet, .int .i64 now, .int .i64 k, .int .i64 n] 25)).alloc (.cells #[.int .i64 fo, .int .i64 keep, .int .i64 nd, .int .i64 oe] 27)).alloc (.cells #[.int .i64 k, .int .i64 n] 23)).alloc (.cells #[.int .i64 0, .int .i64 0, .int .i64 0, .int .i64 0, .int .i64 0, .int .i64 0, .int .i64 0] 25)))) := hb0
  go_enter Try.func18, Try.ntmps18
  go_wp2_with (first | (go_at_call 16; refine (hmeans.out _).mono ?_; rintro e w3 ⟨rfl, hb3⟩; have hx3 := hx.out.grow hb3; have hh3 := hh.out.grow hb3; have hz3 := hz.out.grow hb3; have hB3 := hb0.out.trans (hb3.mono hb0.out.size); clear hx hh hz hb0 hb3; obtain ⟨p0, p1, p2, p3, p4, p5, p6⟩ := hx3.cells; obtain ⟨g0, g1, g2, g3, g4, g5, g6⟩ := hx3.frozen; obtain ⟨h0, h1, h2, h3⟩ := hh3.cells; obtain ⟨z0, z1, z2, z3, z4, z5, z6⟩ := hz3.cells; obtain ⟨f0, f1, f2, f3, f4, f5, f6⟩ := hz3.frozen; replace hx3 : Hid _ := hx3; replace hh3 : Hid _ := hh3; replace hz3 : Hid (IAt w3 (w.heap.size + 3) zI) := hz3; replace hB3 : Hid (Below w.heap.size w w3) := hB3) | (go_at_call 29; refine (hC.out _).mono ?_; rintro e w4 ⟨rfl, hb4⟩; have hz4 : IAt w4 (w.heap.size + 3) zI := IAt.grow (by first | exact hz3.out | exact hz3.out.other (by omega) | exact (hz3.out.other (by omega)).other (by omega)) hb4; have hB4 : Below w.heap.size w w4 := Below.trans (by first | exact hB3.out | exact hB3.out.setCell (Nat.le_refl _) _) (hb4.mono (by first | exact hB3.out.size | (have := hB3.out.size; simpa using this))); clear hb4; obtain ⟨z0, z1, z2, z3, z4, z5, z6⟩ := hz4.cells; obtain ⟨f0, f1, f2, f3, f4, f5, f6⟩ := hz4.frozen; replace hz4 : Hid (IAt w4 (w.heap.size + 3) zI) := hz4; replace hB4 : Hid (Below w.heap.size w w4) := hB4))
  exact end_set2 (v := y) Try.results18 rfl (by omega) hB4.out hz4.out
set_option maxRecDepth 100000 in
set_option maxHeartbeats 4000000 in
theorem rstep_4 (st since fr quiet seen vk vn fo keep nd oe r k n now : Int) (w : World) (hm : meansI ⟨fo, keep, nd, oe⟩ r = 4) (hf : st = 2 → -9223372036854775808 ≤ now - fr ∧ now - fr ≤ 9223372036854775807) (hq : quiet ≠ -1 → -9223372036854775808 ≤ now - quiet ∧ now - quiet ≤ 9223372036854775807) (hk : st ≠ 3 → quiet = -1) :
    Calls Try.prog 18 #[encI ⟨st, since, fr, quiet, seen, vk, vn⟩, encH ⟨fo, keep, nd, oe⟩, .int .i64 r, encV k n, .int .i64 now] w fun e w' => e = .returned (encI (stepI ⟨st, since, fr, quiet, seen, vk, vn⟩ ⟨fo, keep, nd, oe⟩ r k n now)) ∧ Below w.heap.size w w' := by
  obtain ⟨y, hY⟩ : ∃ y, y = stepI ⟨st, since, fr, quiet, seen, vk, vn⟩ ⟨fo, keep, nd, oe⟩ r k n now := ⟨_, rfl⟩
  rw [← hY]
  replace hY : y = comeI ⟨st, since, fr, quiet, now, k, n⟩ 5 now := by rw [hY]; unfold stepI; rw [hm]; rfl
  have hmeans : Hid (∀ W, Calls Try.prog 16 #[.agg #[.int .i64 fo, .int .i64 keep, .int .i64 nd, .int .i64 oe], .int .i64 r] W fun e w' => e = .returned (.int .i64 4) ∧ Below W.heap.size W w') := fun W => by
    have := rmeans16 ⟨fo, keep, nd, oe⟩ r W
    rw [hm] at this; exact this
  clear hm
  clear hf hq hk
  have hC : Hid (∀ W, Calls Try.prog 29 #[.agg #[.int .i64 st, .int .i64 since, .int .i64 fr, .int .i64 quiet, .int .i64 now, .int .i64 k, .int .i64 n], .int .i64 5, .int .i64 now] W fun e w' => e = .returned (.agg #[.int .i64 y.st, .int .i64 y.since, .int .i64 y.fr, .int .i64 y.quiet, .int .i64 y.seen, .int .i64 y.vk, .int .i64 y.vn]) ∧ Below W.heap.size W w') := fun W => by
    have := rto29 ⟨st, since, fr, quiet, now, k, n⟩ now 5 W (by simp) (by simp) (by simp)
    rw [← hY] at this; exact this
  clear hY
  unfold encI encH encV
  simp only
  obtain ⟨hx, hh, hz, hb0⟩ := boxedR w ⟨st, since, fr, quiet, now, k, n⟩ ⟨fo, keep, nd, oe⟩ (.cells #[.int .i64 k, .int .i64 n] 23)
  replace hx : Hid (IAt (((((w.alloc (.cells #[.int .i64 st, .int .i64 since, .int .i64 fr, .int .i64 quiet, .int .i64 now, .int .i64 k, .int .i64 n] 25)).alloc (.cells #[.int .i64 fo, .int .i64 keep, .int .i64 nd, .int .i64 oe] 27)).alloc (.cells #[.int .i64 k, .int .i64 n] 23)).alloc (.cells #[.int .i64 0, .int .i64 0, .int .i64 0, .int .i64 0, .int .i64 0, .int .i64 0, .int .i64 0] 25))) w.heap.size ⟨st, since, fr, quiet, now, k, n⟩) := hx
  replace hh : Hid (HAt (((((w.alloc (.cells #[.int .i64 st, .int .i64 since, .int .i64 fr, .int .i64 quiet, .int .i64 now, .int .i64 k, .int .i64 n] 25)).alloc (.cells #[.int .i64 fo, .int .i64 keep, .int .i64 nd, .int .i64 oe] 27)).alloc (.cells #[.int .i64 k, .int .i64 n] 23)).alloc (.cells #[.int .i64 0, .int .i64 0, .int .i64 0, .int .i64 0, .int .i64 0, .int .i64 0, .int .i64 0] 25))) (w.heap.size + 1) ⟨fo, keep, nd, oe⟩) := hh
  replace hz : Hid (IAt (((((w.alloc (.cells #[.int .i64 st, .int .i64 since, .int .i64 fr, .int .i64 quiet, .int .i64 now, .int .i64 k, .int .i64 n] 25)).alloc (.cells #[.int .i64 fo, .int .i64 keep, .int .i64 nd, .int .i64 oe] 27)).alloc (.cells #[.int .i64 k, .int .i64 n] 23)).alloc (.cells #[.int .i64 0, .int .i64 0, .int .i64 0, .int .i64 0, .int .i64 0, .int .i64 0, .int .i64 0] 25))) (w.heap.size + 3) zI) := hz
  replace hb0 : Hid (Below w.heap.size w (((((w.alloc (.cells #[.int .i64 st, .int .i64 since, .int .i64 fr, .int .i64 quiet, .int .i64 now, .int .i64 k, .int .i64 n] 25)).alloc (.cells #[.int .i64 fo, .int .i64 keep, .int .i64 nd, .int .i64 oe] 27)).alloc (.cells #[.int .i64 k, .int .i64 n] 23)).alloc (.cells #[.int .i64 0, .int .i64 0, .int .i64 0, .int .i64 0, .int .i64 0, .int .i64 0, .int .i64 0] 25)))) := hb0
  go_enter Try.func18, Try.ntmps18
  go_wp2_with (first | (go_at_call 16; refine (hmeans.out _).mono ?_; rintro e w3 ⟨rfl, hb3⟩; have hx3 := hx.out.grow hb3; have hh3 := hh.out.grow hb3; have hz3 := hz.out.grow hb3; have hB3 := hb0.out.trans (hb3.mono hb0.out.size); clear hx hh hz hb0 hb3; obtain ⟨p0, p1, p2, p3, p4, p5, p6⟩ := hx3.cells; obtain ⟨g0, g1, g2, g3, g4, g5, g6⟩ := hx3.frozen; obtain ⟨h0, h1, h2, h3⟩ := hh3.cells; obtain ⟨z0, z1, z2, z3, z4, z5, z6⟩ := hz3.cells; obtain ⟨f0, f1, f2, f3, f4, f5, f6⟩ := hz3.frozen; replace hx3 : Hid _ := hx3; replace hh3 : Hid _ := hh3; replace hz3 : Hid (IAt w3 (w.heap.size + 3) zI) := hz3; replace hB3 : Hid (Below w.heap.size w w3) := hB3) | (go_at_call 29; refine (hC.out _).mono ?_; rintro e w4 ⟨rfl, hb4⟩; have hz4 : IAt w4 (w.heap.size + 3) zI := IAt.grow (by first | exact hz3.out | exact hz3.out.other (by omega) | exact (hz3.out.other (by omega)).other (by omega)) hb4; have hB4 : Below w.heap.size w w4 := Below.trans (by first | exact hB3.out | exact hB3.out.setCell (Nat.le_refl _) _) (hb4.mono (by first | exact hB3.out.size | (have := hB3.out.size; simpa using this))); clear hb4; obtain ⟨z0, z1, z2, z3, z4, z5, z6⟩ := hz4.cells; obtain ⟨f0, f1, f2, f3, f4, f5, f6⟩ := hz4.frozen; replace hz4 : Hid (IAt w4 (w.heap.size + 3) zI) := hz4; replace hB4 : Hid (Below w.heap.size w w4) := hB4))
  exact end_set2 (v := y) Try.results18 rfl (by omega) hB4.out hz4.out
set_option maxRecDepth 100000 in
set_option maxHeartbeats 4000000 in
theorem rstep_1 (st since fr quiet seen vk vn fo keep nd oe r k n now : Int) (w : World) (hm : meansI ⟨fo, keep, nd, oe⟩ r = 1) (hf : st = 2 → -9223372036854775808 ≤ now - fr ∧ now - fr ≤ 9223372036854775807) (hq : quiet ≠ -1 → -9223372036854775808 ≤ now - quiet ∧ now - quiet ≤ 9223372036854775807) (hk : st ≠ 3 → quiet = -1) :
    Calls Try.prog 18 #[encI ⟨st, since, fr, quiet, seen, vk, vn⟩, encH ⟨fo, keep, nd, oe⟩, .int .i64 r, encV k n, .int .i64 now] w fun e w' => e = .returned (encI (stepI ⟨st, since, fr, quiet, seen, vk, vn⟩ ⟨fo, keep, nd, oe⟩ r k n now)) ∧ Below w.heap.size w w' := by
  obtain ⟨y, hY⟩ : ∃ y, y = stepI ⟨st, since, fr, quiet, seen, vk, vn⟩ ⟨fo, keep, nd, oe⟩ r k n now := ⟨_, rfl⟩
  rw [← hY]
  replace hY : y = calmI ⟨st, since, fr, quiet, now, k, n⟩ ⟨fo, keep, nd, oe⟩ now := by rw [hY]; unfold stepI; rw [hm]; rfl
  have hmeans : Hid (∀ W, Calls Try.prog 16 #[.agg #[.int .i64 fo, .int .i64 keep, .int .i64 nd, .int .i64 oe], .int .i64 r] W fun e w' => e = .returned (.int .i64 1) ∧ Below W.heap.size W w') := fun W => by
    have := rmeans16 ⟨fo, keep, nd, oe⟩ r W
    rw [hm] at this; exact this
  clear hm
  clear hf hk
  by_cases h3 : st = 3
  · subst h3
    by_cases hkp : 0 < keep
    · by_cases hqq : quiet = -1
      · subst hqq
        clear hq
        have hz0 : now - now = 0 := by omega
        have hle : ¬ keep ≤ 0 := by omega
        replace hY : y = ⟨3, since, fr, now, now, k, n⟩ := by rw [hY]; simp [calmI, quI, hle, hkp]
        subst hY
        unfold encI encH encV
        simp only
        obtain ⟨hx, hh, hz, hb0⟩ := boxedR w ⟨3, since, fr, (-1), now, k, n⟩ ⟨fo, keep, nd, oe⟩ (.cells #[.int .i64 k, .int .i64 n] 23)
        replace hx : Hid (IAt (((((w.alloc (.cells #[.int .i64 3, .int .i64 since, .int .i64 fr, .int .i64 (-1), .int .i64 now, .int .i64 k, .int .i64 n] 25)).alloc (.cells #[.int .i64 fo, .int .i64 keep, .int .i64 nd, .int .i64 oe] 27)).alloc (.cells #[.int .i64 k, .int .i64 n] 23)).alloc (.cells #[.int .i64 0, .int .i64 0, .int .i64 0, .int .i64 0, .int .i64 0, .int .i64 0, .int .i64 0] 25))) w.heap.size ⟨3, since, fr, (-1), now, k, n⟩) := hx
        replace hh : Hid (HAt (((((w.alloc (.cells #[.int .i64 3, .int .i64 since, .int .i64 fr, .int .i64 (-1), .int .i64 now, .int .i64 k, .int .i64 n] 25)).alloc (.cells #[.int .i64 fo, .int .i64 keep, .int .i64 nd, .int .i64 oe] 27)).alloc (.cells #[.int .i64 k, .int .i64 n] 23)).alloc (.cells #[.int .i64 0, .int .i64 0, .int .i64 0, .int .i64 0, .int .i64 0, .int .i64 0, .int .i64 0] 25))) (w.heap.size + 1) ⟨fo, keep, nd, oe⟩) := hh
        replace hz : Hid (IAt (((((w.alloc (.cells #[.int .i64 3, .int .i64 since, .int .i64 fr, .int .i64 (-1), .int .i64 now, .int .i64 k, .int .i64 n] 25)).alloc (.cells #[.int .i64 fo, .int .i64 keep, .int .i64 nd, .int .i64 oe] 27)).alloc (.cells #[.int .i64 k, .int .i64 n] 23)).alloc (.cells #[.int .i64 0, .int .i64 0, .int .i64 0, .int .i64 0, .int .i64 0, .int .i64 0, .int .i64 0] 25))) (w.heap.size + 3) zI) := hz
        replace hb0 : Hid (Below w.heap.size w (((((w.alloc (.cells #[.int .i64 3, .int .i64 since, .int .i64 fr, .int .i64 (-1), .int .i64 now, .int .i64 k, .int .i64 n] 25)).alloc (.cells #[.int .i64 fo, .int .i64 keep, .int .i64 nd, .int .i64 oe] 27)).alloc (.cells #[.int .i64 k, .int .i64 n] 23)).alloc (.cells #[.int .i64 0, .int .i64 0, .int .i64 0, .int .i64 0, .int .i64 0, .int .i64 0, .int .i64 0] 25)))) := hb0
        go_enter Try.func18, Try.ntmps18
        go_wp2_with (first | (go_at_call 16; refine (hmeans.out _).mono ?_; rintro e w3 ⟨rfl, hb3⟩; have hx3 := hx.out.grow hb3; have hh3 := hh.out.grow hb3; have hz3 := hz.out.grow hb3; have hB3 := hb0.out.trans (hb3.mono hb0.out.size); clear hx hh hz hb0 hb3; obtain ⟨p0, p1, p2, p3, p4, p5, p6⟩ := hx3.cells; obtain ⟨g0, g1, g2, g3, g4, g5, g6⟩ := hx3.frozen; obtain ⟨h0, h1, h2, h3⟩ := hh3.cells; obtain ⟨z0, z1, z2, z3, z4, z5, z6⟩ := hz3.cells; obtain ⟨f0, f1, f2, f3, f4, f5, f6⟩ := hz3.frozen; replace hx3 : Hid _ := hx3; replace hh3 : Hid _ := hh3; replace hz3 : Hid (IAt w3 (w.heap.size + 3) zI) := hz3; replace hB3 : Hid (Below w.heap.size w w3) := hB3))
        exact end_set2 (v := ⟨3, since, fr, now, now, k, n⟩) Try.results18 rfl (by omega) (hB3.out.setCell (Nat.le_refl _) _) (hz3.out.other (by omega))
      · have hq2 := hq hqq
        clear hq
        have hqb : (quiet == -1) = false := by simpa using hqq
        by_cases hle : keep ≤ now - quiet
        · replace hY : y = comeI ⟨3, since, fr, quiet, now, k, n⟩ 1 now := by rw [hY]; simp [calmI, quI, hle, hkp, hqq]
          have hle2 : ¬ now - quiet < keep := by omega
          have hC : Hid (∀ W, Calls Try.prog 29 #[.agg #[.int .i64 3, .int .i64 since, .int .i64 fr, .int .i64 quiet, .int .i64 now, .int .i64 k, .int .i64 n], .int .i64 1, .int .i64 now] W fun e w' => e = .returned (.agg #[.int .i64 y.st, .int .i64 y.since, .int .i64 y.fr, .int .i64 y.quiet, .int .i64 y.seen, .int .i64 y.vk, .int .i64 y.vn]) ∧ Below W.heap.size W w') := fun W => by
            have := rto29 ⟨3, since, fr, quiet, now, k, n⟩ now 1 W (by simp) (by simp) (by simp)
            rw [← hY] at this; exact this
          clear hY
          unfold encI encH encV
          simp only
          obtain ⟨hx, hh, hz, hb0⟩ := boxedR w ⟨3, since, fr, quiet, now, k, n⟩ ⟨fo, keep, nd, oe⟩ (.cells #[.int .i64 k, .int .i64 n] 23)
          replace hx : Hid (IAt (((((w.alloc (.cells #[.int .i64 3, .int .i64 since, .int .i64 fr, .int .i64 quiet, .int .i64 now, .int .i64 k, .int .i64 n] 25)).alloc (.cells #[.int .i64 fo, .int .i64 keep, .int .i64 nd, .int .i64 oe] 27)).alloc (.cells #[.int .i64 k, .int .i64 n] 23)).alloc (.cells #[.int .i64 0, .int .i64 0, .int .i64 0, .int .i64 0, .int .i64 0, .int .i64 0, .int .i64 0] 25))) w.heap.size ⟨3, since, fr, quiet, now, k, n⟩) := hx
          replace hh : Hid (HAt (((((w.alloc (.cells #[.int .i64 3, .int .i64 since, .int .i64 fr, .int .i64 quiet, .int .i64 now, .int .i64 k, .int .i64 n] 25)).alloc (.cells #[.int .i64 fo, .int .i64 keep, .int .i64 nd, .int .i64 oe] 27)).alloc (.cells #[.int .i64 k, .int .i64 n] 23)).alloc (.cells #[.int .i64 0, .int .i64 0, .int .i64 0, .int .i64 0, .int .i64 0, .int .i64 0, .int .i64 0] 25))) (w.heap.size + 1) ⟨fo, keep, nd, oe⟩) := hh
          replace hz : Hid (IAt (((((w.alloc (.cells #[.int .i64 3, .int .i64 since, .int .i64 fr, .int .i64 quiet, .int .i64 now, .int .i64 k, .int .i64 n] 25)).alloc (.cells #[.int .i64 fo, .int .i64 keep, .int .i64 nd, .int .i64 oe] 27)).alloc (.cells #[.int .i64 k, .int .i64 n] 23)).alloc (.cells #[.int .i64 0, .int .i64 0, .int .i64 0, .int .i64 0, .int .i64 0, .int .i64 0, .int .i64 0] 25))) (w.heap.size + 3) zI) := hz
          replace hb0 : Hid (Below w.heap.size w (((((w.alloc (.cells #[.int .i64 3, .int .i64 since, .int .i64 fr, .int .i64 quiet, .int .i64 now, .int .i64 k, .int .i64 n] 25)).alloc (.cells #[.int .i64 fo, .int .i64 keep, .int .i64 nd, .int .i64 oe] 27)).alloc (.cells #[.int .i64 k, .int .i64 n] 23)).alloc (.cells #[.int .i64 0, .int .i64 0, .int .i64 0, .int .i64 0, .int .i64 0, .int .i64 0, .int .i64 0] 25)))) := hb0
          go_enter Try.func18, Try.ntmps18
          go_wp2_with (first | (go_at_call 16; refine (hmeans.out _).mono ?_; rintro e w3 ⟨rfl, hb3⟩; have hx3 := hx.out.grow hb3; have hh3 := hh.out.grow hb3; have hz3 := hz.out.grow hb3; have hB3 := hb0.out.trans (hb3.mono hb0.out.size); clear hx hh hz hb0 hb3; obtain ⟨p0, p1, p2, p3, p4, p5, p6⟩ := hx3.cells; obtain ⟨g0, g1, g2, g3, g4, g5, g6⟩ := hx3.frozen; obtain ⟨h0, h1, h2, h3⟩ := hh3.cells; obtain ⟨z0, z1, z2, z3, z4, z5, z6⟩ := hz3.cells; obtain ⟨f0, f1, f2, f3, f4, f5, f6⟩ := hz3.frozen; replace hx3 : Hid _ := hx3; replace hh3 : Hid _ := hh3; replace hz3 : Hid (IAt w3 (w.heap.size + 3) zI) := hz3; replace hB3 : Hid (Below w.heap.size w w3) := hB3) | (go_at_call 29; refine (hC.out _).mono ?_; rintro e w4 ⟨rfl, hb4⟩; have hz4 : IAt w4 (w.heap.size + 3) zI := IAt.grow (by first | exact hz3.out | exact hz3.out.other (by omega) | exact (hz3.out.other (by omega)).other (by omega)) hb4; have hB4 : Below w.heap.size w w4 := Below.trans (by first | exact hB3.out | exact hB3.out.setCell (Nat.le_refl _) _) (hb4.mono (by first | exact hB3.out.size | (have := hB3.out.size; simpa using this))); clear hb4; obtain ⟨z0, z1, z2, z3, z4, z5, z6⟩ := hz4.cells; obtain ⟨f0, f1, f2, f3, f4, f5, f6⟩ := hz4.frozen; replace hz4 : Hid (IAt w4 (w.heap.size + 3) zI) := hz4; replace hB4 : Hid (Below w.heap.size w w4) := hB4))
          exact end_set2 (v := y) Try.results18 rfl (by omega) hB4.out hz4.out
        · replace hY : y = ⟨3, since, fr, quiet, now, k, n⟩ := by rw [hY]; simp [calmI, quI, hle, hkp, hqq]
          have hle2 : now - quiet < keep := by omega
          subst hY
          unfold encI encH encV
          simp only
          obtain ⟨hx, hh, hz, hb0⟩ := boxedR w ⟨3, since, fr, quiet, now, k, n⟩ ⟨fo, keep, nd, oe⟩ (.cells #[.int .i64 k, .int .i64 n] 23)
          replace hx : Hid (IAt (((((w.alloc (.cells #[.int .i64 3, .int .i64 since, .int .i64 fr, .int .i64 quiet, .int .i64 now, .int .i64 k, .int .i64 n] 25)).alloc (.cells #[.int .i64 fo, .int .i64 keep, .int .i64 nd, .int .i64 oe] 27)).alloc (.cells #[.int .i64 k, .int .i64 n] 23)).alloc (.cells #[.int .i64 0, .int .i64 0, .int .i64 0, .int .i64 0, .int .i64 0, .int .i64 0, .int .i64 0] 25))) w.heap.size ⟨3, since, fr, quiet, now, k, n⟩) := hx
          replace hh : Hid (HAt (((((w.alloc (.cells #[.int .i64 3, .int .i64 since, .int .i64 fr, .int .i64 quiet, .int .i64 now, .int .i64 k, .int .i64 n] 25)).alloc (.cells #[.int .i64 fo, .int .i64 keep, .int .i64 nd, .int .i64 oe] 27)).alloc (.cells #[.int .i64 k, .int .i64 n] 23)).alloc (.cells #[.int .i64 0, .int .i64 0, .int .i64 0, .int .i64 0, .int .i64 0, .int .i64 0, .int .i64 0] 25))) (w.heap.size + 1) ⟨fo, keep, nd, oe⟩) := hh
          replace hz : Hid (IAt (((((w.alloc (.cells #[.int .i64 3, .int .i64 since, .int .i64 fr, .int .i64 quiet, .int .i64 now, .int .i64 k, .int .i64 n] 25)).alloc (.cells #[.int .i64 fo, .int .i64 keep, .int .i64 nd, .int .i64 oe] 27)).alloc (.cells #[.int .i64 k, .int .i64 n] 23)).alloc (.cells #[.int .i64 0, .int .i64 0, .int .i64 0, .int .i64 0, .int .i64 0, .int .i64 0, .int .i64 0] 25))) (w.heap.size + 3) zI) := hz
          replace hb0 : Hid (Below w.heap.size w (((((w.alloc (.cells #[.int .i64 3, .int .i64 since, .int .i64 fr, .int .i64 quiet, .int .i64 now, .int .i64 k, .int .i64 n] 25)).alloc (.cells #[.int .i64 fo, .int .i64 keep, .int .i64 nd, .int .i64 oe] 27)).alloc (.cells #[.int .i64 k, .int .i64 n] 23)).alloc (.cells #[.int .i64 0, .int .i64 0, .int .i64 0, .int .i64 0, .int .i64 0, .int .i64 0, .int .i64 0] 25)))) := hb0
          go_enter Try.func18, Try.ntmps18
          go_wp2_with (first | (go_at_call 16; refine (hmeans.out _).mono ?_; rintro e w3 ⟨rfl, hb3⟩; have hx3 := hx.out.grow hb3; have hh3 := hh.out.grow hb3; have hz3 := hz.out.grow hb3; have hB3 := hb0.out.trans (hb3.mono hb0.out.size); clear hx hh hz hb0 hb3; obtain ⟨p0, p1, p2, p3, p4, p5, p6⟩ := hx3.cells; obtain ⟨g0, g1, g2, g3, g4, g5, g6⟩ := hx3.frozen; obtain ⟨h0, h1, h2, h3⟩ := hh3.cells; obtain ⟨z0, z1, z2, z3, z4, z5, z6⟩ := hz3.cells; obtain ⟨f0, f1, f2, f3, f4, f5, f6⟩ := hz3.frozen; replace hx3 : Hid _ := hx3; replace hh3 : Hid _ := hh3; replace hz3 : Hid (IAt w3 (w.heap.size + 3) zI) := hz3; replace hB3 : Hid (Below w.heap.size w w3) := hB3))
          exact end_set2 (v := ⟨3, since, fr, quiet, now, k, n⟩) Try.results18 rfl (by omega) hB3.out hz3.out
    · clear hq
      replace hY : y = comeI ⟨3, since, fr, quiet, now, k, n⟩ 1 now := by rw [hY]; simp [calmI, hkp]
      have hC : Hid (∀ W, Calls Try.prog 29 #[.agg #[.int .i64 3, .int .i64 since, .int .i64 fr, .int .i64 quiet, .int .i64 now, .int .i64 k, .int .i64 n], .int .i64 1, .int .i64 now] W fun e w' => e = .returned (.agg #[.int .i64 y.st, .int .i64 y.since, .int .i64 y.fr, .int .i64 y.quiet, .int .i64 y.seen, .int .i64 y.vk, .int .i64 y.vn]) ∧ Below W.heap.size W w') := fun W => by
        have := rto29 ⟨3, since, fr, quiet, now, k, n⟩ now 1 W (by simp) (by simp) (by simp)
        rw [← hY] at this; exact this
      clear hY
      unfold encI encH encV
      simp only
      obtain ⟨hx, hh, hz, hb0⟩ := boxedR w ⟨3, since, fr, quiet, now, k, n⟩ ⟨fo, keep, nd, oe⟩ (.cells #[.int .i64 k, .int .i64 n] 23)
      replace hx : Hid (IAt (((((w.alloc (.cells #[.int .i64 3, .int .i64 since, .int .i64 fr, .int .i64 quiet, .int .i64 now, .int .i64 k, .int .i64 n] 25)).alloc (.cells #[.int .i64 fo, .int .i64 keep, .int .i64 nd, .int .i64 oe] 27)).alloc (.cells #[.int .i64 k, .int .i64 n] 23)).alloc (.cells #[.int .i64 0, .int .i64 0, .int .i64 0, .int .i64 0, .int .i64 0, .int .i64 0, .int .i64 0] 25))) w.heap.size ⟨3, since, fr, quiet, now, k, n⟩) := hx
      replace hh : Hid (HAt (((((w.alloc (.cells #[.int .i64 3, .int .i64 since, .int .i64 fr, .int .i64 quiet, .int .i64 now, .int .i64 k, .int .i64 n] 25)).alloc (.cells #[.int .i64 fo, .int .i64 keep, .int .i64 nd, .int .i64 oe] 27)).alloc (.cells #[.int .i64 k, .int .i64 n] 23)).alloc (.cells #[.int .i64 0, .int .i64 0, .int .i64 0, .int .i64 0, .int .i64 0, .int .i64 0, .int .i64 0] 25))) (w.heap.size + 1) ⟨fo, keep, nd, oe⟩) := hh
      replace hz : Hid (IAt (((((w.alloc (.cells #[.int .i64 3, .int .i64 since, .int .i64 fr, .int .i64 quiet, .int .i64 now, .int .i64 k, .int .i64 n] 25)).alloc (.cells #[.int .i64 fo, .int .i64 keep, .int .i64 nd, .int .i64 oe] 27)).alloc (.cells #[.int .i64 k, .int .i64 n] 23)).alloc (.cells #[.int .i64 0, .int .i64 0, .int .i64 0, .int .i64 0, .int .i64 0, .int .i64 0, .int .i64 0] 25))) (w.heap.size + 3) zI) := hz
      replace hb0 : Hid (Below w.heap.size w (((((w.alloc (.cells #[.int .i64 3, .int .i64 since, .int .i64 fr, .int .i64 quiet, .int .i64 now, .int .i64 k, .int .i64 n] 25)).alloc (.cells #[.int .i64 fo, .int .i64 keep, .int .i64 nd, .int .i64 oe] 27)).alloc (.cells #[.int .i64 k, .int .i64 n] 23)).alloc (.cells #[.int .i64 0, .int .i64 0, .int .i64 0, .int .i64 0, .int .i64 0, .int .i64 0, .int .i64 0] 25)))) := hb0
      go_enter Try.func18, Try.ntmps18
      go_wp2_with (first | (go_at_call 16; refine (hmeans.out _).mono ?_; rintro e w3 ⟨rfl, hb3⟩; have hx3 := hx.out.grow hb3; have hh3 := hh.out.grow hb3; have hz3 := hz.out.grow hb3; have hB3 := hb0.out.trans (hb3.mono hb0.out.size); clear hx hh hz hb0 hb3; obtain ⟨p0, p1, p2, p3, p4, p5, p6⟩ := hx3.cells; obtain ⟨g0, g1, g2, g3, g4, g5, g6⟩ := hx3.frozen; obtain ⟨h0, h1, h2, h3⟩ := hh3.cells; obtain ⟨z0, z1, z2, z3, z4, z5, z6⟩ := hz3.cells; obtain ⟨f0, f1, f2, f3, f4, f5, f6⟩ := hz3.frozen; replace hx3 : Hid _ := hx3; replace hh3 : Hid _ := hh3; replace hz3 : Hid (IAt w3 (w.heap.size + 3) zI) := hz3; replace hB3 : Hid (Below w.heap.size w w3) := hB3) | (go_at_call 29; refine (hC.out _).mono ?_; rintro e w4 ⟨rfl, hb4⟩; have hz4 : IAt w4 (w.heap.size + 3) zI := IAt.grow (by first | exact hz3.out | exact hz3.out.other (by omega) | exact (hz3.out.other (by omega)).other (by omega)) hb4; have hB4 : Below w.heap.size w w4 := Below.trans (by first | exact hB3.out | exact hB3.out.setCell (Nat.le_refl _) _) (hb4.mono (by first | exact hB3.out.size | (have := hB3.out.size; simpa using this))); clear hb4; obtain ⟨z0, z1, z2, z3, z4, z5, z6⟩ := hz4.cells; obtain ⟨f0, f1, f2, f3, f4, f5, f6⟩ := hz4.frozen; replace hz4 : Hid (IAt w4 (w.heap.size + 3) zI) := hz4; replace hB4 : Hid (Below w.heap.size w w4) := hB4))
      exact end_set2 (v := y) Try.results18 rfl (by omega) hB4.out hz4.out
  · have h3b : (st == 3) = false := by simpa using h3
    clear hq
    replace hY : y = comeI ⟨st, since, fr, quiet, now, k, n⟩ 1 now := by rw [hY]; simp [calmI, h3]
    have hC : Hid (∀ W, Calls Try.prog 29 #[.agg #[.int .i64 st, .int .i64 since, .int .i64 fr, .int .i64 quiet, .int .i64 now, .int .i64 k, .int .i64 n], .int .i64 1, .int .i64 now] W fun e w' => e = .returned (.agg #[.int .i64 y.st, .int .i64 y.since, .int .i64 y.fr, .int .i64 y.quiet, .int .i64 y.seen, .int .i64 y.vk, .int .i64 y.vn]) ∧ Below W.heap.size W w') := fun W => by
      have := rto29 ⟨st, since, fr, quiet, now, k, n⟩ now 1 W (by simp) (by simp) (by simp)
      rw [← hY] at this; exact this
    clear hY
    unfold encI encH encV
    simp only
    obtain ⟨hx, hh, hz, hb0⟩ := boxedR w ⟨st, since, fr, quiet, now, k, n⟩ ⟨fo, keep, nd, oe⟩ (.cells #[.int .i64 k, .int .i64 n] 23)
    replace hx : Hid (IAt (((((w.alloc (.cells #[.int .i64 st, .int .i64 since, .int .i64 fr, .int .i64 quiet, .int .i64 now, .int .i64 k, .int .i64 n] 25)).alloc (.cells #[.int .i64 fo, .int .i64 keep, .int .i64 nd, .int .i64 oe] 27)).alloc (.cells #[.int .i64 k, .int .i64 n] 23)).alloc (.cells #[.int .i64 0, .int .i64 0, .int .i64 0, .int .i64 0, .int .i64 0, .int .i64 0, .int .i64 0] 25))) w.heap.size ⟨st, since, fr, quiet, now, k, n⟩) := hx
    replace hh : Hid (HAt (((((w.alloc (.cells #[.int .i64 st, .int .i64 since, .int .i64 fr, .int .i64 quiet, .int .i64 now, .int .i64 k, .int .i64 n] 25)).alloc (.cells #[.int .i64 fo, .int .i64 keep, .int .i64 nd, .int .i64 oe] 27)).alloc (.cells #[.int .i64 k, .int .i64 n] 23)).alloc (.cells #[.int .i64 0, .int .i64 0, .int .i64 0, .int .i64 0, .int .i64 0, .int .i64 0, .int .i64 0] 25))) (w.heap.size + 1) ⟨fo, keep, nd, oe⟩) := hh
    replace hz : Hid (IAt (((((w.alloc (.cells #[.int .i64 st, .int .i64 since, .int .i64 fr, .int .i64 quiet, .int .i64 now, .int .i64 k, .int .i64 n] 25)).alloc (.cells #[.int .i64 fo, .int .i64 keep, .int .i64 nd, .int .i64 oe] 27)).alloc (.cells #[.int .i64 k, .int .i64 n] 23)).alloc (.cells #[.int .i64 0, .int .i64 0, .int .i64 0, .int .i64 0, .int .i64 0, .int .i64 0, .int .i64 0] 25))) (w.heap.size + 3) zI) := hz
    replace hb0 : Hid (Below w.heap.size w (((((w.alloc (.cells #[.int .i64 st, .int .i64 since, .int .i64 fr, .int .i64 quiet, .int .i64 now, .int .i64 k, .int .i64 n] 25)).alloc (.cells #[.int .i64 fo, .int .i64 keep, .int .i64 nd, .int .i64 oe] 27)).alloc (.cells #[.int .i64 k, .int .i64 n] 23)).alloc (.cells #[.int .i64 0, .int .i64 0, .int .i64 0, .int .i64 0, .int .i64 0, .int .i64 0, .int .i64 0] 25)))) := hb0
    go_enter Try.func18, Try.ntmps18
    go_wp2_with (first | (go_at_call 16; refine (hmeans.out _).mono ?_; rintro e w3 ⟨rfl, hb3⟩; have hx3 := hx.out.grow hb3; have hh3 := hh.out.grow hb3; have hz3 := hz.out.grow hb3; have hB3 := hb0.out.trans (hb3.mono hb0.out.size); clear hx hh hz hb0 hb3; obtain ⟨p0, p1, p2, p3, p4, p5, p6⟩ := hx3.cells; obtain ⟨g0, g1, g2, g3, g4, g5, g6⟩ := hx3.frozen; obtain ⟨h0, h1, h2, h3⟩ := hh3.cells; obtain ⟨z0, z1, z2, z3, z4, z5, z6⟩ := hz3.cells; obtain ⟨f0, f1, f2, f3, f4, f5, f6⟩ := hz3.frozen; replace hx3 : Hid _ := hx3; replace hh3 : Hid _ := hh3; replace hz3 : Hid (IAt w3 (w.heap.size + 3) zI) := hz3; replace hB3 : Hid (Below w.heap.size w w3) := hB3) | (go_at_call 29; refine (hC.out _).mono ?_; rintro e w4 ⟨rfl, hb4⟩; have hz4 : IAt w4 (w.heap.size + 3) zI := IAt.grow (by first | exact hz3.out | exact hz3.out.other (by omega) | exact (hz3.out.other (by omega)).other (by omega)) hb4; have hB4 : Below w.heap.size w w4 := Below.trans (by first | exact hB3.out | exact hB3.out.setCell (Nat.le_refl _) _) (hb4.mono (by first | exact hB3.out.size | (have := hB3.out.size; simpa using this))); clear hb4; obtain ⟨z0, z1, z2, z3, z4, z5, z6⟩ := hz4.cells; obtain ⟨f0, f1, f2, f3, f4, f5, f6⟩ := hz4.frozen; replace hz4 : Hid (IAt w4 (w.heap.size + 3) zI) := hz4; replace hB4 : Hid (Below w.heap.size w w4) := hB4))
    exact end_set2 (v := y) Try.results18 rfl (by omega) hB4.out hz4.out
set_option maxRecDepth 100000 in
set_option maxHeartbeats 4000000 in
theorem rstep_2 (st since fr quiet seen vk vn fo keep nd oe r k n now : Int) (w : World) (hm : meansI ⟨fo, keep, nd, oe⟩ r = 2) (hf : st = 2 → -9223372036854775808 ≤ now - fr ∧ now - fr ≤ 9223372036854775807) (hq : quiet ≠ -1 → -9223372036854775808 ≤ now - quiet ∧ now - quiet ≤ 9223372036854775807) (hk : st ≠ 3 → quiet = -1) :
    Calls Try.prog 18 #[encI ⟨st, since, fr, quiet, seen, vk, vn⟩, encH ⟨fo, keep, nd, oe⟩, .int .i64 r, encV k n, .int .i64 now] w fun e w' => e = .returned (encI (stepI ⟨st, since, fr, quiet, seen, vk, vn⟩ ⟨fo, keep, nd, oe⟩ r k n now)) ∧ Below w.heap.size w w' := by
  obtain ⟨y, hY⟩ : ∃ y, y = stepI ⟨st, since, fr, quiet, seen, vk, vn⟩ ⟨fo, keep, nd, oe⟩ r k n now := ⟨_, rfl⟩
  rw [← hY]
  replace hY : y = alertI ⟨st, since, fr, quiet, now, k, n⟩ ⟨fo, keep, nd, oe⟩ now := by rw [hY]; unfold stepI; rw [hm]; rfl
  have hmeans : Hid (∀ W, Calls Try.prog 16 #[.agg #[.int .i64 fo, .int .i64 keep, .int .i64 nd, .int .i64 oe], .int .i64 r] W fun e w' => e = .returned (.int .i64 2) ∧ Below W.heap.size W w') := fun W => by
    have := rmeans16 ⟨fo, keep, nd, oe⟩ r W
    rw [hm] at this; exact this
  clear hm
  clear hq
  by_cases h3 : st = 3
  · subst h3
    clear hf hk
    replace hY : y = ⟨3, since, fr, -1, now, k, n⟩ := by rw [hY]; simp [alertI]
    subst hY
    unfold encI encH encV
    simp only
    obtain ⟨hx, hh, hz, hb0⟩ := boxedR w ⟨3, since, fr, quiet, now, k, n⟩ ⟨fo, keep, nd, oe⟩ (.cells #[.int .i64 k, .int .i64 n] 23)
    replace hx : Hid (IAt (((((w.alloc (.cells #[.int .i64 3, .int .i64 since, .int .i64 fr, .int .i64 quiet, .int .i64 now, .int .i64 k, .int .i64 n] 25)).alloc (.cells #[.int .i64 fo, .int .i64 keep, .int .i64 nd, .int .i64 oe] 27)).alloc (.cells #[.int .i64 k, .int .i64 n] 23)).alloc (.cells #[.int .i64 0, .int .i64 0, .int .i64 0, .int .i64 0, .int .i64 0, .int .i64 0, .int .i64 0] 25))) w.heap.size ⟨3, since, fr, quiet, now, k, n⟩) := hx
    replace hh : Hid (HAt (((((w.alloc (.cells #[.int .i64 3, .int .i64 since, .int .i64 fr, .int .i64 quiet, .int .i64 now, .int .i64 k, .int .i64 n] 25)).alloc (.cells #[.int .i64 fo, .int .i64 keep, .int .i64 nd, .int .i64 oe] 27)).alloc (.cells #[.int .i64 k, .int .i64 n] 23)).alloc (.cells #[.int .i64 0, .int .i64 0, .int .i64 0, .int .i64 0, .int .i64 0, .int .i64 0, .int .i64 0] 25))) (w.heap.size + 1) ⟨fo, keep, nd, oe⟩) := hh
    replace hz : Hid (IAt (((((w.alloc (.cells #[.int .i64 3, .int .i64 since, .int .i64 fr, .int .i64 quiet, .int .i64 now, .int .i64 k, .int .i64 n] 25)).alloc (.cells #[.int .i64 fo, .int .i64 keep, .int .i64 nd, .int .i64 oe] 27)).alloc (.cells #[.int .i64 k, .int .i64 n] 23)).alloc (.cells #[.int .i64 0, .int .i64 0, .int .i64 0, .int .i64 0, .int .i64 0, .int .i64 0, .int .i64 0] 25))) (w.heap.size + 3) zI) := hz
    replace hb0 : Hid (Below w.heap.size w (((((w.alloc (.cells #[.int .i64 3, .int .i64 since, .int .i64 fr, .int .i64 quiet, .int .i64 now, .int .i64 k, .int .i64 n] 25)).alloc (.cells #[.int .i64 fo, .int .i64 keep, .int .i64 nd, .int .i64 oe] 27)).alloc (.cells #[.int .i64 k, .int .i64 n] 23)).alloc (.cells #[.int .i64 0, .int .i64 0, .int .i64 0, .int .i64 0, .int .i64 0, .int .i64 0, .int .i64 0] 25)))) := hb0
    go_enter Try.func18, Try.ntmps18
    go_wp2_with (first | (go_at_call 16; refine (hmeans.out _).mono ?_; rintro e w3 ⟨rfl, hb3⟩; have hx3 := hx.out.grow hb3; have hh3 := hh.out.grow hb3; have hz3 := hz.out.grow hb3; have hB3 := hb0.out.trans (hb3.mono hb0.out.size); clear hx hh hz hb0 hb3; obtain ⟨p0, p1, p2, p3, p4, p5, p6⟩ := hx3.cells; obtain ⟨g0, g1, g2, g3, g4, g5, g6⟩ := hx3.frozen; obtain ⟨h0, h1, h2, h3⟩ := hh3.cells; obtain ⟨z0, z1, z2, z3, z4, z5, z6⟩ := hz3.cells; obtain ⟨f0, f1, f2, f3, f4, f5, f6⟩ := hz3.frozen; replace hx3 : Hid _ := hx3; replace hh3 : Hid _ := hh3; replace hz3 : Hid (IAt w3 (w.heap.size + 3) zI) := hz3; replace hB3 : Hid (Below w.heap.size w w3) := hB3))
    exact end_set2 (v := ⟨3, since, fr, -1, now, k, n⟩) Try.results18 rfl (by omega) (hB3.out.setCell (Nat.le_refl _) _) (hz3.out.other (by omega))
  · obtain rfl : quiet = -1 := hk h3
    clear hk
    have h3b : (st == 3) = false := by simpa using h3
    by_cases h2 : st = 2
    · subst h2
      have hf2 := hf rfl
      clear hf
      by_cases hle : fo ≤ now - fr
      · replace hY : y = comeI ⟨2, since, fr, -1, now, k, n⟩ 3 now := by rw [hY]; simp [alertI, begI, hle]
        have hC : Hid (∀ W, Calls Try.prog 29 #[.agg #[.int .i64 2, .int .i64 since, .int .i64 fr, .int .i64 (-1), .int .i64 now, .int .i64 k, .int .i64 n], .int .i64 3, .int .i64 now] W fun e w' => e = .returned (.agg #[.int .i64 y.st, .int .i64 y.since, .int .i64 y.fr, .int .i64 y.quiet, .int .i64 y.seen, .int .i64 y.vk, .int .i64 y.vn]) ∧ Below W.heap.size W w') := fun W => by
          have := rto29 ⟨2, since, fr, (-1), now, k, n⟩ now 3 W (by simp) (by simp) (fun _ => rfl)
          rw [← hY] at this; exact this
        clear hY
        unfold encI encH encV
        simp only
        obtain ⟨hx, hh, hz, hb0⟩ := boxedR w ⟨2, since, fr, (-1), now, k, n⟩ ⟨fo, keep, nd, oe⟩ (.cells #[.int .i64 k, .int .i64 n] 23)
        replace hx : Hid (IAt (((((w.alloc (.cells #[.int .i64 2, .int .i64 since, .int .i64 fr, .int .i64 (-1), .int .i64 now, .int .i64 k, .int .i64 n] 25)).alloc (.cells #[.int .i64 fo, .int .i64 keep, .int .i64 nd, .int .i64 oe] 27)).alloc (.cells #[.int .i64 k, .int .i64 n] 23)).alloc (.cells #[.int .i64 0, .int .i64 0, .int .i64 0, .int .i64 0, .int .i64 0, .int .i64 0, .int .i64 0] 25))) w.heap.size ⟨2, since, fr, (-1), now, k, n⟩) := hx
        replace hh : Hid (HAt (((((w.alloc (.cells #[.int .i64 2, .int .i64 since, .int .i64 fr, .int .i64 (-1), .int .i64 now, .int .i64 k, .int .i64 n] 25)).alloc (.cells #[.int .i64 fo, .int .i64 keep, .int .i64 nd, .int .i64 oe] 27)).alloc (.cells #[.int .i64 k, .int .i64 n] 23)).alloc (.cells #[.int .i64 0, .int .i64 0, .int .i64 0, .int .i64 0, .int .i64 0, .int .i64 0, .int .i64 0] 25))) (w.heap.size + 1) ⟨fo, keep, nd, oe⟩) := hh
        replace hz : Hid (IAt (((((w.alloc (.cells #[.int .i64 2, .int .i64 since, .int .i64 fr, .int .i64 (-1), .int .i64 now, .int .i64 k, .int .i64 n] 25)).alloc (.cells #[.int .i64 fo, .int .i64 keep, .int .i64 nd, .int .i64 oe] 27)).alloc (.cells #[.int .i64 k, .int .i64 n] 23)).alloc (.cells #[.int .i64 0, .int .i64 0, .int .i64 0, .int .i64 0, .int .i64 0, .int .i64 0, .int .i64 0] 25))) (w.heap.size + 3) zI) := hz
        replace hb0 : Hid (Below w.heap.size w (((((w.alloc (.cells #[.int .i64 2, .int .i64 since, .int .i64 fr, .int .i64 (-1), .int .i64 now, .int .i64 k, .int .i64 n] 25)).alloc (.cells #[.int .i64 fo, .int .i64 keep, .int .i64 nd, .int .i64 oe] 27)).alloc (.cells #[.int .i64 k, .int .i64 n] 23)).alloc (.cells #[.int .i64 0, .int .i64 0, .int .i64 0, .int .i64 0, .int .i64 0, .int .i64 0, .int .i64 0] 25)))) := hb0
        go_enter Try.func18, Try.ntmps18
        go_wp2_with (first | (go_at_call 16; refine (hmeans.out _).mono ?_; rintro e w3 ⟨rfl, hb3⟩; have hx3 := hx.out.grow hb3; have hh3 := hh.out.grow hb3; have hz3 := hz.out.grow hb3; have hB3 := hb0.out.trans (hb3.mono hb0.out.size); clear hx hh hz hb0 hb3; obtain ⟨p0, p1, p2, p3, p4, p5, p6⟩ := hx3.cells; obtain ⟨g0, g1, g2, g3, g4, g5, g6⟩ := hx3.frozen; obtain ⟨h0, h1, h2, h3⟩ := hh3.cells; obtain ⟨z0, z1, z2, z3, z4, z5, z6⟩ := hz3.cells; obtain ⟨f0, f1, f2, f3, f4, f5, f6⟩ := hz3.frozen; replace hx3 : Hid _ := hx3; replace hh3 : Hid _ := hh3; replace hz3 : Hid (IAt w3 (w.heap.size + 3) zI) := hz3; replace hB3 : Hid (Below w.heap.size w w3) := hB3) | (go_at_call 29; refine (hC.out _).mono ?_; rintro e w4 ⟨rfl, hb4⟩; have hz4 : IAt w4 (w.heap.size + 3) zI := IAt.grow (by first | exact hz3.out | exact hz3.out.other (by omega) | exact (hz3.out.other (by omega)).other (by omega)) hb4; have hB4 : Below w.heap.size w w4 := Below.trans (by first | exact hB3.out | exact hB3.out.setCell (Nat.le_refl _) _) (hb4.mono (by first | exact hB3.out.size | (have := hB3.out.size; simpa using this))); clear hb4; obtain ⟨z0, z1, z2, z3, z4, z5, z6⟩ := hz4.cells; obtain ⟨f0, f1, f2, f3, f4, f5, f6⟩ := hz4.frozen; replace hz4 : Hid (IAt w4 (w.heap.size + 3) zI) := hz4; replace hB4 : Hid (Below w.heap.size w w4) := hB4))
        exact end_set2 (v := y) Try.results18 rfl (by omega) hB4.out hz4.out
      · replace hY : y = comeI ⟨2, since, fr, -1, now, k, n⟩ 2 now := by rw [hY]; simp [alertI, begI, hle]
        have hC : Hid (∀ W, Calls Try.prog 29 #[.agg #[.int .i64 2, .int .i64 since, .int .i64 fr, .int .i64 (-1), .int .i64 now, .int .i64 k, .int .i64 n], .int .i64 2, .int .i64 now] W fun e w' => e = .returned (.agg #[.int .i64 y.st, .int .i64 y.since, .int .i64 y.fr, .int .i64 y.quiet, .int .i64 y.seen, .int .i64 y.vk, .int .i64 y.vn]) ∧ Below W.heap.size W w') := fun W => by
          have := rto29 ⟨2, since, fr, (-1), now, k, n⟩ now 2 W (by simp) (by simp) (fun _ => rfl)
          rw [← hY] at this; exact this
        clear hY
        unfold encI encH encV
        simp only
        obtain ⟨hx, hh, hz, hb0⟩ := boxedR w ⟨2, since, fr, (-1), now, k, n⟩ ⟨fo, keep, nd, oe⟩ (.cells #[.int .i64 k, .int .i64 n] 23)
        replace hx : Hid (IAt (((((w.alloc (.cells #[.int .i64 2, .int .i64 since, .int .i64 fr, .int .i64 (-1), .int .i64 now, .int .i64 k, .int .i64 n] 25)).alloc (.cells #[.int .i64 fo, .int .i64 keep, .int .i64 nd, .int .i64 oe] 27)).alloc (.cells #[.int .i64 k, .int .i64 n] 23)).alloc (.cells #[.int .i64 0, .int .i64 0, .int .i64 0, .int .i64 0, .int .i64 0, .int .i64 0, .int .i64 0] 25))) w.heap.size ⟨2, since, fr, (-1), now, k, n⟩) := hx
        replace hh : Hid (HAt (((((w.alloc (.cells #[.int .i64 2, .int .i64 since, .int .i64 fr, .int .i64 (-1), .int .i64 now, .int .i64 k, .int .i64 n] 25)).alloc (.cells #[.int .i64 fo, .int .i64 keep, .int .i64 nd, .int .i64 oe] 27)).alloc (.cells #[.int .i64 k, .int .i64 n] 23)).alloc (.cells #[.int .i64 0, .int .i64 0, .int .i64 0, .int .i64 0, .int .i64 0, .int .i64 0, .int .i64 0] 25))) (w.heap.size + 1) ⟨fo, keep, nd, oe⟩) := hh
        replace hz : Hid (IAt (((((w.alloc (.cells #[.int .i64 2, .int .i64 since, .int .i64 fr, .int .i64 (-1), .int .i64 now, .int .i64 k, .int .i64 n] 25)).alloc (.cells #[.int .i64 fo, .int .i64 keep, .int .i64 nd, .int .i64 oe] 27)).alloc (.cells #[.int .i64 k, .int .i64 n] 23)).alloc (.cells #[.int .i64 0, .int .i64 0, .int .i64 0, .int .i64 0, .int .i64 0, .int .i64 0, .int .i64 0] 25))) (w.heap.size + 3) zI) := hz
        replace hb0 : Hid (Below w.heap.size w (((((w.alloc (.cells #[.int .i64 2, .int .i64 since, .int .i64 fr, .int .i64 (-1), .int .i64 now, .int .i64 k, .int .i64 n] 25)).alloc (.cells #[.int .i64 fo, .int .i64 keep, .int .i64 nd, .int .i64 oe] 27)).alloc (.cells #[.int .i64 k, .int .i64 n] 23)).alloc (.cells #[.int .i64 0, .int .i64 0, .int .i64 0, .int .i64 0, .int .i64 0, .int .i64 0, .int .i64 0] 25)))) := hb0
        go_enter Try.func18, Try.ntmps18
        go_wp2_with (first | (go_at_call 16; refine (hmeans.out _).mono ?_; rintro e w3 ⟨rfl, hb3⟩; have hx3 := hx.out.grow hb3; have hh3 := hh.out.grow hb3; have hz3 := hz.out.grow hb3; have hB3 := hb0.out.trans (hb3.mono hb0.out.size); clear hx hh hz hb0 hb3; obtain ⟨p0, p1, p2, p3, p4, p5, p6⟩ := hx3.cells; obtain ⟨g0, g1, g2, g3, g4, g5, g6⟩ := hx3.frozen; obtain ⟨h0, h1, h2, h3⟩ := hh3.cells; obtain ⟨z0, z1, z2, z3, z4, z5, z6⟩ := hz3.cells; obtain ⟨f0, f1, f2, f3, f4, f5, f6⟩ := hz3.frozen; replace hx3 : Hid _ := hx3; replace hh3 : Hid _ := hh3; replace hz3 : Hid (IAt w3 (w.heap.size + 3) zI) := hz3; replace hB3 : Hid (Below w.heap.size w w3) := hB3) | (go_at_call 29; refine (hC.out _).mono ?_; rintro e w4 ⟨rfl, hb4⟩; have hz4 : IAt w4 (w.heap.size + 3) zI := IAt.grow (by first | exact hz3.out | exact hz3.out.other (by omega) | exact (hz3.out.other (by omega)).other (by omega)) hb4; have hB4 : Below w.heap.size w w4 := Below.trans (by first | exact hB3.out | exact hB3.out.setCell (Nat.le_refl _) _) (hb4.mono (by first | exact hB3.out.size | (have := hB3.out.size; simpa using this))); clear hb4; obtain ⟨z0, z1, z2, z3, z4, z5, z6⟩ := hz4.cells; obtain ⟨f0, f1, f2, f3, f4, f5, f6⟩ := hz4.frozen; replace hz4 : Hid (IAt w4 (w.heap.size + 3) zI) := hz4; replace hB4 : Hid (Below w.heap.size w w4) := hB4))
        exact end_set2 (v := y) Try.results18 rfl (by omega) hB4.out hz4.out
    · have h2c : (st != 2) = true := by simpa using h2
      clear hf
      have hz0 : now - now = 0 := by omega
      by_cases hle : fo ≤ 0
      · replace hY : y = comeI ⟨st, since, now, -1, now, k, n⟩ 3 now := by rw [hY]; simp [alertI, begI, hle, h2, h3]
        have hC : Hid (∀ W, Calls Try.prog 29 #[.agg #[.int .i64 st, .int .i64 since, .int .i64 now, .int .i64 (-1), .int .i64 now, .int .i64 k, .int .i64 n], .int .i64 3, .int .i64 now] W fun e w' => e = .returned (.agg #[.int .i64 y.st, .int .i64 y.since, .int .i64 y.fr, .int .i64 y.quiet, .int .i64 y.seen, .int .i64 y.vk, .int .i64 y.vn]) ∧ Below W.heap.size W w') := fun W => by
          have := rto29 ⟨st, since, now, (-1), now, k, n⟩ now 3 W (by simp) (fun h => h3 h.2) (fun _ => rfl)
          rw [← hY] at this; exact this
        clear hY
        unfold encI encH encV
        simp only
        obtain ⟨hx, hh, hz, hb0⟩ := boxedR w ⟨st, since, fr, (-1), now, k, n⟩ ⟨fo, keep, nd, oe⟩ (.cells #[.int .i64 k, .int .i64 n] 23)
        replace hx : Hid (IAt (((((w.alloc (.cells #[.int .i64 st, .int .i64 since, .int .i64 fr, .int .i64 (-1), .int .i64 now, .int .i64 k, .int .i64 n] 25)).alloc (.cells #[.int .i64 fo, .int .i64 keep, .int .i64 nd, .int .i64 oe] 27)).alloc (.cells #[.int .i64 k, .int .i64 n] 23)).alloc (.cells #[.int .i64 0, .int .i64 0, .int .i64 0, .int .i64 0, .int .i64 0, .int .i64 0, .int .i64 0] 25))) w.heap.size ⟨st, since, fr, (-1), now, k, n⟩) := hx
        replace hh : Hid (HAt (((((w.alloc (.cells #[.int .i64 st, .int .i64 since, .int .i64 fr, .int .i64 (-1), .int .i64 now, .int .i64 k, .int .i64 n] 25)).alloc (.cells #[.int .i64 fo, .int .i64 keep, .int .i64 nd, .int .i64 oe] 27)).alloc (.cells #[.int .i64 k, .int .i64 n] 23)).alloc (.cells #[.int .i64 0, .int .i64 0, .int .i64 0, .int .i64 0, .int .i64 0, .int .i64 0, .int .i64 0] 25))) (w.heap.size + 1) ⟨fo, keep, nd, oe⟩) := hh
        replace hz : Hid (IAt (((((w.alloc (.cells #[.int .i64 st, .int .i64 since, .int .i64 fr, .int .i64 (-1), .int .i64 now, .int .i64 k, .int .i64 n] 25)).alloc (.cells #[.int .i64 fo, .int .i64 keep, .int .i64 nd, .int .i64 oe] 27)).alloc (.cells #[.int .i64 k, .int .i64 n] 23)).alloc (.cells #[.int .i64 0, .int .i64 0, .int .i64 0, .int .i64 0, .int .i64 0, .int .i64 0, .int .i64 0] 25))) (w.heap.size + 3) zI) := hz
        replace hb0 : Hid (Below w.heap.size w (((((w.alloc (.cells #[.int .i64 st, .int .i64 since, .int .i64 fr, .int .i64 (-1), .int .i64 now, .int .i64 k, .int .i64 n] 25)).alloc (.cells #[.int .i64 fo, .int .i64 keep, .int .i64 nd, .int .i64 oe] 27)).alloc (.cells #[.int .i64 k, .int .i64 n] 23)).alloc (.cells #[.int .i64 0, .int .i64 0, .int .i64 0, .int .i64 0, .int .i64 0, .int .i64 0, .int .i64 0] 25)))) := hb0
        go_enter Try.func18, Try.ntmps18
        go_wp2_with (first | (go_at_call 16; refine (hmeans.out _).mono ?_; rintro e w3 ⟨rfl, hb3⟩; have hx3 := hx.out.grow hb3; have hh3 := hh.out.grow hb3; have hz3 := hz.out.grow hb3; have hB3 := hb0.out.trans (hb3.mono hb0.out.size); clear hx hh hz hb0 hb3; obtain ⟨p0, p1, p2, p3, p4, p5, p6⟩ := hx3.cells; obtain ⟨g0, g1, g2, g3, g4, g5, g6⟩ := hx3.frozen; obtain ⟨h0, h1, h2, h3⟩ := hh3.cells; obtain ⟨z0, z1, z2, z3, z4, z5, z6⟩ := hz3.cells; obtain ⟨f0, f1, f2, f3, f4, f5, f6⟩ := hz3.frozen; replace hx3 : Hid _ := hx3; replace hh3 : Hid _ := hh3; replace hz3 : Hid (IAt w3 (w.heap.size + 3) zI) := hz3; replace hB3 : Hid (Below w.heap.size w w3) := hB3) | (go_at_call 29; refine (hC.out _).mono ?_; rintro e w4 ⟨rfl, hb4⟩; have hz4 : IAt w4 (w.heap.size + 3) zI := IAt.grow (by first | exact hz3.out | exact hz3.out.other (by omega) | exact (hz3.out.other (by omega)).other (by omega)) hb4; have hB4 : Below w.heap.size w w4 := Below.trans (by first | exact hB3.out | exact hB3.out.setCell (Nat.le_refl _) _) (hb4.mono (by first | exact hB3.out.size | (have := hB3.out.size; simpa using this))); clear hb4; obtain ⟨z0, z1, z2, z3, z4, z5, z6⟩ := hz4.cells; obtain ⟨f0, f1, f2, f3, f4, f5, f6⟩ := hz4.frozen; replace hz4 : Hid (IAt w4 (w.heap.size + 3) zI) := hz4; replace hB4 : Hid (Below w.heap.size w w4) := hB4))
        exact end_set2 (v := y) Try.results18 rfl (by omega) hB4.out hz4.out
      · replace hY : y = comeI ⟨st, since, now, -1, now, k, n⟩ 2 now := by rw [hY]; simp [alertI, begI, hle, h2, h3]
        have hC : Hid (∀ W, Calls Try.prog 29 #[.agg #[.int .i64 st, .int .i64 since, .int .i64 now, .int .i64 (-1), .int .i64 now, .int .i64 k, .int .i64 n], .int .i64 2, .int .i64 now] W fun e w' => e = .returned (.agg #[.int .i64 y.st, .int .i64 y.since, .int .i64 y.fr, .int .i64 y.quiet, .int .i64 y.seen, .int .i64 y.vk, .int .i64 y.vn]) ∧ Below W.heap.size W w') := fun W => by
          have := rto29 ⟨st, since, now, (-1), now, k, n⟩ now 2 W (by simp) (fun h => h3 h.2) (fun _ => rfl)
          rw [← hY] at this; exact this
        clear hY
        unfold encI encH encV
        simp only
        obtain ⟨hx, hh, hz, hb0⟩ := boxedR w ⟨st, since, fr, (-1), now, k, n⟩ ⟨fo, keep, nd, oe⟩ (.cells #[.int .i64 k, .int .i64 n] 23)
        replace hx : Hid (IAt (((((w.alloc (.cells #[.int .i64 st, .int .i64 since, .int .i64 fr, .int .i64 (-1), .int .i64 now, .int .i64 k, .int .i64 n] 25)).alloc (.cells #[.int .i64 fo, .int .i64 keep, .int .i64 nd, .int .i64 oe] 27)).alloc (.cells #[.int .i64 k, .int .i64 n] 23)).alloc (.cells #[.int .i64 0, .int .i64 0, .int .i64 0, .int .i64 0, .int .i64 0, .int .i64 0, .int .i64 0] 25))) w.heap.size ⟨st, since, fr, (-1), now, k, n⟩) := hx
        replace hh : Hid (HAt (((((w.alloc (.cells #[.int .i64 st, .int .i64 since, .int .i64 fr, .int .i64 (-1), .int .i64 now, .int .i64 k, .int .i64 n] 25)).alloc (.cells #[.int .i64 fo, .int .i64 keep, .int .i64 nd, .int .i64 oe] 27)).alloc (.cells #[.int .i64 k, .int .i64 n] 23)).alloc (.cells #[.int .i64 0, .int .i64 0, .int .i64 0, .int .i64 0, .int .i64 0, .int .i64 0, .int .i64 0] 25))) (w.heap.size + 1) ⟨fo, keep, nd, oe⟩) := hh
        replace hz : Hid (IAt (((((w.alloc (.cells #[.int .i64 st, .int .i64 since, .int .i64 fr, .int .i64 (-1), .int .i64 now, .int .i64 k, .int .i64 n] 25)).alloc (.cells #[.int .i64 fo, .int .i64 keep, .int .i64 nd, .int .i64 oe] 27)).alloc (.cells #[.int .i64 k, .int .i64 n] 23)).alloc (.cells #[.int .i64 0, .int .i64 0, .int .i64 0, .int .i64 0, .int .i64 0, .int .i64 0, .int .i64 0] 25))) (w.heap.size + 3) zI) := hz
        replace hb0 : Hid (Below w.heap.size w (((((w.alloc (.cells #[.int .i64 st, .int .i64 since, .int .i64 fr, .int .i64 (-1), .int .i64 now, .int .i64 k, .int .i64 n] 25)).alloc (.cells #[.int .i64 fo, .int .i64 keep, .int .i64 nd, .int .i64 oe] 27)).alloc (.cells #[.int .i64 k, .int .i64 n] 23)).alloc (.cells #[.int .i64 0, .int .i64 0, .int .i64 0, .int .i64 0, .int .i64 0, .int .i64 0, .int .i64 0] 25)))) := hb0
        go_enter Try.func18, Try.ntmps18
        go_wp2_with (first | (go_at_call 16; refine (hmeans.out _).mono ?_; rintro e w3 ⟨rfl, hb3⟩; have hx3 := hx.out.grow hb3; have hh3 := hh.out.grow hb3; have hz3 := hz.out.grow hb3; have hB3 := hb0.out.trans (hb3.mono hb0.out.size); clear hx hh hz hb0 hb3; obtain ⟨p0, p1, p2, p3, p4, p5, p6⟩ := hx3.cells; obtain ⟨g0, g1, g2, g3, g4, g5, g6⟩ := hx3.frozen; obtain ⟨h0, h1, h2, h3⟩ := hh3.cells; obtain ⟨z0, z1, z2, z3, z4, z5, z6⟩ := hz3.cells; obtain ⟨f0, f1, f2, f3, f4, f5, f6⟩ := hz3.frozen; replace hx3 : Hid _ := hx3; replace hh3 : Hid _ := hh3; replace hz3 : Hid (IAt w3 (w.heap.size + 3) zI) := hz3; replace hB3 : Hid (Below w.heap.size w w3) := hB3) | (go_at_call 29; refine (hC.out _).mono ?_; rintro e w4 ⟨rfl, hb4⟩; have hz4 : IAt w4 (w.heap.size + 3) zI := IAt.grow (by first | exact hz3.out | exact hz3.out.other (by omega) | exact (hz3.out.other (by omega)).other (by omega)) hb4; have hB4 : Below w.heap.size w w4 := Below.trans (by first | exact hB3.out | exact hB3.out.setCell (Nat.le_refl _) _) (hb4.mono (by first | exact hB3.out.size | (have := hB3.out.size; simpa using this))); clear hb4; obtain ⟨z0, z1, z2, z3, z4, z5, z6⟩ := hz4.cells; obtain ⟨f0, f1, f2, f3, f4, f5, f6⟩ := hz4.frozen; replace hz4 : Hid (IAt w4 (w.heap.size + 3) zI) := hz4; replace hB4 : Hid (Below w.heap.size w w4) := hB4))
        exact end_set2 (v := y) Try.results18 rfl (by omega) hB4.out hz4.out
/-- The document's Step. -/
theorem rstep18 (x : Inst) (h : Hd) (r k n now : Int) (w : World) (hf : x.st = 2 → -9223372036854775808 ≤ now - x.fr ∧ now - x.fr ≤ 9223372036854775807) (hq : x.quiet ≠ -1 → -9223372036854775808 ≤ now - x.quiet ∧ now - x.quiet ≤ 9223372036854775807) (hk : Qk x) :
    Calls Try.prog 18 #[encI x, encH h, .int .i64 r, encV k n, .int .i64 now] w fun e w' => e = .returned (encI (stepI x h r k n now)) ∧ Below w.heap.size w w' := by
  obtain ⟨st, since, fr, quiet, seen, vk, vn⟩ := x
  obtain ⟨fo, keep, nd, oe⟩ := h
  rcases means_in ⟨fo, keep, nd, oe⟩ r with hm | hm | hm | hm | hm
  · exact rstep_0 st since fr quiet seen vk vn fo keep nd oe r k n now w hm hf hq hk
  · exact rstep_1 st since fr quiet seen vk vn fo keep nd oe r k n now w hm hf hq hk
  · exact rstep_2 st since fr quiet seen vk vn fo keep nd oe r k n now w hm hf hq hk
  · exact rstep_3 st since fr quiet seen vk vn fo keep nd oe r k n now w hm hf hq hk
  · exact rstep_4 st since fr quiet seen vk vn fo keep nd oe r k n now w hm hf hq hk
end Go.Proofs.Ytcfhpndoaiknhaa
