/- Step. -/
import Derived.Test.YtiajafljgfpdcaaGreatSMp
namespace Go.Proofs.YtiajafljgfpdcaaGreat.S
set_option linter.unusedVariables false
open Go.RowKit
theorem VAt.grow {w w' : World} {x : Nat} {k n : Int} (h : VAt w x k n) (hb : Below w.heap.size w w') : VAt w' x k n := by
  unfold VAt at h ⊢
  have hl : x < w.heap.size := (Array.getElem?_eq_some_iff.1 h).1
  rw [hb.block x hl]; exact h
theorem vNew2 (w : World) (o p : Obj) (k n : Int) : VAt (((w.alloc o).alloc p).alloc (vO k n)) (w.heap.size + 1 + 1) k n := by
  have := vNew ((w.alloc o).alloc p) (k := k) (n := n)
  simpa using this
theorem cV (w : World) (o p q : Obj) (k n : Int) : ((((w.alloc o).alloc p).alloc (vO k n)).alloc q).drew.cell? ⟨w.heap.size + 1 + 1, 0, none⟩ = some (.int .i64 k) ∧ ((((w.alloc o).alloc p).alloc (vO k n)).alloc q).drew.cell? ⟨w.heap.size + 1 + 1, 1, none⟩ = some (.int .i64 n) :=
  ((vNew2 w o p k n).grow ((bW0 _ q).drew)).cells
/-- Block x holds a rule's hold. -/
def HAt (w : World) (x : Nat) (h : Hd) : Prop := w.heap[x]? = some (.cells #[.int .i64 h.fo, .int .i64 h.keep, .int .i64 h.nd, .int .i64 h.oe] 23 (0, 0))
abbrev hO (h : Hd) : Obj := .cells #[.int .i64 h.fo, .int .i64 h.keep, .int .i64 h.nd, .int .i64 h.oe] 23
theorem HAt.cells {w : World} {x : Nat} {h : Hd} (g : HAt w x h) : w.cell? ⟨x, 0, none⟩ = some (.int .i64 h.fo) ∧ w.cell? ⟨x, 1, none⟩ = some (.int .i64 h.keep) ∧ w.cell? ⟨x, 2, none⟩ = some (.int .i64 h.nd) ∧ w.cell? ⟨x, 3, none⟩ = some (.int .i64 h.oe) := by
  unfold HAt at g
  simp [World.cell?, g]
theorem HAt.grow {w w' : World} {x : Nat} {h : Hd} (g : HAt w x h) (hb : Below w.heap.size w w') : HAt w' x h := by
  unfold HAt at g ⊢
  have hl : x < w.heap.size := (Array.getElem?_eq_some_iff.1 g).1
  rw [hb.block x hl]; exact g
theorem hNew (w : World) (h : Hd) : HAt (w.alloc (hO h)) w.heap.size h := by
  show (w.heap.push _)[w.heap.size]? = _
  simp
/-- The world of Step, when all is boxed. -/
theorem boxed (w : World) (x : Inst) (h : Hd) (o : Obj) : IAt ((((w.alloc (iO x)).alloc (hO h)).alloc o).alloc (iO zI)).drew w.heap.size x ∧ HAt ((((w.alloc (iO x)).alloc (hO h)).alloc o).alloc (iO zI)).drew (w.heap.size + 1) h ∧
    IAt ((((w.alloc (iO x)).alloc (hO h)).alloc o).alloc (iO zI)).drew (w.heap.size + 3) zI ∧ Below w.heap.size w ((((w.alloc (iO x)).alloc (hO h)).alloc o).alloc (iO zI)).drew := by
  have b1 : Below w.heap.size w (w.alloc (iO x)) := bW0 w _
  have b2 := bW0 (w.alloc (iO x)) (hO h)
  have b3 := bW0 ((w.alloc (iO x)).alloc (hO h)) o
  have b4 := bW0 (((w.alloc (iO x)).alloc (hO h)).alloc o) (iO zI)
  have b5 := (Below.refl ((((w.alloc (iO x)).alloc (hO h)).alloc o).alloc (iO zI)).heap.size ((((w.alloc (iO x)).alloc (hO h)).alloc o).alloc (iO zI))).drew
  refine ⟨((((iNew w x).grow b2).grow b3).grow b4).grow b5, ?_, ?_, ?_⟩
  · have := ((((hNew (w.alloc (iO x)) h).grow b3).grow b4).grow b5)
    rwa [World.size_alloc] at this
  · have := (iNew (((w.alloc (iO x)).alloc (hO h)).alloc o) zI).grow b5
    simpa using this
  · exact ((((b1.alloc (by simp) _).alloc (by simp; omega) _).alloc (by simp; omega) _)).drew
theorem MvAt.look_1 {w : World} {b : Nat} (h : MvAt w b) : (Instr.lookup 155 (.map (some b)) (.int .i64 1) true).run Tryz.prog w = .ok (.tuple #[.func (.func 117) #[] #[], .bool true]) w := h.look 1 (by decide) (by decide)
theorem MvAt.look_2 {w : World} {b : Nat} (h : MvAt w b) : (Instr.lookup 155 (.map (some b)) (.int .i64 2) true).run Tryz.prog w = .ok (.tuple #[.func (.func 118) #[] #[], .bool true]) w := h.look 2 (by decide) (by decide)
theorem MvAt.look_3 {w : World} {b : Nat} (h : MvAt w b) : (Instr.lookup 155 (.map (some b)) (.int .i64 3) true).run Tryz.prog w = .ok (.tuple #[.func (.func 119) #[] #[], .bool true]) w := h.look 3 (by decide) (by decide)
theorem MvAt.look_4 {w : World} {b : Nat} (h : MvAt w b) : (Instr.lookup 155 (.map (some b)) (.int .i64 4) true).run Tryz.prog w = .ok (.tuple #[.func (.func 120) #[] #[], .bool true]) w := h.look 4 (by decide) (by decide)
theorem MvAt.grow {w w' : World} {b : Nat} (h : MvAt w b) (hb : Below w.heap.size w w') : MvAt w' b := MapG.keep h (hb.block b (MapG.lt h))
set_option maxRecDepth 100000 in
set_option maxHeartbeats 4000000 in
theorem step_0 (st since fr quiet seen vk vn fo keep nd oe r k n now : Int) (w : World) (hm : meansI ⟨fo, keep, nd, oe⟩ r = 0) (hf : st = 2 → -9223372036854775808 ≤ now - fr ∧ now - fr ≤ 9223372036854775807) (hq : quiet ≠ -1 → -9223372036854775808 ≤ now - quiet ∧ now - quiet ≤ 9223372036854775807) :
    Calls Tryz.prog 67 #[encI ⟨st, since, fr, quiet, seen, vk, vn⟩, encH ⟨fo, keep, nd, oe⟩, .int .i64 r, encV k n, .int .i64 now] w fun e w' => e = .returned (encI (stepI ⟨st, since, fr, quiet, seen, vk, vn⟩ ⟨fo, keep, nd, oe⟩ r k n now)) ∧ Below w.heap.size w w' := by
  obtain ⟨y, hY⟩ : ∃ y, y = stepI ⟨st, since, fr, quiet, seen, vk, vn⟩ ⟨fo, keep, nd, oe⟩ r k n now := ⟨_, rfl⟩
  rw [← hY]
  replace hY : y = ⟨st, since, fr, quiet, now, k, n⟩ := by rw [hY]; unfold stepI; rw [hm]; rfl
  have hmeans : Hid (∀ W, Calls Tryz.prog 98 #[.agg #[.int .i64 fo, .int .i64 keep, .int .i64 nd, .int .i64 oe], .int .i64 r] W fun e w' => e = .returned (.int .i64 0) ∧ Below W.heap.size W w') := fun W => by
    have := means15 ⟨fo, keep, nd, oe⟩ r W
    rw [hm] at this; exact this
  clear hm
  subst hY
  clear hf hq
  unfold encI encH encV
  simp only
  go_enter Tryz.func67, Tryz.ntmps67
  go_wp2
  go_region_held3 (fun W => W.cell? ⟨w.heap.size + 1 + 1, 0, none⟩ = some (.int .i64 k) ∧ W.cell? ⟨w.heap.size + 1 + 1, 1, none⟩ = some (.int .i64 n)) (first | exact cV w _ _ _ k n | go_keep) (fail)
  obtain ⟨hx, hh, hz, hb0⟩ := boxed w ⟨st, since, fr, quiet, now, k, n⟩ ⟨fo, keep, nd, oe⟩ (.cells #[.int .i64 k, .int .i64 n] 57)
  have hx : IAt (((((w.alloc (.cells #[.int .i64 st, .int .i64 since, .int .i64 fr, .int .i64 quiet, .int .i64 now, .int .i64 k, .int .i64 n] 65)).alloc (.cells #[.int .i64 fo, .int .i64 keep, .int .i64 nd, .int .i64 oe] 23)).alloc (.cells #[.int .i64 k, .int .i64 n] 57)).alloc (.cells #[.int .i64 0, .int .i64 0, .int .i64 0, .int .i64 0, .int .i64 0, .int .i64 0, .int .i64 0] 65)).drew) w.heap.size ⟨st, since, fr, quiet, now, k, n⟩ := hx
  have hh : HAt (((((w.alloc (.cells #[.int .i64 st, .int .i64 since, .int .i64 fr, .int .i64 quiet, .int .i64 now, .int .i64 k, .int .i64 n] 65)).alloc (.cells #[.int .i64 fo, .int .i64 keep, .int .i64 nd, .int .i64 oe] 23)).alloc (.cells #[.int .i64 k, .int .i64 n] 57)).alloc (.cells #[.int .i64 0, .int .i64 0, .int .i64 0, .int .i64 0, .int .i64 0, .int .i64 0, .int .i64 0] 65)).drew) (w.heap.size + 1) ⟨fo, keep, nd, oe⟩ := hh
  have hz : IAt (((((w.alloc (.cells #[.int .i64 st, .int .i64 since, .int .i64 fr, .int .i64 quiet, .int .i64 now, .int .i64 k, .int .i64 n] 65)).alloc (.cells #[.int .i64 fo, .int .i64 keep, .int .i64 nd, .int .i64 oe] 23)).alloc (.cells #[.int .i64 k, .int .i64 n] 57)).alloc (.cells #[.int .i64 0, .int .i64 0, .int .i64 0, .int .i64 0, .int .i64 0, .int .i64 0, .int .i64 0] 65)).drew) (w.heap.size + 3) zI := hz
  have hb0 : Below w.heap.size w (((((w.alloc (.cells #[.int .i64 st, .int .i64 since, .int .i64 fr, .int .i64 quiet, .int .i64 now, .int .i64 k, .int .i64 n] 65)).alloc (.cells #[.int .i64 fo, .int .i64 keep, .int .i64 nd, .int .i64 oe] 23)).alloc (.cells #[.int .i64 k, .int .i64 n] 57)).alloc (.cells #[.int .i64 0, .int .i64 0, .int .i64 0, .int .i64 0, .int .i64 0, .int .i64 0, .int .i64 0] 65)).drew) := hb0
  generalize ((((w.alloc (.cells #[.int .i64 st, .int .i64 since, .int .i64 fr, .int .i64 quiet, .int .i64 now, .int .i64 k, .int .i64 n] 65)).alloc (.cells #[.int .i64 fo, .int .i64 keep, .int .i64 nd, .int .i64 oe] 23)).alloc (.cells #[.int .i64 k, .int .i64 n] 57)).alloc (.cells #[.int .i64 0, .int .i64 0, .int .i64 0, .int .i64 0, .int .i64 0, .int .i64 0, .int .i64 0] 65)).drew = W0 at *
  replace hb0 : Hid _ := hb0
  have hB : Below W0.heap.size W0 W0.drew := (Below.refl _ _).drew
  have q0 := (hh.grow hB).cells
  go_wp2
  go_region_held3 (fun W => W.cell? ⟨w.heap.size + 1, 0, none⟩ = some (.int .i64 fo) ∧ W.cell? ⟨w.heap.size + 1, 1, none⟩ = some (.int .i64 keep) ∧ W.cell? ⟨w.heap.size + 1, 2, none⟩ = some (.int .i64 nd) ∧ W.cell? ⟨w.heap.size + 1, 3, none⟩ = some (.int .i64 oe)) (first | exact q0 | go_keep) (first
    | (go_at_call 97; refine (moves28 _).mono ?_; rintro e w2 ⟨b, rfl, hM, hb2⟩; replace hB := hB.trans (hb2.mono hB.size); replace q0 := (hh.grow hB).cells; obtain ⟨vz, hlk⟩ := hM.look0)
    | (go_at_call 98; refine (hmeans.out _).mono ?_; rintro e w3 ⟨rfl, hb3⟩; replace hB := hB.trans (hb3.mono hB.size); replace q0 := (hh.grow hB).cells; try (replace hM := hM.grow hb3; obtain ⟨vz, hlk⟩ := hM.look0)))
  all_goals
    obtain ⟨p0, p1, p2, p3, p4, p5, p6⟩ := (hx.grow hB).cells
    obtain ⟨h0, h1, h2, h3⟩ := q0
    obtain ⟨z0, z1, z2, z3, z4, z5, z6⟩ := (hz.grow hB).cells
    obtain ⟨f0, f1, f2, f3, f4, f5, f6⟩ := (hz.grow hB).frozen
    go_wp2
    exact end_set (v := ⟨st, since, fr, quiet, now, k, n⟩) Tryz.results67 rfl (by omega) hb0.out hB hz

set_option maxRecDepth 100000 in
set_option maxHeartbeats 4000000 in
theorem step_1 (st since fr quiet seen vk vn fo keep nd oe r k n now : Int) (w : World) (hm : meansI ⟨fo, keep, nd, oe⟩ r = 1) (hf : st = 2 → -9223372036854775808 ≤ now - fr ∧ now - fr ≤ 9223372036854775807) (hq : quiet ≠ -1 → -9223372036854775808 ≤ now - quiet ∧ now - quiet ≤ 9223372036854775807) :
    Calls Tryz.prog 67 #[encI ⟨st, since, fr, quiet, seen, vk, vn⟩, encH ⟨fo, keep, nd, oe⟩, .int .i64 r, encV k n, .int .i64 now] w fun e w' => e = .returned (encI (stepI ⟨st, since, fr, quiet, seen, vk, vn⟩ ⟨fo, keep, nd, oe⟩ r k n now)) ∧ Below w.heap.size w w' := by
  obtain ⟨y, hY⟩ : ∃ y, y = stepI ⟨st, since, fr, quiet, seen, vk, vn⟩ ⟨fo, keep, nd, oe⟩ r k n now := ⟨_, rfl⟩
  rw [← hY]
  replace hY : y = calmI ⟨st, since, fr, quiet, now, k, n⟩ ⟨fo, keep, nd, oe⟩ now := by rw [hY]; unfold stepI; rw [hm]; rfl
  have hmeans : Hid (∀ W, Calls Tryz.prog 98 #[.agg #[.int .i64 fo, .int .i64 keep, .int .i64 nd, .int .i64 oe], .int .i64 r] W fun e w' => e = .returned (.int .i64 1) ∧ Below W.heap.size W w') := fun W => by
    have := means15 ⟨fo, keep, nd, oe⟩ r W
    rw [hm] at this; exact this
  clear hm
  have hC : Hid (∀ W, Calls Tryz.prog 117 #[.agg #[.int .i64 st, .int .i64 since, .int .i64 fr, .int .i64 quiet, .int .i64 now, .int .i64 k, .int .i64 n, .int .i64 fo, .int .i64 keep, .int .i64 nd, .int .i64 oe, .int .i64 now]] W fun e w' => e = .returned (.agg #[.int .i64 y.st, .int .i64 y.since, .int .i64 y.fr, .int .i64 y.quiet, .int .i64 y.seen, .int .i64 y.vk, .int .i64 y.vn]) ∧ Below W.heap.size W w') := fun W => by
    have := calm36 ⟨st, since, fr, quiet, now, k, n⟩ ⟨fo, keep, nd, oe⟩ now W hq
    rw [← hY] at this; exact this
  clear hY
  clear hf hq
  unfold encI encH encV
  simp only
  go_enter Tryz.func67, Tryz.ntmps67
  go_wp2
  go_region_held3 (fun W => W.cell? ⟨w.heap.size + 1 + 1, 0, none⟩ = some (.int .i64 k) ∧ W.cell? ⟨w.heap.size + 1 + 1, 1, none⟩ = some (.int .i64 n)) (first | exact cV w _ _ _ k n | go_keep) (fail)
  obtain ⟨hx, hh, hz, hb0⟩ := boxed w ⟨st, since, fr, quiet, now, k, n⟩ ⟨fo, keep, nd, oe⟩ (.cells #[.int .i64 k, .int .i64 n] 57)
  have hx : IAt (((((w.alloc (.cells #[.int .i64 st, .int .i64 since, .int .i64 fr, .int .i64 quiet, .int .i64 now, .int .i64 k, .int .i64 n] 65)).alloc (.cells #[.int .i64 fo, .int .i64 keep, .int .i64 nd, .int .i64 oe] 23)).alloc (.cells #[.int .i64 k, .int .i64 n] 57)).alloc (.cells #[.int .i64 0, .int .i64 0, .int .i64 0, .int .i64 0, .int .i64 0, .int .i64 0, .int .i64 0] 65)).drew) w.heap.size ⟨st, since, fr, quiet, now, k, n⟩ := hx
  have hh : HAt (((((w.alloc (.cells #[.int .i64 st, .int .i64 since, .int .i64 fr, .int .i64 quiet, .int .i64 now, .int .i64 k, .int .i64 n] 65)).alloc (.cells #[.int .i64 fo, .int .i64 keep, .int .i64 nd, .int .i64 oe] 23)).alloc (.cells #[.int .i64 k, .int .i64 n] 57)).alloc (.cells #[.int .i64 0, .int .i64 0, .int .i64 0, .int .i64 0, .int .i64 0, .int .i64 0, .int .i64 0] 65)).drew) (w.heap.size + 1) ⟨fo, keep, nd, oe⟩ := hh
  have hz : IAt (((((w.alloc (.cells #[.int .i64 st, .int .i64 since, .int .i64 fr, .int .i64 quiet, .int .i64 now, .int .i64 k, .int .i64 n] 65)).alloc (.cells #[.int .i64 fo, .int .i64 keep, .int .i64 nd, .int .i64 oe] 23)).alloc (.cells #[.int .i64 k, .int .i64 n] 57)).alloc (.cells #[.int .i64 0, .int .i64 0, .int .i64 0, .int .i64 0, .int .i64 0, .int .i64 0, .int .i64 0] 65)).drew) (w.heap.size + 3) zI := hz
  have hb0 : Below w.heap.size w (((((w.alloc (.cells #[.int .i64 st, .int .i64 since, .int .i64 fr, .int .i64 quiet, .int .i64 now, .int .i64 k, .int .i64 n] 65)).alloc (.cells #[.int .i64 fo, .int .i64 keep, .int .i64 nd, .int .i64 oe] 23)).alloc (.cells #[.int .i64 k, .int .i64 n] 57)).alloc (.cells #[.int .i64 0, .int .i64 0, .int .i64 0, .int .i64 0, .int .i64 0, .int .i64 0, .int .i64 0] 65)).drew) := hb0
  generalize ((((w.alloc (.cells #[.int .i64 st, .int .i64 since, .int .i64 fr, .int .i64 quiet, .int .i64 now, .int .i64 k, .int .i64 n] 65)).alloc (.cells #[.int .i64 fo, .int .i64 keep, .int .i64 nd, .int .i64 oe] 23)).alloc (.cells #[.int .i64 k, .int .i64 n] 57)).alloc (.cells #[.int .i64 0, .int .i64 0, .int .i64 0, .int .i64 0, .int .i64 0, .int .i64 0, .int .i64 0] 65)).drew = W0 at *
  replace hb0 : Hid _ := hb0
  have hB : Below W0.heap.size W0 W0.drew := (Below.refl _ _).drew
  have q0 := (hh.grow hB).cells
  go_wp2
  go_region_held3 (fun W => W.cell? ⟨w.heap.size + 1, 0, none⟩ = some (.int .i64 fo) ∧ W.cell? ⟨w.heap.size + 1, 1, none⟩ = some (.int .i64 keep) ∧ W.cell? ⟨w.heap.size + 1, 2, none⟩ = some (.int .i64 nd) ∧ W.cell? ⟨w.heap.size + 1, 3, none⟩ = some (.int .i64 oe)) (first | exact q0 | go_keep) (first
    | (go_at_call 97; refine (moves28 _).mono ?_; rintro e w2 ⟨b, rfl, hM, hb2⟩; replace hB := hB.trans (hb2.mono hB.size); replace q0 := (hh.grow hB).cells; have hlk := hM.look_1)
    | (go_at_call 98; refine (hmeans.out _).mono ?_; rintro e w3 ⟨rfl, hb3⟩; replace hB := hB.trans (hb3.mono hB.size); replace q0 := (hh.grow hB).cells; try (replace hM := hM.grow hb3; replace hlk := hM.look_1)))
  all_goals
    obtain ⟨p0, p1, p2, p3, p4, p5, p6⟩ := (hx.grow hB).cells
    obtain ⟨h0, h1, h2, h3⟩ := q0
    obtain ⟨z0, z1, z2, z3, z4, z5, z6⟩ := (hz.grow hB).cells
    obtain ⟨f0, f1, f2, f3, f4, f5, f6⟩ := (hz.grow hB).frozen
    go_wp2_with (go_at_call 117; refine (hC.out _).mono ?_; rintro e w4 ⟨rfl, hb4⟩; replace hB := hB.trans (hb4.mono hB.size); obtain ⟨z0, z1, z2, z3, z4, z5, z6⟩ := (hz.grow hB).cells; obtain ⟨f0, f1, f2, f3, f4, f5, f6⟩ := (hz.grow hB).frozen)
    exact end_set (v := y) Tryz.results67 rfl (by omega) hb0.out hB hz

set_option maxRecDepth 100000 in
set_option maxHeartbeats 4000000 in
theorem step_2 (st since fr quiet seen vk vn fo keep nd oe r k n now : Int) (w : World) (hm : meansI ⟨fo, keep, nd, oe⟩ r = 2) (hf : st = 2 → -9223372036854775808 ≤ now - fr ∧ now - fr ≤ 9223372036854775807) (hq : quiet ≠ -1 → -9223372036854775808 ≤ now - quiet ∧ now - quiet ≤ 9223372036854775807) :
    Calls Tryz.prog 67 #[encI ⟨st, since, fr, quiet, seen, vk, vn⟩, encH ⟨fo, keep, nd, oe⟩, .int .i64 r, encV k n, .int .i64 now] w fun e w' => e = .returned (encI (stepI ⟨st, since, fr, quiet, seen, vk, vn⟩ ⟨fo, keep, nd, oe⟩ r k n now)) ∧ Below w.heap.size w w' := by
  obtain ⟨y, hY⟩ : ∃ y, y = stepI ⟨st, since, fr, quiet, seen, vk, vn⟩ ⟨fo, keep, nd, oe⟩ r k n now := ⟨_, rfl⟩
  rw [← hY]
  replace hY : y = alertI ⟨st, since, fr, quiet, now, k, n⟩ ⟨fo, keep, nd, oe⟩ now := by rw [hY]; unfold stepI; rw [hm]; rfl
  have hmeans : Hid (∀ W, Calls Tryz.prog 98 #[.agg #[.int .i64 fo, .int .i64 keep, .int .i64 nd, .int .i64 oe], .int .i64 r] W fun e w' => e = .returned (.int .i64 2) ∧ Below W.heap.size W w') := fun W => by
    have := means15 ⟨fo, keep, nd, oe⟩ r W
    rw [hm] at this; exact this
  clear hm
  have hC : Hid (∀ W, Calls Tryz.prog 118 #[.agg #[.int .i64 st, .int .i64 since, .int .i64 fr, .int .i64 quiet, .int .i64 now, .int .i64 k, .int .i64 n, .int .i64 fo, .int .i64 keep, .int .i64 nd, .int .i64 oe, .int .i64 now]] W fun e w' => e = .returned (.agg #[.int .i64 y.st, .int .i64 y.since, .int .i64 y.fr, .int .i64 y.quiet, .int .i64 y.seen, .int .i64 y.vk, .int .i64 y.vn]) ∧ Below W.heap.size W w') := fun W => by
    have := breach37 ⟨st, since, fr, quiet, now, k, n⟩ ⟨fo, keep, nd, oe⟩ now W hf
    rw [← hY] at this; exact this
  clear hY
  clear hf hq
  unfold encI encH encV
  simp only
  go_enter Tryz.func67, Tryz.ntmps67
  go_wp2
  go_region_held3 (fun W => W.cell? ⟨w.heap.size + 1 + 1, 0, none⟩ = some (.int .i64 k) ∧ W.cell? ⟨w.heap.size + 1 + 1, 1, none⟩ = some (.int .i64 n)) (first | exact cV w _ _ _ k n | go_keep) (fail)
  obtain ⟨hx, hh, hz, hb0⟩ := boxed w ⟨st, since, fr, quiet, now, k, n⟩ ⟨fo, keep, nd, oe⟩ (.cells #[.int .i64 k, .int .i64 n] 57)
  have hx : IAt (((((w.alloc (.cells #[.int .i64 st, .int .i64 since, .int .i64 fr, .int .i64 quiet, .int .i64 now, .int .i64 k, .int .i64 n] 65)).alloc (.cells #[.int .i64 fo, .int .i64 keep, .int .i64 nd, .int .i64 oe] 23)).alloc (.cells #[.int .i64 k, .int .i64 n] 57)).alloc (.cells #[.int .i64 0, .int .i64 0, .int .i64 0, .int .i64 0, .int .i64 0, .int .i64 0, .int .i64 0] 65)).drew) w.heap.size ⟨st, since, fr, quiet, now, k, n⟩ := hx
  have hh : HAt (((((w.alloc (.cells #[.int .i64 st, .int .i64 since, .int .i64 fr, .int .i64 quiet, .int .i64 now, .int .i64 k, .int .i64 n] 65)).alloc (.cells #[.int .i64 fo, .int .i64 keep, .int .i64 nd, .int .i64 oe] 23)).alloc (.cells #[.int .i64 k, .int .i64 n] 57)).alloc (.cells #[.int .i64 0, .int .i64 0, .int .i64 0, .int .i64 0, .int .i64 0, .int .i64 0, .int .i64 0] 65)).drew) (w.heap.size + 1) ⟨fo, keep, nd, oe⟩ := hh
  have hz : IAt (((((w.alloc (.cells #[.int .i64 st, .int .i64 since, .int .i64 fr, .int .i64 quiet, .int .i64 now, .int .i64 k, .int .i64 n] 65)).alloc (.cells #[.int .i64 fo, .int .i64 keep, .int .i64 nd, .int .i64 oe] 23)).alloc (.cells #[.int .i64 k, .int .i64 n] 57)).alloc (.cells #[.int .i64 0, .int .i64 0, .int .i64 0, .int .i64 0, .int .i64 0, .int .i64 0, .int .i64 0] 65)).drew) (w.heap.size + 3) zI := hz
  have hb0 : Below w.heap.size w (((((w.alloc (.cells #[.int .i64 st, .int .i64 since, .int .i64 fr, .int .i64 quiet, .int .i64 now, .int .i64 k, .int .i64 n] 65)).alloc (.cells #[.int .i64 fo, .int .i64 keep, .int .i64 nd, .int .i64 oe] 23)).alloc (.cells #[.int .i64 k, .int .i64 n] 57)).alloc (.cells #[.int .i64 0, .int .i64 0, .int .i64 0, .int .i64 0, .int .i64 0, .int .i64 0, .int .i64 0] 65)).drew) := hb0
  generalize ((((w.alloc (.cells #[.int .i64 st, .int .i64 since, .int .i64 fr, .int .i64 quiet, .int .i64 now, .int .i64 k, .int .i64 n] 65)).alloc (.cells #[.int .i64 fo, .int .i64 keep, .int .i64 nd, .int .i64 oe] 23)).alloc (.cells #[.int .i64 k, .int .i64 n] 57)).alloc (.cells #[.int .i64 0, .int .i64 0, .int .i64 0, .int .i64 0, .int .i64 0, .int .i64 0, .int .i64 0] 65)).drew = W0 at *
  replace hb0 : Hid _ := hb0
  have hB : Below W0.heap.size W0 W0.drew := (Below.refl _ _).drew
  have q0 := (hh.grow hB).cells
  go_wp2
  go_region_held3 (fun W => W.cell? ⟨w.heap.size + 1, 0, none⟩ = some (.int .i64 fo) ∧ W.cell? ⟨w.heap.size + 1, 1, none⟩ = some (.int .i64 keep) ∧ W.cell? ⟨w.heap.size + 1, 2, none⟩ = some (.int .i64 nd) ∧ W.cell? ⟨w.heap.size + 1, 3, none⟩ = some (.int .i64 oe)) (first | exact q0 | go_keep) (first
    | (go_at_call 97; refine (moves28 _).mono ?_; rintro e w2 ⟨b, rfl, hM, hb2⟩; replace hB := hB.trans (hb2.mono hB.size); replace q0 := (hh.grow hB).cells; have hlk := hM.look_2)
    | (go_at_call 98; refine (hmeans.out _).mono ?_; rintro e w3 ⟨rfl, hb3⟩; replace hB := hB.trans (hb3.mono hB.size); replace q0 := (hh.grow hB).cells; try (replace hM := hM.grow hb3; replace hlk := hM.look_2)))
  all_goals
    obtain ⟨p0, p1, p2, p3, p4, p5, p6⟩ := (hx.grow hB).cells
    obtain ⟨h0, h1, h2, h3⟩ := q0
    obtain ⟨z0, z1, z2, z3, z4, z5, z6⟩ := (hz.grow hB).cells
    obtain ⟨f0, f1, f2, f3, f4, f5, f6⟩ := (hz.grow hB).frozen
    go_wp2_with (go_at_call 118; refine (hC.out _).mono ?_; rintro e w4 ⟨rfl, hb4⟩; replace hB := hB.trans (hb4.mono hB.size); obtain ⟨z0, z1, z2, z3, z4, z5, z6⟩ := (hz.grow hB).cells; obtain ⟨f0, f1, f2, f3, f4, f5, f6⟩ := (hz.grow hB).frozen)
    exact end_set (v := y) Tryz.results67 rfl (by omega) hb0.out hB hz

set_option maxRecDepth 100000 in
set_option maxHeartbeats 4000000 in
theorem step_3 (st since fr quiet seen vk vn fo keep nd oe r k n now : Int) (w : World) (hm : meansI ⟨fo, keep, nd, oe⟩ r = 3) (hf : st = 2 → -9223372036854775808 ≤ now - fr ∧ now - fr ≤ 9223372036854775807) (hq : quiet ≠ -1 → -9223372036854775808 ≤ now - quiet ∧ now - quiet ≤ 9223372036854775807) :
    Calls Tryz.prog 67 #[encI ⟨st, since, fr, quiet, seen, vk, vn⟩, encH ⟨fo, keep, nd, oe⟩, .int .i64 r, encV k n, .int .i64 now] w fun e w' => e = .returned (encI (stepI ⟨st, since, fr, quiet, seen, vk, vn⟩ ⟨fo, keep, nd, oe⟩ r k n now)) ∧ Below w.heap.size w w' := by
  obtain ⟨y, hY⟩ : ∃ y, y = stepI ⟨st, since, fr, quiet, seen, vk, vn⟩ ⟨fo, keep, nd, oe⟩ r k n now := ⟨_, rfl⟩
  rw [← hY]
  replace hY : y = comeI ⟨st, since, fr, quiet, now, k, n⟩ 4 now := by rw [hY]; unfold stepI; rw [hm]; rfl
  have hmeans : Hid (∀ W, Calls Tryz.prog 98 #[.agg #[.int .i64 fo, .int .i64 keep, .int .i64 nd, .int .i64 oe], .int .i64 r] W fun e w' => e = .returned (.int .i64 3) ∧ Below W.heap.size W w') := fun W => by
    have := means15 ⟨fo, keep, nd, oe⟩ r W
    rw [hm] at this; exact this
  clear hm
  have hC : Hid (∀ W, Calls Tryz.prog 119 #[.agg #[.int .i64 st, .int .i64 since, .int .i64 fr, .int .i64 quiet, .int .i64 now, .int .i64 k, .int .i64 n, .int .i64 fo, .int .i64 keep, .int .i64 nd, .int .i64 oe, .int .i64 now]] W fun e w' => e = .returned (.agg #[.int .i64 y.st, .int .i64 y.since, .int .i64 y.fr, .int .i64 y.quiet, .int .i64 y.seen, .int .i64 y.vk, .int .i64 y.vn]) ∧ Below W.heap.size W w') := fun W => by
    have := noData38 ⟨st, since, fr, quiet, now, k, n⟩ ⟨fo, keep, nd, oe⟩ now W
    rw [← hY] at this; exact this
  clear hY
  clear hf hq
  unfold encI encH encV
  simp only
  go_enter Tryz.func67, Tryz.ntmps67
  go_wp2
  go_region_held3 (fun W => W.cell? ⟨w.heap.size + 1 + 1, 0, none⟩ = some (.int .i64 k) ∧ W.cell? ⟨w.heap.size + 1 + 1, 1, none⟩ = some (.int .i64 n)) (first | exact cV w _ _ _ k n | go_keep) (fail)
  obtain ⟨hx, hh, hz, hb0⟩ := boxed w ⟨st, since, fr, quiet, now, k, n⟩ ⟨fo, keep, nd, oe⟩ (.cells #[.int .i64 k, .int .i64 n] 57)
  have hx : IAt (((((w.alloc (.cells #[.int .i64 st, .int .i64 since, .int .i64 fr, .int .i64 quiet, .int .i64 now, .int .i64 k, .int .i64 n] 65)).alloc (.cells #[.int .i64 fo, .int .i64 keep, .int .i64 nd, .int .i64 oe] 23)).alloc (.cells #[.int .i64 k, .int .i64 n] 57)).alloc (.cells #[.int .i64 0, .int .i64 0, .int .i64 0, .int .i64 0, .int .i64 0, .int .i64 0, .int .i64 0] 65)).drew) w.heap.size ⟨st, since, fr, quiet, now, k, n⟩ := hx
  have hh : HAt (((((w.alloc (.cells #[.int .i64 st, .int .i64 since, .int .i64 fr, .int .i64 quiet, .int .i64 now, .int .i64 k, .int .i64 n] 65)).alloc (.cells #[.int .i64 fo, .int .i64 keep, .int .i64 nd, .int .i64 oe] 23)).alloc (.cells #[.int .i64 k, .int .i64 n] 57)).alloc (.cells #[.int .i64 0, .int .i64 0, .int .i64 0, .int .i64 0, .int .i64 0, .int .i64 0, .int .i64 0] 65)).drew) (w.heap.size + 1) ⟨fo, keep, nd, oe⟩ := hh
  have hz : IAt (((((w.alloc (.cells #[.int .i64 st, .int .i64 since, .int .i64 fr, .int .i64 quiet, .int .i64 now, .int .i64 k, .int .i64 n] 65)).alloc (.cells #[.int .i64 fo, .int .i64 keep, .int .i64 nd, .int .i64 oe] 23)).alloc (.cells #[.int .i64 k, .int .i64 n] 57)).alloc (.cells #[.int .i64 0, .int .i64 0, .int .i64 0, .int .i64 0, .int .i64 0, .int .i64 0, .int .i64 0] 65)).drew) (w.heap.size + 3) zI := hz
  have hb0 : Below w.heap.size w (((((w.alloc (.cells #[.int .i64 st, .int .i64 since, .int .i64 fr, .int .i64 quiet, .int .i64 now, .int .i64 k, .int .i64 n] 65)).alloc (.cells #[.int .i64 fo, .int .i64 keep, .int .i64 nd, .int .i64 oe] 23)).alloc (.cells #[.int .i64 k, .int .i64 n] 57)).alloc (.cells #[.int .i64 0, .int .i64 0, .int .i64 0, .int .i64 0, .int .i64 0, .int .i64 0, .int .i64 0] 65)).drew) := hb0
  generalize ((((w.alloc (.cells #[.int .i64 st, .int .i64 since, .int .i64 fr, .int .i64 quiet, .int .i64 now, .int .i64 k, .int .i64 n] 65)).alloc (.cells #[.int .i64 fo, .int .i64 keep, .int .i64 nd, .int .i64 oe] 23)).alloc (.cells #[.int .i64 k, .int .i64 n] 57)).alloc (.cells #[.int .i64 0, .int .i64 0, .int .i64 0, .int .i64 0, .int .i64 0, .int .i64 0, .int .i64 0] 65)).drew = W0 at *
  replace hb0 : Hid _ := hb0
  have hB : Below W0.heap.size W0 W0.drew := (Below.refl _ _).drew
  have q0 := (hh.grow hB).cells
  go_wp2
  go_region_held3 (fun W => W.cell? ⟨w.heap.size + 1, 0, none⟩ = some (.int .i64 fo) ∧ W.cell? ⟨w.heap.size + 1, 1, none⟩ = some (.int .i64 keep) ∧ W.cell? ⟨w.heap.size + 1, 2, none⟩ = some (.int .i64 nd) ∧ W.cell? ⟨w.heap.size + 1, 3, none⟩ = some (.int .i64 oe)) (first | exact q0 | go_keep) (first
    | (go_at_call 97; refine (moves28 _).mono ?_; rintro e w2 ⟨b, rfl, hM, hb2⟩; replace hB := hB.trans (hb2.mono hB.size); replace q0 := (hh.grow hB).cells; have hlk := hM.look_3)
    | (go_at_call 98; refine (hmeans.out _).mono ?_; rintro e w3 ⟨rfl, hb3⟩; replace hB := hB.trans (hb3.mono hB.size); replace q0 := (hh.grow hB).cells; try (replace hM := hM.grow hb3; replace hlk := hM.look_3)))
  all_goals
    obtain ⟨p0, p1, p2, p3, p4, p5, p6⟩ := (hx.grow hB).cells
    obtain ⟨h0, h1, h2, h3⟩ := q0
    obtain ⟨z0, z1, z2, z3, z4, z5, z6⟩ := (hz.grow hB).cells
    obtain ⟨f0, f1, f2, f3, f4, f5, f6⟩ := (hz.grow hB).frozen
    go_wp2_with (go_at_call 119; refine (hC.out _).mono ?_; rintro e w4 ⟨rfl, hb4⟩; replace hB := hB.trans (hb4.mono hB.size); obtain ⟨z0, z1, z2, z3, z4, z5, z6⟩ := (hz.grow hB).cells; obtain ⟨f0, f1, f2, f3, f4, f5, f6⟩ := (hz.grow hB).frozen)
    exact end_set (v := y) Tryz.results67 rfl (by omega) hb0.out hB hz

set_option maxRecDepth 100000 in
set_option maxHeartbeats 4000000 in
theorem step_4 (st since fr quiet seen vk vn fo keep nd oe r k n now : Int) (w : World) (hm : meansI ⟨fo, keep, nd, oe⟩ r = 4) (hf : st = 2 → -9223372036854775808 ≤ now - fr ∧ now - fr ≤ 9223372036854775807) (hq : quiet ≠ -1 → -9223372036854775808 ≤ now - quiet ∧ now - quiet ≤ 9223372036854775807) :
    Calls Tryz.prog 67 #[encI ⟨st, since, fr, quiet, seen, vk, vn⟩, encH ⟨fo, keep, nd, oe⟩, .int .i64 r, encV k n, .int .i64 now] w fun e w' => e = .returned (encI (stepI ⟨st, since, fr, quiet, seen, vk, vn⟩ ⟨fo, keep, nd, oe⟩ r k n now)) ∧ Below w.heap.size w w' := by
  obtain ⟨y, hY⟩ : ∃ y, y = stepI ⟨st, since, fr, quiet, seen, vk, vn⟩ ⟨fo, keep, nd, oe⟩ r k n now := ⟨_, rfl⟩
  rw [← hY]
  replace hY : y = comeI ⟨st, since, fr, quiet, now, k, n⟩ 5 now := by rw [hY]; unfold stepI; rw [hm]; rfl
  have hmeans : Hid (∀ W, Calls Tryz.prog 98 #[.agg #[.int .i64 fo, .int .i64 keep, .int .i64 nd, .int .i64 oe], .int .i64 r] W fun e w' => e = .returned (.int .i64 4) ∧ Below W.heap.size W w') := fun W => by
    have := means15 ⟨fo, keep, nd, oe⟩ r W
    rw [hm] at this; exact this
  clear hm
  have hC : Hid (∀ W, Calls Tryz.prog 120 #[.agg #[.int .i64 st, .int .i64 since, .int .i64 fr, .int .i64 quiet, .int .i64 now, .int .i64 k, .int .i64 n, .int .i64 fo, .int .i64 keep, .int .i64 nd, .int .i64 oe, .int .i64 now]] W fun e w' => e = .returned (.agg #[.int .i64 y.st, .int .i64 y.since, .int .i64 y.fr, .int .i64 y.quiet, .int .i64 y.seen, .int .i64 y.vk, .int .i64 y.vn]) ∧ Below W.heap.size W w') := fun W => by
    have := fail39 ⟨st, since, fr, quiet, now, k, n⟩ ⟨fo, keep, nd, oe⟩ now W
    rw [← hY] at this; exact this
  clear hY
  clear hf hq
  unfold encI encH encV
  simp only
  go_enter Tryz.func67, Tryz.ntmps67
  go_wp2
  go_region_held3 (fun W => W.cell? ⟨w.heap.size + 1 + 1, 0, none⟩ = some (.int .i64 k) ∧ W.cell? ⟨w.heap.size + 1 + 1, 1, none⟩ = some (.int .i64 n)) (first | exact cV w _ _ _ k n | go_keep) (fail)
  obtain ⟨hx, hh, hz, hb0⟩ := boxed w ⟨st, since, fr, quiet, now, k, n⟩ ⟨fo, keep, nd, oe⟩ (.cells #[.int .i64 k, .int .i64 n] 57)
  have hx : IAt (((((w.alloc (.cells #[.int .i64 st, .int .i64 since, .int .i64 fr, .int .i64 quiet, .int .i64 now, .int .i64 k, .int .i64 n] 65)).alloc (.cells #[.int .i64 fo, .int .i64 keep, .int .i64 nd, .int .i64 oe] 23)).alloc (.cells #[.int .i64 k, .int .i64 n] 57)).alloc (.cells #[.int .i64 0, .int .i64 0, .int .i64 0, .int .i64 0, .int .i64 0, .int .i64 0, .int .i64 0] 65)).drew) w.heap.size ⟨st, since, fr, quiet, now, k, n⟩ := hx
  have hh : HAt (((((w.alloc (.cells #[.int .i64 st, .int .i64 since, .int .i64 fr, .int .i64 quiet, .int .i64 now, .int .i64 k, .int .i64 n] 65)).alloc (.cells #[.int .i64 fo, .int .i64 keep, .int .i64 nd, .int .i64 oe] 23)).alloc (.cells #[.int .i64 k, .int .i64 n] 57)).alloc (.cells #[.int .i64 0, .int .i64 0, .int .i64 0, .int .i64 0, .int .i64 0, .int .i64 0, .int .i64 0] 65)).drew) (w.heap.size + 1) ⟨fo, keep, nd, oe⟩ := hh
  have hz : IAt (((((w.alloc (.cells #[.int .i64 st, .int .i64 since, .int .i64 fr, .int .i64 quiet, .int .i64 now, .int .i64 k, .int .i64 n] 65)).alloc (.cells #[.int .i64 fo, .int .i64 keep, .int .i64 nd, .int .i64 oe] 23)).alloc (.cells #[.int .i64 k, .int .i64 n] 57)).alloc (.cells #[.int .i64 0, .int .i64 0, .int .i64 0, .int .i64 0, .int .i64 0, .int .i64 0, .int .i64 0] 65)).drew) (w.heap.size + 3) zI := hz
  have hb0 : Below w.heap.size w (((((w.alloc (.cells #[.int .i64 st, .int .i64 since, .int .i64 fr, .int .i64 quiet, .int .i64 now, .int .i64 k, .int .i64 n] 65)).alloc (.cells #[.int .i64 fo, .int .i64 keep, .int .i64 nd, .int .i64 oe] 23)).alloc (.cells #[.int .i64 k, .int .i64 n] 57)).alloc (.cells #[.int .i64 0, .int .i64 0, .int .i64 0, .int .i64 0, .int .i64 0, .int .i64 0, .int .i64 0] 65)).drew) := hb0
  generalize ((((w.alloc (.cells #[.int .i64 st, .int .i64 since, .int .i64 fr, .int .i64 quiet, .int .i64 now, .int .i64 k, .int .i64 n] 65)).alloc (.cells #[.int .i64 fo, .int .i64 keep, .int .i64 nd, .int .i64 oe] 23)).alloc (.cells #[.int .i64 k, .int .i64 n] 57)).alloc (.cells #[.int .i64 0, .int .i64 0, .int .i64 0, .int .i64 0, .int .i64 0, .int .i64 0, .int .i64 0] 65)).drew = W0 at *
  replace hb0 : Hid _ := hb0
  have hB : Below W0.heap.size W0 W0.drew := (Below.refl _ _).drew
  have q0 := (hh.grow hB).cells
  go_wp2
  go_region_held3 (fun W => W.cell? ⟨w.heap.size + 1, 0, none⟩ = some (.int .i64 fo) ∧ W.cell? ⟨w.heap.size + 1, 1, none⟩ = some (.int .i64 keep) ∧ W.cell? ⟨w.heap.size + 1, 2, none⟩ = some (.int .i64 nd) ∧ W.cell? ⟨w.heap.size + 1, 3, none⟩ = some (.int .i64 oe)) (first | exact q0 | go_keep) (first
    | (go_at_call 97; refine (moves28 _).mono ?_; rintro e w2 ⟨b, rfl, hM, hb2⟩; replace hB := hB.trans (hb2.mono hB.size); replace q0 := (hh.grow hB).cells; have hlk := hM.look_4)
    | (go_at_call 98; refine (hmeans.out _).mono ?_; rintro e w3 ⟨rfl, hb3⟩; replace hB := hB.trans (hb3.mono hB.size); replace q0 := (hh.grow hB).cells; try (replace hM := hM.grow hb3; replace hlk := hM.look_4)))
  all_goals
    obtain ⟨p0, p1, p2, p3, p4, p5, p6⟩ := (hx.grow hB).cells
    obtain ⟨h0, h1, h2, h3⟩ := q0
    obtain ⟨z0, z1, z2, z3, z4, z5, z6⟩ := (hz.grow hB).cells
    obtain ⟨f0, f1, f2, f3, f4, f5, f6⟩ := (hz.grow hB).frozen
    go_wp2_with (go_at_call 120; refine (hC.out _).mono ?_; rintro e w4 ⟨rfl, hb4⟩; replace hB := hB.trans (hb4.mono hB.size); obtain ⟨z0, z1, z2, z3, z4, z5, z6⟩ := (hz.grow hB).cells; obtain ⟨f0, f1, f2, f3, f4, f5, f6⟩ := (hz.grow hB).frozen)
    exact end_set (v := y) Tryz.results67 rfl (by omega) hb0.out hB hz
/-- Step. -/
theorem step17 (x : Inst) (h : Hd) (r k n now : Int) (w : World) (hf : x.st = 2 → -9223372036854775808 ≤ now - x.fr ∧ now - x.fr ≤ 9223372036854775807) (hq : x.quiet ≠ -1 → -9223372036854775808 ≤ now - x.quiet ∧ now - x.quiet ≤ 9223372036854775807) :
    Calls Tryz.prog 67 #[encI x, encH h, .int .i64 r, encV k n, .int .i64 now] w fun e w' => e = .returned (encI (stepI x h r k n now)) ∧ Below w.heap.size w w' := by
  obtain ⟨st, since, fr, quiet, seen, vk, vn⟩ := x
  obtain ⟨fo, keep, nd, oe⟩ := h
  rcases means_in ⟨fo, keep, nd, oe⟩ r with hm | hm | hm | hm | hm
  · exact step_0 st since fr quiet seen vk vn fo keep nd oe r k n now w hm hf hq
  · exact step_1 st since fr quiet seen vk vn fo keep nd oe r k n now w hm hf hq
  · exact step_2 st since fr quiet seen vk vn fo keep nd oe r k n now w hm hf hq
  · exact step_3 st since fr quiet seen vk vn fo keep nd oe r k n now w hm hf hq
  · exact step_4 st since fr quiet seen vk vn fo keep nd oe r k n now w hm hf hq
end Go.Proofs.YtiajafljgfpdcaaGreat.S
