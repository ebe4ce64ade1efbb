/- The closure 22. -/
import Derived.Test.YtnbhnnjgnojgbaaCm
namespace Go.Proofs.Ytnbhnnjgnojgbaa
set_option linter.unusedVariables false
open Go.RowKit
set_option maxRecDepth 100000 in
set_option maxHeartbeats 2000000 in
theorem cmp22 (x y : Jb) (w : World) : Calls Try.prog 22 #[encJ x, encJ y] w fun e w' => e = .returned (.int .i64 (cmpJ x y)) ∧ Below w.heap.size w w' := by
  obtain ⟨W1, hW1⟩ : ∃ W1, W1 = (w.alloc (.cells #[.string x.fo, .string x.gr, .int .i64 x.id, .int .i64 x.iv, .int .i64 x.off, .bool x.pa, .int .i64 x.la] 27)).alloc (.cells #[.string y.fo, .string y.gr, .int .i64 y.id, .int .i64 y.iv, .int .i64 y.off, .bool y.pa, .int .i64 y.la] 27) := ⟨_, rfl⟩
  have hb0 : Hid (Below w.heap.size w W1) := by rw [hW1]; exact ((Below.refl _ w).alloc (Nat.le_refl _) _).alloc (by simp) _
  have hx : JAt W1 w.heap.size x := by
    rw [hW1]
    exact (jNew w x).grow ((Below.refl _ _).alloc (Nat.le_refl _) _)
  have hy : JAt W1 (w.heap.size + 1) y := by
    rw [hW1]
    have := jNew (w.alloc (jO x)) y
    rw [show (w.alloc (jO x)).heap.size = w.heap.size + 1 by simp] at this
    exact this
  obtain ⟨x0, x1, x2, -⟩ := hx.cells
  obtain ⟨y0, y1, y2, -⟩ := hy.cells
  have h1 := fun W => cs24 x.fo y.fo W
  have h2 := fun W => cs24 x.gr y.gr W
  have h3 := fun W => ci25 x.id y.id W
  have hR : Hid (cmpJ x y = orI (cS x.fo y.fo) (cS x.gr y.gr) (cI x.id y.id)) := (rfl : cmpJ x y = _)
  generalize cS x.fo y.fo = A at *
  generalize cS x.gr y.gr = B at *
  generalize cI x.id y.id = C at *
  have h4 := or23 A B C W1.drew
  have keep : ∀ X {b o : Nat} {u : Value}, Below W1.heap.size W1 X → W1.cell? ⟨b, o, none⟩ = some u → X.cell? ⟨b, o, none⟩ = some u := fun X b o u hX h => (hX.cell (p := ⟨b, o, none⟩) (World.block_lt_of_cell? W1 _ h)).trans h
  unfold encJ
  go_enter Try.func22, Try.ntmps22
  go_upto_region 1 with fail
  rw [← hW1]
  clear hW1 hx hy
  go_region_held3 (fun X => X.cell? ⟨w.heap.size, 0, none⟩ = some (.string x.fo) ∧ X.cell? ⟨w.heap.size, 1, none⟩ = some (.string x.gr) ∧ X.cell? ⟨w.heap.size, 2, none⟩ = some (.int .i64 x.id) ∧ X.cell? ⟨w.heap.size + 1, 0, none⟩ = some (.string y.fo) ∧ X.cell? ⟨w.heap.size + 1, 1, none⟩ = some (.string y.gr) ∧ X.cell? ⟨w.heap.size + 1, 2, none⟩ = some (.int .i64 y.id)) (go_keep) (first
    | (go_at_call 24; with_reducible refine (h1 _).mono ?_; rintro e wx ⟨rfl, hwx⟩; subst wx)
    | (go_at_call 24; with_reducible refine (h2 _).mono ?_; rintro e wx ⟨rfl, hwx⟩; subst wx)
    | (go_at_call 25; with_reducible refine (h3 _).mono ?_; rintro e wx ⟨rfl, hwx⟩; subst wx)
    | (go_at_call 23; refine h4.mono ?_; rintro e w5 ⟨rfl, hb5⟩; have hB5 : Below W1.heap.size W1 w5 := ((Below.refl _ W1).drew).trans (hb5.mono (Nat.le_refl _)); have z0 := keep _ hB5 x0; have z1 := keep _ hB5 x1; have z2 := keep _ hB5 x2; have z3 := keep _ hB5 y0; have z4 := keep _ hB5 y1; have z5 := keep _ hB5 y2))
  go_wp2
  go_ret
  exact ⟨by rw [hR.out]; rfl, hb0.out.trans (hB5.mono hb0.out.size)⟩
end Go.Proofs.Ytnbhnnjgnojgbaa
