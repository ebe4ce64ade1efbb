/- Leaves: sched.Slot 9, the document's 10; Next 11, 12; isDue 20, is 19; Right 18. -/
import Derived.Test.YtnbhnnjgnojgbaaSl
namespace Go.Proofs.Ytnbhnnjgnojgbaa
set_option linter.unusedVariables false
open Go.RowKit
def jO (j : Jb) : Obj := .cells #[.string j.fo, .string j.gr, .int .i64 j.id, .int .i64 j.iv, .int .i64 j.off, .bool j.pa, .int .i64 j.la] 27
theorem calls_al {f : FuncId} {args : Array Value} {W : World} {v : Value} {o : Obj} (h : Calls Try.prog f args W fun e w' => e = .returned v ∧ w' = W.alloc o) : Calls Try.prog f args W fun e w' => e = .returned v ∧ Below W.heap.size W w' :=
  h.mono fun _ _ ⟨he, hw⟩ => ⟨he, hw ▸ (Below.refl _ _).alloc (Nat.le_refl _) _⟩
set_option maxRecDepth 100000 in
set_option maxHeartbeats 1000000 in
theorem slot9 (j : Jb) (t : Int) (w : World) (h : Ok j) (h0 : -1 ≤ t) (h1 : t ≤ 4398046511104) : Calls Try.prog 9 #[encJ j, .int .i64 t] w fun e w' => e = .returned (.int .i64 (slotF j t)) ∧ Below w.heap.size w w' := by
  have hs : Hid (slotF j t = _) := slotF.eq_def j t
  obtain ⟨a, b, c, d, _⟩ := h
  have hb0 : Hid (Below w.heap.size w (w.alloc (jO j))) := (Below.refl _ w).alloc (Nat.le_refl _) _
  have hiv : ¬ j.iv < 1 := by omega
  by_cases hc : t < j.off
  · have hf : Hid (slotF j t = -1) := by show _ = _; unfold slotF; rw [if_pos (Or.inl hc)]
    unfold encJ
    go_enter Try.func9, Try.ntmps9
    go_wp2
    go_ret
    exact ⟨by rw [hf.out]; rfl, hb0.out⟩
  · have hf : Hid (slotF j t = (t - j.off) / j.iv) := by show _ = _; unfold slotF; rw [if_neg (by omega)]
    have hw : IntKind.i64.wrap (t - j.off) = t - j.off := Go.IntWalk.i64_in _ (by omega)
    have hq0 : 0 ≤ (t - j.off) / j.iv := Int.ediv_nonneg (by omega) (by omega)
    have hq1 : (t - j.off) / j.iv ≤ t - j.off := Int.ediv_le_self _ (by omega)
    have hne : ¬ j.iv = 0 := by omega
    have hw2 : IntKind.i64.wrap ((t - j.off) / j.iv) = (t - j.off) / j.iv := Go.IntWalk.i64_in _ (by omega)
    have htd : (t - j.off).tdiv j.iv = (t - j.off) / j.iv := Int.tdiv_eq_ediv_of_nonneg (by omega)
    unfold encJ
    go_enter Try.func9, Try.ntmps9
    go_wp2
    go_ret
    exact ⟨by rw [hf.out]; rfl, hb0.out⟩
set_option maxRecDepth 100000 in
set_option maxHeartbeats 1000000 in
theorem rslot10 (j : Jb) (t : Int) (w : World) (h : Ok j) (h0 : -1 ≤ t) (h1 : t ≤ 4398046511104) : Calls Try.prog 10 #[encJ j, .int .i64 t] w fun e w' => e = .returned (.int .i64 (slotF j t)) ∧ Below w.heap.size w w' := by
  have hs : Hid (slotF j t = _) := slotF.eq_def j t
  obtain ⟨a, b, c, d, _⟩ := h
  have hb0 : Hid (Below w.heap.size w (w.alloc (jO j))) := (Below.refl _ w).alloc (Nat.le_refl _) _
  have hiv : ¬ j.iv < 1 := by omega
  by_cases hc : t < j.off
  · have hf : Hid (slotF j t = -1) := by show _ = _; unfold slotF; rw [if_pos (Or.inl hc)]
    unfold encJ
    go_enter Try.func10, Try.ntmps10
    go_wp2
    go_ret
    exact ⟨by rw [hf.out]; rfl, hb0.out⟩
  · have hf : Hid (slotF j t = (t - j.off) / j.iv) := by show _ = _; unfold slotF; rw [if_neg (by omega)]
    have hw : IntKind.i64.wrap (t - j.off) = t - j.off := Go.IntWalk.i64_in _ (by omega)
    have hq0 : 0 ≤ (t - j.off) / j.iv := Int.ediv_nonneg (by omega) (by omega)
    have hq1 : (t - j.off) / j.iv ≤ t - j.off := Int.ediv_le_self _ (by omega)
    have hne : ¬ j.iv = 0 := by omega
    have hw2 : IntKind.i64.wrap ((t - j.off) / j.iv) = (t - j.off) / j.iv := Go.IntWalk.i64_in _ (by omega)
    have htd : (t - j.off).tdiv j.iv = (t - j.off) / j.iv := Int.tdiv_eq_ediv_of_nonneg (by omega)
    unfold encJ
    go_enter Try.func10, Try.ntmps10
    go_wp2
    go_ret
    exact ⟨by rw [hf.out]; rfl, hb0.out⟩
set_option maxRecDepth 100000 in
set_option maxHeartbeats 1000000 in
theorem next11 (j : Jb) (t : Int) (w : World) (h : Ok j) (h0 : -1 ≤ t) (h1 : t ≤ 4398046511104) : Calls Try.prog 11 #[encJ j, .int .i64 t] w fun e w' => e = .returned (.int .i64 (nextF j t)) ∧ Below w.heap.size w w' := by
  obtain ⟨n0, n1, n2, n3, n4⟩ := nextF_in h h0 h1
  have hi := slotF_in h h0 h1
  obtain ⟨a, b, c, d, _⟩ := id h
  have hb0 : Below w.heap.size w (w.alloc (jO j)) := (Below.refl _ w).alloc (Nat.le_refl _) _
  have hS : ∀ W, Calls Try.prog 9 #[.agg #[.string j.fo, .string j.gr, .int .i64 j.id, .int .i64 j.iv, .int .i64 j.off, .bool j.pa, .int .i64 j.la], .int .i64 t] W fun e w' => e = .returned (.int .i64 (slotF j t)) ∧ Below W.heap.size W w' := fun W => slot9 j t W h h0 h1
  have hnf : Hid (nextF j t = j.off + (slotF j t + 1) * j.iv) := (rfl : nextF j t = _)
  have w3 : IntKind.i64.wrap (j.off + (slotF j t + 1) * j.iv) = j.off + (slotF j t + 1) * j.iv := Go.IntWalk.i64_in _ (by unfold nextF at n1 n2; omega)
  generalize slotF j t = s at *
  have w1 : IntKind.i64.wrap (s + 1) = s + 1 := Go.IntWalk.i64_in _ (by omega)
  have w2 : IntKind.i64.wrap ((s + 1) * j.iv) = (s + 1) * j.iv := Go.IntWalk.i64_in _ (by omega)
  clear n0 n1 n2 n3 n4 hi a b c d h
  have x0 : (w.alloc (jO j)).cell? ⟨w.heap.size, 0, none⟩ = some (.string j.fo) := by unfold World.cell?; rw [heap_new]; rfl
  have x1 : (w.alloc (jO j)).cell? ⟨w.heap.size, 1, none⟩ = some (.string j.gr) := by unfold World.cell?; rw [heap_new]; rfl
  have x2 : (w.alloc (jO j)).cell? ⟨w.heap.size, 2, none⟩ = some (.int .i64 j.id) := by unfold World.cell?; rw [heap_new]; rfl
  have x3 : (w.alloc (jO j)).cell? ⟨w.heap.size, 3, none⟩ = some (.int .i64 j.iv) := by unfold World.cell?; rw [heap_new]; rfl
  have x4 : (w.alloc (jO j)).cell? ⟨w.heap.size, 4, none⟩ = some (.int .i64 j.off) := by unfold World.cell?; rw [heap_new]; rfl
  have x5 : (w.alloc (jO j)).cell? ⟨w.heap.size, 5, none⟩ = some (.bool j.pa) := by unfold World.cell?; rw [heap_new]; rfl
  have x6 : (w.alloc (jO j)).cell? ⟨w.heap.size, 6, none⟩ = some (.int .i64 j.la) := by unfold World.cell?; rw [heap_new]; rfl
  generalize hW1 : w.alloc (jO j) = W1 at *
  have hk : W1.heap.size = w.heap.size + 1 := by rw [← hW1]; simp
  have keep : ∀ X {b o : Nat} {u : Value}, Below W1.heap.size W1 X → W1.cell? ⟨b, o, none⟩ = some u → X.cell? ⟨b, o, none⟩ = some u := fun X b o u hX h => (hX.cell (p := ⟨b, o, none⟩) (World.block_lt_of_cell? W1 _ h)).trans h
  unfold encJ
  go_enter Try.func11, Try.ntmps11
  go_upto_region 1 with fail
  unfold jO at hW1
  rw [hW1]
  go_region_held3 (fun X => X.cell? ⟨w.heap.size, 0, none⟩ = some (.string j.fo) ∧ X.cell? ⟨w.heap.size, 1, none⟩ = some (.string j.gr) ∧ X.cell? ⟨w.heap.size, 2, none⟩ = some (.int .i64 j.id) ∧ X.cell? ⟨w.heap.size, 3, none⟩ = some (.int .i64 j.iv) ∧ X.cell? ⟨w.heap.size, 4, none⟩ = some (.int .i64 j.off) ∧ X.cell? ⟨w.heap.size, 5, none⟩ = some (.bool j.pa) ∧ X.cell? ⟨w.heap.size, 6, none⟩ = some (.int .i64 j.la)) (go_keep) (first
    | (go_at_call 9; refine (hS _).mono ?_; rintro e w3 ⟨rfl, hb3⟩; have hB3 : Below W1.heap.size W1 w3 := ((Below.refl _ W1).drew).trans (hb3.mono (Nat.le_refl _)); have y0 := keep _ hB3 x0; have y1 := keep _ hB3 x1; have y2 := keep _ hB3 x2; have y3 := keep _ hB3 x3; have y4 := keep _ hB3 x4; have y5 := keep _ hB3 x5; have y6 := keep _ hB3 x6))
  go_wp2
  go_ret
  exact ⟨by rw [hnf.out]; rfl, hb0.trans (hB3.mono hb0.size)⟩
set_option maxRecDepth 100000 in
set_option maxHeartbeats 1000000 in
theorem rnext12 (j : Jb) (t : Int) (w : World) (h : Ok j) (h0 : -1 ≤ t) (h1 : t ≤ 4398046511104) : Calls Try.prog 12 #[encJ j, .int .i64 t] w fun e w' => e = .returned (.int .i64 (nextF j t)) ∧ Below w.heap.size w w' := by
  obtain ⟨n0, n1, n2, n3, n4⟩ := nextF_in h h0 h1
  have hi := slotF_in h h0 h1
  obtain ⟨a, b, c, d, _⟩ := id h
  have hb0 : Below w.heap.size w (w.alloc (jO j)) := (Below.refl _ w).alloc (Nat.le_refl _) _
  have hS : ∀ W, Calls Try.prog 10 #[.agg #[.string j.fo, .string j.gr, .int .i64 j.id, .int .i64 j.iv, .int .i64 j.off, .bool j.pa, .int .i64 j.la], .int .i64 t] W fun e w' => e = .returned (.int .i64 (slotF j t)) ∧ Below W.heap.size W w' := fun W => rslot10 j t W h h0 h1
  have hnf : Hid (nextF j t = j.off + (slotF j t + 1) * j.iv) := (rfl : nextF j t = _)
  have w3 : IntKind.i64.wrap (j.off + (slotF j t + 1) * j.iv) = j.off + (slotF j t + 1) * j.iv := Go.IntWalk.i64_in _ (by unfold nextF at n1 n2; omega)
  generalize slotF j t = s at *
  have w1 : IntKind.i64.wrap (s + 1) = s + 1 := Go.IntWalk.i64_in _ (by omega)
  have w2 : IntKind.i64.wrap ((s + 1) * j.iv) = (s + 1) * j.iv := Go.IntWalk.i64_in _ (by omega)
  clear n0 n1 n2 n3 n4 hi a b c d h
  have x0 : (w.alloc (jO j)).cell? ⟨w.heap.size, 0, none⟩ = some (.string j.fo) := by unfold World.cell?; rw [heap_new]; rfl
  have x1 : (w.alloc (jO j)).cell? ⟨w.heap.size, 1, none⟩ = some (.string j.gr) := by unfold World.cell?; rw [heap_new]; rfl
  have x2 : (w.alloc (jO j)).cell? ⟨w.heap.size, 2, none⟩ = some (.int .i64 j.id) := by unfold World.cell?; rw [heap_new]; rfl
  have x3 : (w.alloc (jO j)).cell? ⟨w.heap.size, 3, none⟩ = some (.int .i64 j.iv) := by unfold World.cell?; rw [heap_new]; rfl
  have x4 : (w.alloc (jO j)).cell? ⟨w.heap.size, 4, none⟩ = some (.int .i64 j.off) := by unfold World.cell?; rw [heap_new]; rfl
  have x5 : (w.alloc (jO j)).cell? ⟨w.heap.size, 5, none⟩ = some (.bool j.pa) := by unfold World.cell?; rw [heap_new]; rfl
  have x6 : (w.alloc (jO j)).cell? ⟨w.heap.size, 6, none⟩ = some (.int .i64 j.la) := by unfold World.cell?; rw [heap_new]; rfl
  generalize hW1 : w.alloc (jO j) = W1 at *
  have hk : W1.heap.size = w.heap.size + 1 := by rw [← hW1]; simp
  have keep : ∀ X {b o : Nat} {u : Value}, Below W1.heap.size W1 X → W1.cell? ⟨b, o, none⟩ = some u → X.cell? ⟨b, o, none⟩ = some u := fun X b o u hX h => (hX.cell (p := ⟨b, o, none⟩) (World.block_lt_of_cell? W1 _ h)).trans h
  unfold encJ
  go_enter Try.func12, Try.ntmps12
  go_upto_region 1 with fail
  unfold jO at hW1
  rw [hW1]
  go_region_held3 (fun X => X.cell? ⟨w.heap.size, 0, none⟩ = some (.string j.fo) ∧ X.cell? ⟨w.heap.size, 1, none⟩ = some (.string j.gr) ∧ X.cell? ⟨w.heap.size, 2, none⟩ = some (.int .i64 j.id) ∧ X.cell? ⟨w.heap.size, 3, none⟩ = some (.int .i64 j.iv) ∧ X.cell? ⟨w.heap.size, 4, none⟩ = some (.int .i64 j.off) ∧ X.cell? ⟨w.heap.size, 5, none⟩ = some (.bool j.pa) ∧ X.cell? ⟨w.heap.size, 6, none⟩ = some (.int .i64 j.la)) (go_keep) (first
    | (go_at_call 10; refine (hS _).mono ?_; rintro e w3 ⟨rfl, hb3⟩; have hB3 : Below W1.heap.size W1 w3 := ((Below.refl _ W1).drew).trans (hb3.mono (Nat.le_refl _)); have y0 := keep _ hB3 x0; have y1 := keep _ hB3 x1; have y2 := keep _ hB3 x2; have y3 := keep _ hB3 x3; have y4 := keep _ hB3 x4; have y5 := keep _ hB3 x5; have y6 := keep _ hB3 x6))
  go_wp2
  go_ret
  exact ⟨by rw [hnf.out]; rfl, hb0.trans (hB3.mono hb0.size)⟩
/-- A job's cells in block g. -/
def JAt (w : World) (g : Nat) (j : Jb) : Prop := w.heap[g]? = some (jO j)
theorem jNew (w : World) (j : Jb) : JAt (w.alloc (jO j)) w.heap.size j := heap_new _ _
theorem JAt.grow {w w' : World} {g : Nat} {j : Jb} (h : JAt w g j) (hb : Below w.heap.size w w') : JAt w' g j := by
  unfold JAt at h ⊢
  rw [hb.block g (Array.getElem?_eq_some_iff.1 h).1]; exact h
theorem JAt.cells {w : World} {g : Nat} {j : Jb} (h : JAt w g j) : w.cell? ⟨g, 0, none⟩ = some (.string j.fo) ∧ w.cell? ⟨g, 1, none⟩ = some (.string j.gr) ∧ w.cell? ⟨g, 2, none⟩ = some (.int .i64 j.id) ∧ w.cell? ⟨g, 3, none⟩ = some (.int .i64 j.iv) ∧ w.cell? ⟨g, 4, none⟩ = some (.int .i64 j.off) ∧ w.cell? ⟨g, 5, none⟩ = some (.bool j.pa) ∧ w.cell? ⟨g, 6, none⟩ = some (.int .i64 j.la) := by
  unfold JAt jO at h
  refine ⟨?_, ?_, ?_, ?_, ?_, ?_, ?_⟩ <;> (unfold World.cell?; rw [h]; rfl)
theorem JAt.lt {w : World} {g : Nat} {j : Jb} (h : JAt w g j) : g < w.heap.size := (Array.getElem?_eq_some_iff.1 h).1
set_option maxRecDepth 100000 in
set_option maxHeartbeats 1000000 in
theorem isDue20 (j : Jb) (t : Int) (w : World) (h : Ok j) (h0 : -1 ≤ t) (h1 : t ≤ 4398046511104) : Calls Try.prog 20 #[encJ j, .int .i64 t] w fun e w' => e = .returned (.bool (isB j t)) ∧ Below w.heap.size w w' := by
  obtain ⟨a, b, c, d, e, f⟩ := id h
  obtain ⟨W1, hW1⟩ : ∃ W1, W1 = w.alloc (.cells #[.string j.fo, .string j.gr, .int .i64 j.id, .int .i64 j.iv, .int .i64 j.off, .bool j.pa, .int .i64 j.la] 27) := ⟨_, rfl⟩
  have hb0 : Hid (Below w.heap.size w W1) := by rw [hW1]; exact (Below.refl _ w).alloc (Nat.le_refl _) _
  have hJ : JAt W1 w.heap.size j := by rw [hW1]; exact jNew w j
  have hS : ∀ p : Bel W1, Calls Try.prog 9 #[.agg #[.string j.fo, .string j.gr, .int .i64 j.id, .int .i64 j.iv, .int .i64 j.off, .bool j.pa, .int .i64 j.la], .int .i64 t] p.W fun e w' => e = .returned (.int .i64 (slotF j t)) ∧ Below p.W.heap.size p.W w' := fun p => slot9 j t p.W h h0 h1
  have hT : ∀ p : Bel W1, Calls Try.prog 9 #[.agg #[.string j.fo, .string j.gr, .int .i64 j.id, .int .i64 j.iv, .int .i64 j.off, .bool j.pa, .int .i64 j.la], .int .i64 j.la] p.W fun e w' => e = .returned (.int .i64 (slotF j j.la)) ∧ Below p.W.heap.size p.W w' := fun p => slot9 j j.la p.W h e (by omega)
  have hnf : Hid (isB j t = (!j.pa && decide (slotF j j.la < slotF j t))) := (rfl : isB j t = _)
  generalize slotF j t = s at *
  generalize slotF j j.la = r at *
  clear a b c d e f h
  have c0 : ∀ p : Bel W1, p.W.cell? ⟨w.heap.size, 0, none⟩ = some (.string j.fo) := fun p => (hJ.grow p.h).cells.1
  have c1 : ∀ p : Bel W1, p.W.cell? ⟨w.heap.size, 1, none⟩ = some (.string j.gr) := fun p => (hJ.grow p.h).cells.2.1
  have c2 : ∀ p : Bel W1, p.W.cell? ⟨w.heap.size, 2, none⟩ = some (.int .i64 j.id) := fun p => (hJ.grow p.h).cells.2.2.1
  have c3 : ∀ p : Bel W1, p.W.cell? ⟨w.heap.size, 3, none⟩ = some (.int .i64 j.iv) := fun p => (hJ.grow p.h).cells.2.2.2.1
  have c4 : ∀ p : Bel W1, p.W.cell? ⟨w.heap.size, 4, none⟩ = some (.int .i64 j.off) := fun p => (hJ.grow p.h).cells.2.2.2.2.1
  have c5 : ∀ p : Bel W1, p.W.cell? ⟨w.heap.size, 5, none⟩ = some (.bool j.pa) := fun p => (hJ.grow p.h).cells.2.2.2.2.2.1
  have c6 : ∀ p : Bel W1, p.W.cell? ⟨w.heap.size, 6, none⟩ = some (.int .i64 j.la) := fun p => (hJ.grow p.h).cells.2.2.2.2.2.2
  clear hJ
  unfold encJ
  generalize hp : j.pa = pa at *
  clear hp
  go_enter Try.func20, Try.ntmps20
  go_upto_region 1 with fail
  rw [← hW1]
  clear hW1
  cases pa <;>
  (refine wp_region_bel (by kernel_rfl) (by kernel_rfl) ?_
   repeat (go_big_quiet_step (first | (go_at_call 9; with_reducible exact Calls.bel (hS _)) | (go_at_call 9; with_reducible exact Calls.bel (hT _))))
   refine wpQuiet_nil ?_
   rintro wq ⟨⟨wz, hq⟩, rfl⟩
   go_wp2
   go_ret
   refine ⟨?_, hb0.out.trans (hq.mono hb0.out.size)⟩
   rw [hnf.out]
   try rfl)
set_option maxRecDepth 100000 in
set_option maxHeartbeats 1000000 in
theorem ris19 (j : Jb) (t : Int) (w : World) (h : Ok j) (h0 : -1 ≤ t) (h1 : t ≤ 4398046511104) : Calls Try.prog 19 #[encJ j, .int .i64 t] w fun e w' => e = .returned (.bool (isB j t)) ∧ Below w.heap.size w w' := by
  obtain ⟨a, b, c, d, e, f⟩ := id h
  obtain ⟨W1, hW1⟩ : ∃ W1, W1 = w.alloc (.cells #[.string j.fo, .string j.gr, .int .i64 j.id, .int .i64 j.iv, .int .i64 j.off, .bool j.pa, .int .i64 j.la] 27) := ⟨_, rfl⟩
  have hb0 : Hid (Below w.heap.size w W1) := by rw [hW1]; exact (Below.refl _ w).alloc (Nat.le_refl _) _
  have hJ : JAt W1 w.heap.size j := by rw [hW1]; exact jNew w j
  have hS : ∀ p : Bel W1, Calls Try.prog 10 #[.agg #[.string j.fo, .string j.gr, .int .i64 j.id, .int .i64 j.iv, .int .i64 j.off, .bool j.pa, .int .i64 j.la], .int .i64 t] p.W fun e w' => e = .returned (.int .i64 (slotF j t)) ∧ Below p.W.heap.size p.W w' := fun p => rslot10 j t p.W h h0 h1
  have hT : ∀ p : Bel W1, Calls Try.prog 10 #[.agg #[.string j.fo, .string j.gr, .int .i64 j.id, .int .i64 j.iv, .int .i64 j.off, .bool j.pa, .int .i64 j.la], .int .i64 j.la] p.W fun e w' => e = .returned (.int .i64 (slotF j j.la)) ∧ Below p.W.heap.size p.W w' := fun p => rslot10 j j.la p.W h e (by omega)
  have hnf : Hid (isB j t = (!j.pa && decide (slotF j j.la < slotF j t))) := (rfl : isB j t = _)
  generalize slotF j t = s at *
  generalize slotF j j.la = r at *
  clear a b c d e f h
  have c0 : ∀ p : Bel W1, p.W.cell? ⟨w.heap.size, 0, none⟩ = some (.string j.fo) := fun p => (hJ.grow p.h).cells.1
  have c1 : ∀ p : Bel W1, p.W.cell? ⟨w.heap.size, 1, none⟩ = some (.string j.gr) := fun p => (hJ.grow p.h).cells.2.1
  have c2 : ∀ p : Bel W1, p.W.cell? ⟨w.heap.size, 2, none⟩ = some (.int .i64 j.id) := fun p => (hJ.grow p.h).cells.2.2.1
  have c3 : ∀ p : Bel W1, p.W.cell? ⟨w.heap.size, 3, none⟩ = some (.int .i64 j.iv) := fun p => (hJ.grow p.h).cells.2.2.2.1
  have c4 : ∀ p : Bel W1, p.W.cell? ⟨w.heap.size, 4, none⟩ = some (.int .i64 j.off) := fun p => (hJ.grow p.h).cells.2.2.2.2.1
  have c5 : ∀ p : Bel W1, p.W.cell? ⟨w.heap.size, 5, none⟩ = some (.bool j.pa) := fun p => (hJ.grow p.h).cells.2.2.2.2.2.1
  have c6 : ∀ p : Bel W1, p.W.cell? ⟨w.heap.size, 6, none⟩ = some (.int .i64 j.la) := fun p => (hJ.grow p.h).cells.2.2.2.2.2.2
  clear hJ
  unfold encJ
  generalize hp : j.pa = pa at *
  clear hp
  go_enter Try.func19, Try.ntmps19
  go_upto_region 1 with fail
  rw [← hW1]
  clear hW1
  cases pa <;>
  (refine wp_region_bel (by kernel_rfl) (by kernel_rfl) ?_
   repeat (go_big_quiet_step (first | (go_at_call 10; with_reducible exact Calls.bel (hS _)) | (go_at_call 10; with_reducible exact Calls.bel (hT _))))
   refine wpQuiet_nil ?_
   rintro wq ⟨⟨wz, hq⟩, rfl⟩
   go_wp2
   go_ret
   refine ⟨?_, hb0.out.trans (hq.mono hb0.out.size)⟩
   rw [hnf.out]
   try rfl)
end Go.Proofs.Ytnbhnnjgnojgbaa
