/- Values: the contracts of what compared and unlessNull make. -/
import Derived.Test.YtfbiaffdfolbgabGreatDoorVi
namespace Go.Proofs.YtfbiaffdfolbgabGreatDoor
set_option linter.unusedVariables false
open Go.RowKit
attribute [local go_sem ↓] Go.wp_at_zero Go.wp_at_succ
set_option maxRecDepth 100000 in
theorem hold_56 (n : Int) (w : World) : Calls Tryz.prog 37 #[.int .i64 n] w fun e w' => e = .returned (.bool (n == 0)) ∧ Below w.heap.size w w' := by
  go_enter Tryz.func37, Tryz.ntmps37
  go_wp2
  go_ret
  exact ⟨rfl, Below.refl _ _⟩
set_option maxRecDepth 100000 in
set_option maxHeartbeats 1000000 in
theorem cmp_56 (a b : Vl) (p p2 : Nat) (B : Bool) (w : World) (hp : w.cell? ⟨p, 0, none⟩ = some (.bool B)) (hp2 : w.cell? ⟨p2, 0, none⟩ = some (.func (.func 37) #[] #[]))
    (hc : noB a b = false → ∀ W, Calls Tryz.prog 62 #[vlV a, vlV b] W fun e w' => e = .returned (.int .i64 (ordI a b)) ∧ Below W.heap.size W w') :
    Calls Tryz.prog 61 #[vlV a, vlV b, .pointer (some ⟨p, 0, none⟩), .pointer (some ⟨p2, 0, none⟩)] w fun e w' => e = .returned (vlV (tru (if noB a b = true then B else (ordI a b == 0)))) ∧ Below w.heap.size w w' := by
  obtain ⟨ha, hb, hr⟩ := pW2 w a b
  have hB : Below (W2 w a b).heap.size (W2 w a b) (W2 w a b) := Below.refl _ _
  have hn := fun W => eitherNaN_b a b W
  have hpk : ∀ W, Below (W2 w a b).heap.size (W2 w a b) W → W.cell? ⟨p, 0, none⟩ = some (.bool B) := fun W h => keepC hp ((bW2 w a b).trans (h.mono (bW2 w a b).size))
  have hpk2 : ∀ W, Below (W2 w a b).heap.size (W2 w a b) W → W.cell? ⟨p2, 0, none⟩ = some (.func (.func 37) #[] #[]) := fun W h => keepC hp2 ((bW2 w a b).trans (h.mono (bW2 w a b).size))
  have hlt2 : p2 < w.heap.size := World.block_lt_of_cell? w _ hp2
  clear hp hp2
  cases h1 : noB a b
  · rw [if_neg (by simp)]
    replace hc := hc h1
    rw [h1] at hn
    have hh := fun W => hold_56 (ordI a b) W
    have ht := fun W => truth_any (ordI a b == 0) W
    generalize (ordI a b == 0) = T at *
    generalize ordI a b = n at *
    clear h1
    unfold vlV at *
    go_enter Tryz.func61, Tryz.ntmps61
    go_wp2_with (first | (go_at_call 59; with_reducible refine (hn _).mono ?_; rintro e w2 ⟨rfl, hb2⟩; replace hB := hB.trans (hb2.mono hB.size); obtain ⟨a0, a1⟩ := (ha.grow hB).cells; obtain ⟨b0, b1⟩ := (hb.grow hB).cells; obtain ⟨r0, r1⟩ := (hr.grow hB).cells; obtain ⟨rf0, rf1⟩ := (hr.grow hB).frozen))
    replace hB := hB.drew
    obtain ⟨a0, a1⟩ := (ha.grow hB).cells
    obtain ⟨b0, b1⟩ := (hb.grow hB).cells
    obtain ⟨r0, r1⟩ := (hr.grow hB).cells
    obtain ⟨rf0, rf1⟩ := (hr.grow hB).frozen
    go_region_held3 (fun W => W.cell? ⟨w.heap.size, 0, none⟩ = some (.int .i64 a.kind) ∧ W.cell? ⟨w.heap.size, 1, none⟩ = some (.int .i64 a.n) ∧ W.cell? ⟨w.heap.size + 1, 0, none⟩ = some (.int .i64 b.kind) ∧ W.cell? ⟨w.heap.size + 1, 1, none⟩ = some (.int .i64 b.n) ∧ W.cell? ⟨p2, 0, none⟩ = some (.func (.func 37) #[] #[]))
      (first | exact ⟨a0, a1, b0, b1, hpk2 _ hB⟩ | exact ⟨cset a0 (by omega), cset a1 (by omega), cset b0 (by omega), cset b1 (by omega), cset (hpk2 _ hB) (by omega)⟩)
      (first | (go_at_call 62; with_reducible refine (hc _).mono ?_; rintro e w2 ⟨rfl, hb2⟩; replace hB := hB.trans (hb2.mono hB.size); obtain ⟨a0, a1⟩ := (ha.grow hB).cells; obtain ⟨b0, b1⟩ := (hb.grow hB).cells; obtain ⟨r0, r1⟩ := (hr.grow hB).cells; obtain ⟨rf0, rf1⟩ := (hr.grow hB).frozen) | (go_at_call 37; with_reducible refine (hh _).mono ?_; rintro e w2 ⟨rfl, hb2⟩; replace hB := hB.trans (hb2.mono hB.size); obtain ⟨a0, a1⟩ := (ha.grow hB).cells; obtain ⟨b0, b1⟩ := (hb.grow hB).cells; obtain ⟨r0, r1⟩ := (hr.grow hB).cells; obtain ⟨rf0, rf1⟩ := (hr.grow hB).frozen) | (go_at_call 45; with_reducible refine (ht _).mono ?_; rintro e w2 ⟨rfl, hb2⟩; replace hB := hB.trans (hb2.mono hB.size); obtain ⟨a0, a1⟩ := (ha.grow hB).cells; obtain ⟨b0, b1⟩ := (hb.grow hB).cells; obtain ⟨r0, r1⟩ := (hr.grow hB).cells; obtain ⟨rf0, rf1⟩ := (hr.grow hB).frozen))
    all_goals
      go_wp2
      exact end_set (v := tru T) Tryz.results61 rfl (by omega) (bW2 w _ _) hB hr
  · rw [if_pos rfl]
    rw [h1] at hn
    have ht := fun W => truth_any B W
    clear h1 hc hpk2
    unfold vlV at *
    go_enter Tryz.func61, Tryz.ntmps61
    go_wp2_with (first | (go_at_call 59; with_reducible refine (hn _).mono ?_; rintro e w2 ⟨rfl, hb2⟩; replace hB := hB.trans (hb2.mono hB.size); obtain ⟨a0, a1⟩ := (ha.grow hB).cells; obtain ⟨b0, b1⟩ := (hb.grow hB).cells; obtain ⟨r0, r1⟩ := (hr.grow hB).cells; obtain ⟨rf0, rf1⟩ := (hr.grow hB).frozen; have pc := hpk _ hB) | (go_at_call 45; with_reducible refine (ht _).mono ?_; rintro e w2 ⟨rfl, hb2⟩; replace hB := hB.trans (hb2.mono hB.size); obtain ⟨a0, a1⟩ := (ha.grow hB).cells; obtain ⟨b0, b1⟩ := (hb.grow hB).cells; obtain ⟨r0, r1⟩ := (hr.grow hB).cells; obtain ⟨rf0, rf1⟩ := (hr.grow hB).frozen))
    exact end_set (v := tru B) Tryz.results61 rfl (by omega) (bW2 w _ _) hB hr
set_option maxRecDepth 100000 in
theorem hold_57 (n : Int) (w : World) : Calls Tryz.prog 38 #[.int .i64 n] w fun e w' => e = .returned (.bool (n != 0)) ∧ Below w.heap.size w w' := by
  go_enter Tryz.func38, Tryz.ntmps38
  go_wp2
  go_ret
  exact ⟨rfl, Below.refl _ _⟩
set_option maxRecDepth 100000 in
set_option maxHeartbeats 1000000 in
theorem cmp_57 (a b : Vl) (p p2 : Nat) (B : Bool) (w : World) (hp : w.cell? ⟨p, 0, none⟩ = some (.bool B)) (hp2 : w.cell? ⟨p2, 0, none⟩ = some (.func (.func 38) #[] #[]))
    (hc : noB a b = false → ∀ W, Calls Tryz.prog 62 #[vlV a, vlV b] W fun e w' => e = .returned (.int .i64 (ordI a b)) ∧ Below W.heap.size W w') :
    Calls Tryz.prog 61 #[vlV a, vlV b, .pointer (some ⟨p, 0, none⟩), .pointer (some ⟨p2, 0, none⟩)] w fun e w' => e = .returned (vlV (tru (if noB a b = true then B else (ordI a b != 0)))) ∧ Below w.heap.size w w' := by
  obtain ⟨ha, hb, hr⟩ := pW2 w a b
  have hB : Below (W2 w a b).heap.size (W2 w a b) (W2 w a b) := Below.refl _ _
  have hn := fun W => eitherNaN_b a b W
  have hpk : ∀ W, Below (W2 w a b).heap.size (W2 w a b) W → W.cell? ⟨p, 0, none⟩ = some (.bool B) := fun W h => keepC hp ((bW2 w a b).trans (h.mono (bW2 w a b).size))
  have hpk2 : ∀ W, Below (W2 w a b).heap.size (W2 w a b) W → W.cell? ⟨p2, 0, none⟩ = some (.func (.func 38) #[] #[]) := fun W h => keepC hp2 ((bW2 w a b).trans (h.mono (bW2 w a b).size))
  have hlt2 : p2 < w.heap.size := World.block_lt_of_cell? w _ hp2
  clear hp hp2
  cases h1 : noB a b
  · rw [if_neg (by simp)]
    replace hc := hc h1
    rw [h1] at hn
    have hh := fun W => hold_57 (ordI a b) W
    have ht := fun W => truth_any (ordI a b != 0) W
    generalize (ordI a b != 0) = T at *
    generalize ordI a b = n at *
    clear h1
    unfold vlV at *
    go_enter Tryz.func61, Tryz.ntmps61
    go_wp2_with (first | (go_at_call 59; with_reducible refine (hn _).mono ?_; rintro e w2 ⟨rfl, hb2⟩; replace hB := hB.trans (hb2.mono hB.size); obtain ⟨a0, a1⟩ := (ha.grow hB).cells; obtain ⟨b0, b1⟩ := (hb.grow hB).cells; obtain ⟨r0, r1⟩ := (hr.grow hB).cells; obtain ⟨rf0, rf1⟩ := (hr.grow hB).frozen))
    replace hB := hB.drew
    obtain ⟨a0, a1⟩ := (ha.grow hB).cells
    obtain ⟨b0, b1⟩ := (hb.grow hB).cells
    obtain ⟨r0, r1⟩ := (hr.grow hB).cells
    obtain ⟨rf0, rf1⟩ := (hr.grow hB).frozen
    go_region_held3 (fun W => W.cell? ⟨w.heap.size, 0, none⟩ = some (.int .i64 a.kind) ∧ W.cell? ⟨w.heap.size, 1, none⟩ = some (.int .i64 a.n) ∧ W.cell? ⟨w.heap.size + 1, 0, none⟩ = some (.int .i64 b.kind) ∧ W.cell? ⟨w.heap.size + 1, 1, none⟩ = some (.int .i64 b.n) ∧ W.cell? ⟨p2, 0, none⟩ = some (.func (.func 38) #[] #[]))
      (first | exact ⟨a0, a1, b0, b1, hpk2 _ hB⟩ | exact ⟨cset a0 (by omega), cset a1 (by omega), cset b0 (by omega), cset b1 (by omega), cset (hpk2 _ hB) (by omega)⟩)
      (first | (go_at_call 62; with_reducible refine (hc _).mono ?_; rintro e w2 ⟨rfl, hb2⟩; replace hB := hB.trans (hb2.mono hB.size); obtain ⟨a0, a1⟩ := (ha.grow hB).cells; obtain ⟨b0, b1⟩ := (hb.grow hB).cells; obtain ⟨r0, r1⟩ := (hr.grow hB).cells; obtain ⟨rf0, rf1⟩ := (hr.grow hB).frozen) | (go_at_call 38; with_reducible refine (hh _).mono ?_; rintro e w2 ⟨rfl, hb2⟩; replace hB := hB.trans (hb2.mono hB.size); obtain ⟨a0, a1⟩ := (ha.grow hB).cells; obtain ⟨b0, b1⟩ := (hb.grow hB).cells; obtain ⟨r0, r1⟩ := (hr.grow hB).cells; obtain ⟨rf0, rf1⟩ := (hr.grow hB).frozen) | (go_at_call 45; with_reducible refine (ht _).mono ?_; rintro e w2 ⟨rfl, hb2⟩; replace hB := hB.trans (hb2.mono hB.size); obtain ⟨a0, a1⟩ := (ha.grow hB).cells; obtain ⟨b0, b1⟩ := (hb.grow hB).cells; obtain ⟨r0, r1⟩ := (hr.grow hB).cells; obtain ⟨rf0, rf1⟩ := (hr.grow hB).frozen))
    all_goals
      go_wp2
      exact end_set (v := tru T) Tryz.results61 rfl (by omega) (bW2 w _ _) hB hr
  · rw [if_pos rfl]
    rw [h1] at hn
    have ht := fun W => truth_any B W
    clear h1 hc hpk2
    unfold vlV at *
    go_enter Tryz.func61, Tryz.ntmps61
    go_wp2_with (first | (go_at_call 59; with_reducible refine (hn _).mono ?_; rintro e w2 ⟨rfl, hb2⟩; replace hB := hB.trans (hb2.mono hB.size); obtain ⟨a0, a1⟩ := (ha.grow hB).cells; obtain ⟨b0, b1⟩ := (hb.grow hB).cells; obtain ⟨r0, r1⟩ := (hr.grow hB).cells; obtain ⟨rf0, rf1⟩ := (hr.grow hB).frozen; have pc := hpk _ hB) | (go_at_call 45; with_reducible refine (ht _).mono ?_; rintro e w2 ⟨rfl, hb2⟩; replace hB := hB.trans (hb2.mono hB.size); obtain ⟨a0, a1⟩ := (ha.grow hB).cells; obtain ⟨b0, b1⟩ := (hb.grow hB).cells; obtain ⟨r0, r1⟩ := (hr.grow hB).cells; obtain ⟨rf0, rf1⟩ := (hr.grow hB).frozen))
    exact end_set (v := tru B) Tryz.results61 rfl (by omega) (bW2 w _ _) hB hr
set_option maxRecDepth 100000 in
theorem hold_58 (n : Int) (w : World) : Calls Tryz.prog 39 #[.int .i64 n] w fun e w' => e = .returned (.bool (decide (n < 0))) ∧ Below w.heap.size w w' := by
  go_enter Tryz.func39, Tryz.ntmps39
  go_wp2
  go_ret
  exact ⟨rfl, Below.refl _ _⟩
set_option maxRecDepth 100000 in
set_option maxHeartbeats 1000000 in
theorem cmp_58 (a b : Vl) (p p2 : Nat) (B : Bool) (w : World) (hp : w.cell? ⟨p, 0, none⟩ = some (.bool B)) (hp2 : w.cell? ⟨p2, 0, none⟩ = some (.func (.func 39) #[] #[]))
    (hc : noB a b = false → ∀ W, Calls Tryz.prog 62 #[vlV a, vlV b] W fun e w' => e = .returned (.int .i64 (ordI a b)) ∧ Below W.heap.size W w') :
    Calls Tryz.prog 61 #[vlV a, vlV b, .pointer (some ⟨p, 0, none⟩), .pointer (some ⟨p2, 0, none⟩)] w fun e w' => e = .returned (vlV (tru (if noB a b = true then B else (decide (ordI a b < 0))))) ∧ Below w.heap.size w w' := by
  obtain ⟨ha, hb, hr⟩ := pW2 w a b
  have hB : Below (W2 w a b).heap.size (W2 w a b) (W2 w a b) := Below.refl _ _
  have hn := fun W => eitherNaN_b a b W
  have hpk : ∀ W, Below (W2 w a b).heap.size (W2 w a b) W → W.cell? ⟨p, 0, none⟩ = some (.bool B) := fun W h => keepC hp ((bW2 w a b).trans (h.mono (bW2 w a b).size))
  have hpk2 : ∀ W, Below (W2 w a b).heap.size (W2 w a b) W → W.cell? ⟨p2, 0, none⟩ = some (.func (.func 39) #[] #[]) := fun W h => keepC hp2 ((bW2 w a b).trans (h.mono (bW2 w a b).size))
  have hlt2 : p2 < w.heap.size := World.block_lt_of_cell? w _ hp2
  clear hp hp2
  cases h1 : noB a b
  · rw [if_neg (by simp)]
    replace hc := hc h1
    rw [h1] at hn
    have hh := fun W => hold_58 (ordI a b) W
    have ht := fun W => truth_any (decide (ordI a b < 0)) W
    generalize (decide (ordI a b < 0)) = T at *
    generalize ordI a b = n at *
    clear h1
    unfold vlV at *
    go_enter Tryz.func61, Tryz.ntmps61
    go_wp2_with (first | (go_at_call 59; with_reducible refine (hn _).mono ?_; rintro e w2 ⟨rfl, hb2⟩; replace hB := hB.trans (hb2.mono hB.size); obtain ⟨a0, a1⟩ := (ha.grow hB).cells; obtain ⟨b0, b1⟩ := (hb.grow hB).cells; obtain ⟨r0, r1⟩ := (hr.grow hB).cells; obtain ⟨rf0, rf1⟩ := (hr.grow hB).frozen))
    replace hB := hB.drew
    obtain ⟨a0, a1⟩ := (ha.grow hB).cells
    obtain ⟨b0, b1⟩ := (hb.grow hB).cells
    obtain ⟨r0, r1⟩ := (hr.grow hB).cells
    obtain ⟨rf0, rf1⟩ := (hr.grow hB).frozen
    go_region_held3 (fun W => W.cell? ⟨w.heap.size, 0, none⟩ = some (.int .i64 a.kind) ∧ W.cell? ⟨w.heap.size, 1, none⟩ = some (.int .i64 a.n) ∧ W.cell? ⟨w.heap.size + 1, 0, none⟩ = some (.int .i64 b.kind) ∧ W.cell? ⟨w.heap.size + 1, 1, none⟩ = some (.int .i64 b.n) ∧ W.cell? ⟨p2, 0, none⟩ = some (.func (.func 39) #[] #[]))
      (first | exact ⟨a0, a1, b0, b1, hpk2 _ hB⟩ | exact ⟨cset a0 (by omega), cset a1 (by omega), cset b0 (by omega), cset b1 (by omega), cset (hpk2 _ hB) (by omega)⟩)
      (first | (go_at_call 62; with_reducible refine (hc _).mono ?_; rintro e w2 ⟨rfl, hb2⟩; replace hB := hB.trans (hb2.mono hB.size); obtain ⟨a0, a1⟩ := (ha.grow hB).cells; obtain ⟨b0, b1⟩ := (hb.grow hB).cells; obtain ⟨r0, r1⟩ := (hr.grow hB).cells; obtain ⟨rf0, rf1⟩ := (hr.grow hB).frozen) | (go_at_call 39; with_reducible refine (hh _).mono ?_; rintro e w2 ⟨rfl, hb2⟩; replace hB := hB.trans (hb2.mono hB.size); obtain ⟨a0, a1⟩ := (ha.grow hB).cells; obtain ⟨b0, b1⟩ := (hb.grow hB).cells; obtain ⟨r0, r1⟩ := (hr.grow hB).cells; obtain ⟨rf0, rf1⟩ := (hr.grow hB).frozen) | (go_at_call 45; with_reducible refine (ht _).mono ?_; rintro e w2 ⟨rfl, hb2⟩; replace hB := hB.trans (hb2.mono hB.size); obtain ⟨a0, a1⟩ := (ha.grow hB).cells; obtain ⟨b0, b1⟩ := (hb.grow hB).cells; obtain ⟨r0, r1⟩ := (hr.grow hB).cells; obtain ⟨rf0, rf1⟩ := (hr.grow hB).frozen))
    all_goals
      go_wp2
      exact end_set (v := tru T) Tryz.results61 rfl (by omega) (bW2 w _ _) hB hr
  · rw [if_pos rfl]
    rw [h1] at hn
    have ht := fun W => truth_any B W
    clear h1 hc hpk2
    unfold vlV at *
    go_enter Tryz.func61, Tryz.ntmps61
    go_wp2_with (first | (go_at_call 59; with_reducible refine (hn _).mono ?_; rintro e w2 ⟨rfl, hb2⟩; replace hB := hB.trans (hb2.mono hB.size); obtain ⟨a0, a1⟩ := (ha.grow hB).cells; obtain ⟨b0, b1⟩ := (hb.grow hB).cells; obtain ⟨r0, r1⟩ := (hr.grow hB).cells; obtain ⟨rf0, rf1⟩ := (hr.grow hB).frozen; have pc := hpk _ hB) | (go_at_call 45; with_reducible refine (ht _).mono ?_; rintro e w2 ⟨rfl, hb2⟩; replace hB := hB.trans (hb2.mono hB.size); obtain ⟨a0, a1⟩ := (ha.grow hB).cells; obtain ⟨b0, b1⟩ := (hb.grow hB).cells; obtain ⟨r0, r1⟩ := (hr.grow hB).cells; obtain ⟨rf0, rf1⟩ := (hr.grow hB).frozen))
    exact end_set (v := tru B) Tryz.results61 rfl (by omega) (bW2 w _ _) hB hr
set_option maxRecDepth 100000 in
theorem hold_59 (n : Int) (w : World) : Calls Tryz.prog 40 #[.int .i64 n] w fun e w' => e = .returned (.bool (decide (n ≤ 0))) ∧ Below w.heap.size w w' := by
  go_enter Tryz.func40, Tryz.ntmps40
  go_wp2
  go_ret
  exact ⟨rfl, Below.refl _ _⟩
set_option maxRecDepth 100000 in
set_option maxHeartbeats 1000000 in
theorem cmp_59 (a b : Vl) (p p2 : Nat) (B : Bool) (w : World) (hp : w.cell? ⟨p, 0, none⟩ = some (.bool B)) (hp2 : w.cell? ⟨p2, 0, none⟩ = some (.func (.func 40) #[] #[]))
    (hc : noB a b = false → ∀ W, Calls Tryz.prog 62 #[vlV a, vlV b] W fun e w' => e = .returned (.int .i64 (ordI a b)) ∧ Below W.heap.size W w') :
    Calls Tryz.prog 61 #[vlV a, vlV b, .pointer (some ⟨p, 0, none⟩), .pointer (some ⟨p2, 0, none⟩)] w fun e w' => e = .returned (vlV (tru (if noB a b = true then B else (decide (ordI a b ≤ 0))))) ∧ Below w.heap.size w w' := by
  obtain ⟨ha, hb, hr⟩ := pW2 w a b
  have hB : Below (W2 w a b).heap.size (W2 w a b) (W2 w a b) := Below.refl _ _
  have hn := fun W => eitherNaN_b a b W
  have hpk : ∀ W, Below (W2 w a b).heap.size (W2 w a b) W → W.cell? ⟨p, 0, none⟩ = some (.bool B) := fun W h => keepC hp ((bW2 w a b).trans (h.mono (bW2 w a b).size))
  have hpk2 : ∀ W, Below (W2 w a b).heap.size (W2 w a b) W → W.cell? ⟨p2, 0, none⟩ = some (.func (.func 40) #[] #[]) := fun W h => keepC hp2 ((bW2 w a b).trans (h.mono (bW2 w a b).size))
  have hlt2 : p2 < w.heap.size := World.block_lt_of_cell? w _ hp2
  clear hp hp2
  cases h1 : noB a b
  · rw [if_neg (by simp)]
    replace hc := hc h1
    rw [h1] at hn
    have hh := fun W => hold_59 (ordI a b) W
    have ht := fun W => truth_any (decide (ordI a b ≤ 0)) W
    generalize (decide (ordI a b ≤ 0)) = T at *
    generalize ordI a b = n at *
    clear h1
    unfold vlV at *
    go_enter Tryz.func61, Tryz.ntmps61
    go_wp2_with (first | (go_at_call 59; with_reducible refine (hn _).mono ?_; rintro e w2 ⟨rfl, hb2⟩; replace hB := hB.trans (hb2.mono hB.size); obtain ⟨a0, a1⟩ := (ha.grow hB).cells; obtain ⟨b0, b1⟩ := (hb.grow hB).cells; obtain ⟨r0, r1⟩ := (hr.grow hB).cells; obtain ⟨rf0, rf1⟩ := (hr.grow hB).frozen))
    replace hB := hB.drew
    obtain ⟨a0, a1⟩ := (ha.grow hB).cells
    obtain ⟨b0, b1⟩ := (hb.grow hB).cells
    obtain ⟨r0, r1⟩ := (hr.grow hB).cells
    obtain ⟨rf0, rf1⟩ := (hr.grow hB).frozen
    go_region_held3 (fun W => W.cell? ⟨w.heap.size, 0, none⟩ = some (.int .i64 a.kind) ∧ W.cell? ⟨w.heap.size, 1, none⟩ = some (.int .i64 a.n) ∧ W.cell? ⟨w.heap.size + 1, 0, none⟩ = some (.int .i64 b.kind) ∧ W.cell? ⟨w.heap.size + 1, 1, none⟩ = some (.int .i64 b.n) ∧ W.cell? ⟨p2, 0, none⟩ = some (.func (.func 40) #[] #[]))
      (first | exact ⟨a0, a1, b0, b1, hpk2 _ hB⟩ | exact ⟨cset a0 (by omega), cset a1 (by omega), cset b0 (by omega), cset b1 (by omega), cset (hpk2 _ hB) (by omega)⟩)
      (first | (go_at_call 62; with_reducible refine (hc _).mono ?_; rintro e w2 ⟨rfl, hb2⟩; replace hB := hB.trans (hb2.mono hB.size); obtain ⟨a0, a1⟩ := (ha.grow hB).cells; obtain ⟨b0, b1⟩ := (hb.grow hB).cells; obtain ⟨r0, r1⟩ := (hr.grow hB).cells; obtain ⟨rf0, rf1⟩ := (hr.grow hB).frozen) | (go_at_call 40; with_reducible refine (hh _).mono ?_; rintro e w2 ⟨rfl, hb2⟩; replace hB := hB.trans (hb2.mono hB.size); obtain ⟨a0, a1⟩ := (ha.grow hB).cells; obtain ⟨b0, b1⟩ := (hb.grow hB).cells; obtain ⟨r0, r1⟩ := (hr.grow hB).cells; obtain ⟨rf0, rf1⟩ := (hr.grow hB).frozen) | (go_at_call 45; with_reducible refine (ht _).mono ?_; rintro e w2 ⟨rfl, hb2⟩; replace hB := hB.trans (hb2.mono hB.size); obtain ⟨a0, a1⟩ := (ha.grow hB).cells; obtain ⟨b0, b1⟩ := (hb.grow hB).cells; obtain ⟨r0, r1⟩ := (hr.grow hB).cells; obtain ⟨rf0, rf1⟩ := (hr.grow hB).frozen))
    all_goals
      go_wp2
      exact end_set (v := tru T) Tryz.results61 rfl (by omega) (bW2 w _ _) hB hr
  · rw [if_pos rfl]
    rw [h1] at hn
    have ht := fun W => truth_any B W
    clear h1 hc hpk2
    unfold vlV at *
    go_enter Tryz.func61, Tryz.ntmps61
    go_wp2_with (first | (go_at_call 59; with_reducible refine (hn _).mono ?_; rintro e w2 ⟨rfl, hb2⟩; replace hB := hB.trans (hb2.mono hB.size); obtain ⟨a0, a1⟩ := (ha.grow hB).cells; obtain ⟨b0, b1⟩ := (hb.grow hB).cells; obtain ⟨r0, r1⟩ := (hr.grow hB).cells; obtain ⟨rf0, rf1⟩ := (hr.grow hB).frozen; have pc := hpk _ hB) | (go_at_call 45; with_reducible refine (ht _).mono ?_; rintro e w2 ⟨rfl, hb2⟩; replace hB := hB.trans (hb2.mono hB.size); obtain ⟨a0, a1⟩ := (ha.grow hB).cells; obtain ⟨b0, b1⟩ := (hb.grow hB).cells; obtain ⟨r0, r1⟩ := (hr.grow hB).cells; obtain ⟨rf0, rf1⟩ := (hr.grow hB).frozen))
    exact end_set (v := tru B) Tryz.results61 rfl (by omega) (bW2 w _ _) hB hr
set_option maxRecDepth 100000 in
theorem hold_60 (n : Int) (w : World) : Calls Tryz.prog 41 #[.int .i64 n] w fun e w' => e = .returned (.bool (decide (0 < n))) ∧ Below w.heap.size w w' := by
  go_enter Tryz.func41, Tryz.ntmps41
  go_wp2
  go_ret
  exact ⟨rfl, Below.refl _ _⟩
set_option maxRecDepth 100000 in
set_option maxHeartbeats 1000000 in
theorem cmp_60 (a b : Vl) (p p2 : Nat) (B : Bool) (w : World) (hp : w.cell? ⟨p, 0, none⟩ = some (.bool B)) (hp2 : w.cell? ⟨p2, 0, none⟩ = some (.func (.func 41) #[] #[]))
    (hc : noB a b = false → ∀ W, Calls Tryz.prog 62 #[vlV a, vlV b] W fun e w' => e = .returned (.int .i64 (ordI a b)) ∧ Below W.heap.size W w') :
    Calls Tryz.prog 61 #[vlV a, vlV b, .pointer (some ⟨p, 0, none⟩), .pointer (some ⟨p2, 0, none⟩)] w fun e w' => e = .returned (vlV (tru (if noB a b = true then B else (decide (0 < ordI a b))))) ∧ Below w.heap.size w w' := by
  obtain ⟨ha, hb, hr⟩ := pW2 w a b
  have hB : Below (W2 w a b).heap.size (W2 w a b) (W2 w a b) := Below.refl _ _
  have hn := fun W => eitherNaN_b a b W
  have hpk : ∀ W, Below (W2 w a b).heap.size (W2 w a b) W → W.cell? ⟨p, 0, none⟩ = some (.bool B) := fun W h => keepC hp ((bW2 w a b).trans (h.mono (bW2 w a b).size))
  have hpk2 : ∀ W, Below (W2 w a b).heap.size (W2 w a b) W → W.cell? ⟨p2, 0, none⟩ = some (.func (.func 41) #[] #[]) := fun W h => keepC hp2 ((bW2 w a b).trans (h.mono (bW2 w a b).size))
  have hlt2 : p2 < w.heap.size := World.block_lt_of_cell? w _ hp2
  clear hp hp2
  cases h1 : noB a b
  · rw [if_neg (by simp)]
    replace hc := hc h1
    rw [h1] at hn
    have hh := fun W => hold_60 (ordI a b) W
    have ht := fun W => truth_any (decide (0 < ordI a b)) W
    generalize (decide (0 < ordI a b)) = T at *
    generalize ordI a b = n at *
    clear h1
    unfold vlV at *
    go_enter Tryz.func61, Tryz.ntmps61
    go_wp2_with (first | (go_at_call 59; with_reducible refine (hn _).mono ?_; rintro e w2 ⟨rfl, hb2⟩; replace hB := hB.trans (hb2.mono hB.size); obtain ⟨a0, a1⟩ := (ha.grow hB).cells; obtain ⟨b0, b1⟩ := (hb.grow hB).cells; obtain ⟨r0, r1⟩ := (hr.grow hB).cells; obtain ⟨rf0, rf1⟩ := (hr.grow hB).frozen))
    replace hB := hB.drew
    obtain ⟨a0, a1⟩ := (ha.grow hB).cells
    obtain ⟨b0, b1⟩ := (hb.grow hB).cells
    obtain ⟨r0, r1⟩ := (hr.grow hB).cells
    obtain ⟨rf0, rf1⟩ := (hr.grow hB).frozen
    go_region_held3 (fun W => W.cell? ⟨w.heap.size, 0, none⟩ = some (.int .i64 a.kind) ∧ W.cell? ⟨w.heap.size, 1, none⟩ = some (.int .i64 a.n) ∧ W.cell? ⟨w.heap.size + 1, 0, none⟩ = some (.int .i64 b.kind) ∧ W.cell? ⟨w.heap.size + 1, 1, none⟩ = some (.int .i64 b.n) ∧ W.cell? ⟨p2, 0, none⟩ = some (.func (.func 41) #[] #[]))
      (first | exact ⟨a0, a1, b0, b1, hpk2 _ hB⟩ | exact ⟨cset a0 (by omega), cset a1 (by omega), cset b0 (by omega), cset b1 (by omega), cset (hpk2 _ hB) (by omega)⟩)
      (first | (go_at_call 62; with_reducible refine (hc _).mono ?_; rintro e w2 ⟨rfl, hb2⟩; replace hB := hB.trans (hb2.mono hB.size); obtain ⟨a0, a1⟩ := (ha.grow hB).cells; obtain ⟨b0, b1⟩ := (hb.grow hB).cells; obtain ⟨r0, r1⟩ := (hr.grow hB).cells; obtain ⟨rf0, rf1⟩ := (hr.grow hB).frozen) | (go_at_call 41; with_reducible refine (hh _).mono ?_; rintro e w2 ⟨rfl, hb2⟩; replace hB := hB.trans (hb2.mono hB.size); obtain ⟨a0, a1⟩ := (ha.grow hB).cells; obtain ⟨b0, b1⟩ := (hb.grow hB).cells; obtain ⟨r0, r1⟩ := (hr.grow hB).cells; obtain ⟨rf0, rf1⟩ := (hr.grow hB).frozen) | (go_at_call 45; with_reducible refine (ht _).mono ?_; rintro e w2 ⟨rfl, hb2⟩; replace hB := hB.trans (hb2.mono hB.size); obtain ⟨a0, a1⟩ := (ha.grow hB).cells; obtain ⟨b0, b1⟩ := (hb.grow hB).cells; obtain ⟨r0, r1⟩ := (hr.grow hB).cells; obtain ⟨rf0, rf1⟩ := (hr.grow hB).frozen))
    all_goals
      go_wp2
      exact end_set (v := tru T) Tryz.results61 rfl (by omega) (bW2 w _ _) hB hr
  · rw [if_pos rfl]
    rw [h1] at hn
    have ht := fun W => truth_any B W
    clear h1 hc hpk2
    unfold vlV at *
    go_enter Tryz.func61, Tryz.ntmps61
    go_wp2_with (first | (go_at_call 59; with_reducible refine (hn _).mono ?_; rintro e w2 ⟨rfl, hb2⟩; replace hB := hB.trans (hb2.mono hB.size); obtain ⟨a0, a1⟩ := (ha.grow hB).cells; obtain ⟨b0, b1⟩ := (hb.grow hB).cells; obtain ⟨r0, r1⟩ := (hr.grow hB).cells; obtain ⟨rf0, rf1⟩ := (hr.grow hB).frozen; have pc := hpk _ hB) | (go_at_call 45; with_reducible refine (ht _).mono ?_; rintro e w2 ⟨rfl, hb2⟩; replace hB := hB.trans (hb2.mono hB.size); obtain ⟨a0, a1⟩ := (ha.grow hB).cells; obtain ⟨b0, b1⟩ := (hb.grow hB).cells; obtain ⟨r0, r1⟩ := (hr.grow hB).cells; obtain ⟨rf0, rf1⟩ := (hr.grow hB).frozen))
    exact end_set (v := tru B) Tryz.results61 rfl (by omega) (bW2 w _ _) hB hr
set_option maxRecDepth 100000 in
theorem hold_61 (n : Int) (w : World) : Calls Tryz.prog 42 #[.int .i64 n] w fun e w' => e = .returned (.bool (decide (0 ≤ n))) ∧ Below w.heap.size w w' := by
  go_enter Tryz.func42, Tryz.ntmps42
  go_wp2
  go_ret
  exact ⟨rfl, Below.refl _ _⟩
set_option maxRecDepth 100000 in
set_option maxHeartbeats 1000000 in
theorem cmp_61 (a b : Vl) (p p2 : Nat) (B : Bool) (w : World) (hp : w.cell? ⟨p, 0, none⟩ = some (.bool B)) (hp2 : w.cell? ⟨p2, 0, none⟩ = some (.func (.func 42) #[] #[]))
    (hc : noB a b = false → ∀ W, Calls Tryz.prog 62 #[vlV a, vlV b] W fun e w' => e = .returned (.int .i64 (ordI a b)) ∧ Below W.heap.size W w') :
    Calls Tryz.prog 61 #[vlV a, vlV b, .pointer (some ⟨p, 0, none⟩), .pointer (some ⟨p2, 0, none⟩)] w fun e w' => e = .returned (vlV (tru (if noB a b = true then B else (decide (0 ≤ ordI a b))))) ∧ Below w.heap.size w w' := by
  obtain ⟨ha, hb, hr⟩ := pW2 w a b
  have hB : Below (W2 w a b).heap.size (W2 w a b) (W2 w a b) := Below.refl _ _
  have hn := fun W => eitherNaN_b a b W
  have hpk : ∀ W, Below (W2 w a b).heap.size (W2 w a b) W → W.cell? ⟨p, 0, none⟩ = some (.bool B) := fun W h => keepC hp ((bW2 w a b).trans (h.mono (bW2 w a b).size))
  have hpk2 : ∀ W, Below (W2 w a b).heap.size (W2 w a b) W → W.cell? ⟨p2, 0, none⟩ = some (.func (.func 42) #[] #[]) := fun W h => keepC hp2 ((bW2 w a b).trans (h.mono (bW2 w a b).size))
  have hlt2 : p2 < w.heap.size := World.block_lt_of_cell? w _ hp2
  clear hp hp2
  cases h1 : noB a b
  · rw [if_neg (by simp)]
    replace hc := hc h1
    rw [h1] at hn
    have hh := fun W => hold_61 (ordI a b) W
    have ht := fun W => truth_any (decide (0 ≤ ordI a b)) W
    generalize (decide (0 ≤ ordI a b)) = T at *
    generalize ordI a b = n at *
    clear h1
    unfold vlV at *
    go_enter Tryz.func61, Tryz.ntmps61
    go_wp2_with (first | (go_at_call 59; with_reducible refine (hn _).mono ?_; rintro e w2 ⟨rfl, hb2⟩; replace hB := hB.trans (hb2.mono hB.size); obtain ⟨a0, a1⟩ := (ha.grow hB).cells; obtain ⟨b0, b1⟩ := (hb.grow hB).cells; obtain ⟨r0, r1⟩ := (hr.grow hB).cells; obtain ⟨rf0, rf1⟩ := (hr.grow hB).frozen))
    replace hB := hB.drew
    obtain ⟨a0, a1⟩ := (ha.grow hB).cells
    obtain ⟨b0, b1⟩ := (hb.grow hB).cells
    obtain ⟨r0, r1⟩ := (hr.grow hB).cells
    obtain ⟨rf0, rf1⟩ := (hr.grow hB).frozen
    go_region_held3 (fun W => W.cell? ⟨w.heap.size, 0, none⟩ = some (.int .i64 a.kind) ∧ W.cell? ⟨w.heap.size, 1, none⟩ = some (.int .i64 a.n) ∧ W.cell? ⟨w.heap.size + 1, 0, none⟩ = some (.int .i64 b.kind) ∧ W.cell? ⟨w.heap.size + 1, 1, none⟩ = some (.int .i64 b.n) ∧ W.cell? ⟨p2, 0, none⟩ = some (.func (.func 42) #[] #[]))
      (first | exact ⟨a0, a1, b0, b1, hpk2 _ hB⟩ | exact ⟨cset a0 (by omega), cset a1 (by omega), cset b0 (by omega), cset b1 (by omega), cset (hpk2 _ hB) (by omega)⟩)
      (first | (go_at_call 62; with_reducible refine (hc _).mono ?_; rintro e w2 ⟨rfl, hb2⟩; replace hB := hB.trans (hb2.mono hB.size); obtain ⟨a0, a1⟩ := (ha.grow hB).cells; obtain ⟨b0, b1⟩ := (hb.grow hB).cells; obtain ⟨r0, r1⟩ := (hr.grow hB).cells; obtain ⟨rf0, rf1⟩ := (hr.grow hB).frozen) | (go_at_call 42; with_reducible refine (hh _).mono ?_; rintro e w2 ⟨rfl, hb2⟩; replace hB := hB.trans (hb2.mono hB.size); obtain ⟨a0, a1⟩ := (ha.grow hB).cells; obtain ⟨b0, b1⟩ := (hb.grow hB).cells; obtain ⟨r0, r1⟩ := (hr.grow hB).cells; obtain ⟨rf0, rf1⟩ := (hr.grow hB).frozen) | (go_at_call 45; with_reducible refine (ht _).mono ?_; rintro e w2 ⟨rfl, hb2⟩; replace hB := hB.trans (hb2.mono hB.size); obtain ⟨a0, a1⟩ := (ha.grow hB).cells; obtain ⟨b0, b1⟩ := (hb.grow hB).cells; obtain ⟨r0, r1⟩ := (hr.grow hB).cells; obtain ⟨rf0, rf1⟩ := (hr.grow hB).frozen))
    all_goals
      go_wp2
      exact end_set (v := tru T) Tryz.results61 rfl (by omega) (bW2 w _ _) hB hr
  · rw [if_pos rfl]
    rw [h1] at hn
    have ht := fun W => truth_any B W
    clear h1 hc hpk2
    unfold vlV at *
    go_enter Tryz.func61, Tryz.ntmps61
    go_wp2_with (first | (go_at_call 59; with_reducible refine (hn _).mono ?_; rintro e w2 ⟨rfl, hb2⟩; replace hB := hB.trans (hb2.mono hB.size); obtain ⟨a0, a1⟩ := (ha.grow hB).cells; obtain ⟨b0, b1⟩ := (hb.grow hB).cells; obtain ⟨r0, r1⟩ := (hr.grow hB).cells; obtain ⟨rf0, rf1⟩ := (hr.grow hB).frozen; have pc := hpk _ hB) | (go_at_call 45; with_reducible refine (ht _).mono ?_; rintro e w2 ⟨rfl, hb2⟩; replace hB := hB.trans (hb2.mono hB.size); obtain ⟨a0, a1⟩ := (ha.grow hB).cells; obtain ⟨b0, b1⟩ := (hb.grow hB).cells; obtain ⟨r0, r1⟩ := (hr.grow hB).cells; obtain ⟨rf0, rf1⟩ := (hr.grow hB).frozen))
    exact end_set (v := tru B) Tryz.results61 rfl (by omega) (bW2 w _ _) hB hr
set_option maxRecDepth 100000 in
set_option maxHeartbeats 1000000 in
theorem unl_81 (a b : Vl) (p : Nat) (p2 : Nat) (v : Vl) (w : World) (hp : w.cell? ⟨p, 0, none⟩ = some (.func (.func 58) #[] #[.pointer (some ⟨p2, 0, none⟩)]))
    (hc : ¬ (a.kind = 2 ∨ b.kind = 2) → ∀ W, Below w.heap.size w W → Calls Tryz.prog 58 #[vlV a, vlV b, .pointer (some ⟨p2, 0, none⟩)] W fun e w' => e = .returned (vlV v) ∧ Below W.heap.size W w') :
    Calls Tryz.prog 63 #[vlV a, vlV b, .pointer (some ⟨p, 0, none⟩)] w fun e w' => e = .returned (vlV (nulls a b v)) ∧ Below w.heap.size w w' := by
  obtain ⟨ha, hb, hr⟩ := pW2 w a b
  have hB : Below (W2 w a b).heap.size (W2 w a b) (W2 w a b) := Below.refl _ _
  have hnu := fun W => null_b W
  have hp3 : (((w.alloc (.cells #[.int .i64 a.kind, .int .i64 a.n] 23)).alloc (.cells #[.int .i64 b.kind, .int .i64 b.n] 23)).alloc (.cells #[.int .i64 0, .int .i64 0] 23)).cell? ⟨p, 0, none⟩ = some (.func (.func 58) #[] #[.pointer (some ⟨p2, 0, none⟩)]) := keepC hp (bW2 w a b)
  by_cases h1 : a.kind = 2 ∨ b.kind = 2
  · have e : nulls a b v = nul := by rw [nulls, if_pos h1]
    rw [e]; clear e
    have h1b : ((a.kind == 2) = true) ∨ ((a.kind == 2) = false ∧ (b.kind == 2) = true) := by
      by_cases h : a.kind = 2
      · exact .inl (by simpa using h)
      · exact .inr ⟨by simpa using h, by simpa [h] using h1⟩
    clear h1 hc
    unfold vlV at *
    rcases h1b with h2 | ⟨h2, h3⟩
    · go_enter Tryz.func63, Tryz.ntmps63
      go_wp2_with (first | (go_at_call 12; with_reducible refine (hnu _).mono ?_; rintro e w2 ⟨rfl, hb2⟩; replace hB := hB.trans (hb2.mono hB.size); obtain ⟨a0, a1⟩ := (ha.grow hB).cells; obtain ⟨b0, b1⟩ := (hb.grow hB).cells; obtain ⟨r0, r1⟩ := (hr.grow hB).cells; obtain ⟨rf0, rf1⟩ := (hr.grow hB).frozen))
      exact end_set (v := nul) Tryz.results63 rfl (by omega) (bW2 w _ _) hB hr
    · go_enter Tryz.func63, Tryz.ntmps63
      go_wp2_with (first | (go_at_call 12; with_reducible refine (hnu _).mono ?_; rintro e w2 ⟨rfl, hb2⟩; replace hB := hB.trans (hb2.mono hB.size); obtain ⟨a0, a1⟩ := (ha.grow hB).cells; obtain ⟨b0, b1⟩ := (hb.grow hB).cells; obtain ⟨r0, r1⟩ := (hr.grow hB).cells; obtain ⟨rf0, rf1⟩ := (hr.grow hB).frozen))
      exact end_set (v := nul) Tryz.results63 rfl (by omega) (bW2 w _ _) hB hr
  · have e : nulls a b v = v := by rw [nulls, if_neg h1]
    rw [e]; clear e
    replace hc := hc h1 _ (bW2 w a b)
    have h2 : (a.kind == 2) = false := by simpa using fun h => h1 (.inl h)
    have h3 : (b.kind == 2) = false := by simpa using fun h => h1 (.inr h)
    clear h1
    unfold vlV at *
    go_enter Tryz.func63, Tryz.ntmps63
    go_wp2_with (first | (go_at_call 58; refine (hc).mono ?_; rintro e w2 ⟨rfl, hb2⟩; replace hB := hB.trans (hb2.mono hB.size); obtain ⟨a0, a1⟩ := (ha.grow hB).cells; obtain ⟨b0, b1⟩ := (hb.grow hB).cells; obtain ⟨r0, r1⟩ := (hr.grow hB).cells; obtain ⟨rf0, rf1⟩ := (hr.grow hB).frozen))
    exact end_set (v := v) Tryz.results63 rfl (by omega) (bW2 w _ _) hB hr
set_option maxRecDepth 100000 in
set_option maxHeartbeats 1000000 in
theorem unl_84 (a b : Vl) (p : Nat) (p2 p3 : Nat) (v : Vl) (w : World) (hp : w.cell? ⟨p, 0, none⟩ = some (.func (.func 61) #[] #[.pointer (some ⟨p2, 0, none⟩), .pointer (some ⟨p3, 0, none⟩)]))
    (hc : ¬ (a.kind = 2 ∨ b.kind = 2) → ∀ W, Below w.heap.size w W → Calls Tryz.prog 61 #[vlV a, vlV b, .pointer (some ⟨p2, 0, none⟩), .pointer (some ⟨p3, 0, none⟩)] W fun e w' => e = .returned (vlV v) ∧ Below W.heap.size W w') :
    Calls Tryz.prog 63 #[vlV a, vlV b, .pointer (some ⟨p, 0, none⟩)] w fun e w' => e = .returned (vlV (nulls a b v)) ∧ Below w.heap.size w w' := by
  obtain ⟨ha, hb, hr⟩ := pW2 w a b
  have hB : Below (W2 w a b).heap.size (W2 w a b) (W2 w a b) := Below.refl _ _
  have hnu := fun W => null_b W
  have hp3 : (((w.alloc (.cells #[.int .i64 a.kind, .int .i64 a.n] 23)).alloc (.cells #[.int .i64 b.kind, .int .i64 b.n] 23)).alloc (.cells #[.int .i64 0, .int .i64 0] 23)).cell? ⟨p, 0, none⟩ = some (.func (.func 61) #[] #[.pointer (some ⟨p2, 0, none⟩), .pointer (some ⟨p3, 0, none⟩)]) := keepC hp (bW2 w a b)
  by_cases h1 : a.kind = 2 ∨ b.kind = 2
  · have e : nulls a b v = nul := by rw [nulls, if_pos h1]
    rw [e]; clear e
    have h1b : ((a.kind == 2) = true) ∨ ((a.kind == 2) = false ∧ (b.kind == 2) = true) := by
      by_cases h : a.kind = 2
      · exact .inl (by simpa using h)
      · exact .inr ⟨by simpa using h, by simpa [h] using h1⟩
    clear h1 hc
    unfold vlV at *
    rcases h1b with h2 | ⟨h2, h3⟩
    · go_enter Tryz.func63, Tryz.ntmps63
      go_wp2_with (first | (go_at_call 12; with_reducible refine (hnu _).mono ?_; rintro e w2 ⟨rfl, hb2⟩; replace hB := hB.trans (hb2.mono hB.size); obtain ⟨a0, a1⟩ := (ha.grow hB).cells; obtain ⟨b0, b1⟩ := (hb.grow hB).cells; obtain ⟨r0, r1⟩ := (hr.grow hB).cells; obtain ⟨rf0, rf1⟩ := (hr.grow hB).frozen))
      exact end_set (v := nul) Tryz.results63 rfl (by omega) (bW2 w _ _) hB hr
    · go_enter Tryz.func63, Tryz.ntmps63
      go_wp2_with (first | (go_at_call 12; with_reducible refine (hnu _).mono ?_; rintro e w2 ⟨rfl, hb2⟩; replace hB := hB.trans (hb2.mono hB.size); obtain ⟨a0, a1⟩ := (ha.grow hB).cells; obtain ⟨b0, b1⟩ := (hb.grow hB).cells; obtain ⟨r0, r1⟩ := (hr.grow hB).cells; obtain ⟨rf0, rf1⟩ := (hr.grow hB).frozen))
      exact end_set (v := nul) Tryz.results63 rfl (by omega) (bW2 w _ _) hB hr
  · have e : nulls a b v = v := by rw [nulls, if_neg h1]
    rw [e]; clear e
    replace hc := hc h1 _ (bW2 w a b)
    have h2 : (a.kind == 2) = false := by simpa using fun h => h1 (.inl h)
    have h3 : (b.kind == 2) = false := by simpa using fun h => h1 (.inr h)
    clear h1
    unfold vlV at *
    go_enter Tryz.func63, Tryz.ntmps63
    go_wp2_with (first | (go_at_call 61; refine (hc).mono ?_; rintro e w2 ⟨rfl, hb2⟩; replace hB := hB.trans (hb2.mono hB.size); obtain ⟨a0, a1⟩ := (ha.grow hB).cells; obtain ⟨b0, b1⟩ := (hb.grow hB).cells; obtain ⟨r0, r1⟩ := (hr.grow hB).cells; obtain ⟨rf0, rf1⟩ := (hr.grow hB).frozen))
    exact end_set (v := v) Tryz.results63 rfl (by omega) (bW2 w _ _) hB hr
set_option maxRecDepth 100000 in
set_option maxHeartbeats 1000000 in
theorem unl_63 (a b : Vl) (p : Nat)  (v : Vl) (w : World) (hp : w.cell? ⟨p, 0, none⟩ = some (.func (.func 44) #[] #[]))
    (hc : ¬ (a.kind = 2 ∨ b.kind = 2) → ∀ W, Below w.heap.size w W → Calls Tryz.prog 44 #[vlV a, vlV b] W fun e w' => e = .returned (vlV v) ∧ Below W.heap.size W w') :
    Calls Tryz.prog 63 #[vlV a, vlV b, .pointer (some ⟨p, 0, none⟩)] w fun e w' => e = .returned (vlV (nulls a b v)) ∧ Below w.heap.size w w' := by
  obtain ⟨ha, hb, hr⟩ := pW2 w a b
  have hB : Below (W2 w a b).heap.size (W2 w a b) (W2 w a b) := Below.refl _ _
  have hnu := fun W => null_b W
  have hp3 : (((w.alloc (.cells #[.int .i64 a.kind, .int .i64 a.n] 23)).alloc (.cells #[.int .i64 b.kind, .int .i64 b.n] 23)).alloc (.cells #[.int .i64 0, .int .i64 0] 23)).cell? ⟨p, 0, none⟩ = some (.func (.func 44) #[] #[]) := keepC hp (bW2 w a b)
  by_cases h1 : a.kind = 2 ∨ b.kind = 2
  · have e : nulls a b v = nul := by rw [nulls, if_pos h1]
    rw [e]; clear e
    have h1b : ((a.kind == 2) = true) ∨ ((a.kind == 2) = false ∧ (b.kind == 2) = true) := by
      by_cases h : a.kind = 2
      · exact .inl (by simpa using h)
      · exact .inr ⟨by simpa using h, by simpa [h] using h1⟩
    clear h1 hc
    unfold vlV at *
    rcases h1b with h2 | ⟨h2, h3⟩
    · go_enter Tryz.func63, Tryz.ntmps63
      go_wp2_with (first | (go_at_call 12; with_reducible refine (hnu _).mono ?_; rintro e w2 ⟨rfl, hb2⟩; replace hB := hB.trans (hb2.mono hB.size); obtain ⟨a0, a1⟩ := (ha.grow hB).cells; obtain ⟨b0, b1⟩ := (hb.grow hB).cells; obtain ⟨r0, r1⟩ := (hr.grow hB).cells; obtain ⟨rf0, rf1⟩ := (hr.grow hB).frozen))
      exact end_set (v := nul) Tryz.results63 rfl (by omega) (bW2 w _ _) hB hr
    · go_enter Tryz.func63, Tryz.ntmps63
      go_wp2_with (first | (go_at_call 12; with_reducible refine (hnu _).mono ?_; rintro e w2 ⟨rfl, hb2⟩; replace hB := hB.trans (hb2.mono hB.size); obtain ⟨a0, a1⟩ := (ha.grow hB).cells; obtain ⟨b0, b1⟩ := (hb.grow hB).cells; obtain ⟨r0, r1⟩ := (hr.grow hB).cells; obtain ⟨rf0, rf1⟩ := (hr.grow hB).frozen))
      exact end_set (v := nul) Tryz.results63 rfl (by omega) (bW2 w _ _) hB hr
  · have e : nulls a b v = v := by rw [nulls, if_neg h1]
    rw [e]; clear e
    replace hc := hc h1 _ (bW2 w a b)
    have h2 : (a.kind == 2) = false := by simpa using fun h => h1 (.inl h)
    have h3 : (b.kind == 2) = false := by simpa using fun h => h1 (.inr h)
    clear h1
    unfold vlV at *
    go_enter Tryz.func63, Tryz.ntmps63
    go_wp2_with (first | (go_at_call 44; refine (hc).mono ?_; rintro e w2 ⟨rfl, hb2⟩; replace hB := hB.trans (hb2.mono hB.size); obtain ⟨a0, a1⟩ := (ha.grow hB).cells; obtain ⟨b0, b1⟩ := (hb.grow hB).cells; obtain ⟨r0, r1⟩ := (hr.grow hB).cells; obtain ⟨rf0, rf1⟩ := (hr.grow hB).frozen))
    exact end_set (v := v) Tryz.results63 rfl (by omega) (bW2 w _ _) hB hr
set_option maxRecDepth 100000 in
set_option maxHeartbeats 1000000 in
theorem unl_64 (a b : Vl) (p : Nat)  (v : Vl) (w : World) (hp : w.cell? ⟨p, 0, none⟩ = some (.func (.func 47) #[] #[]))
    (hc : ¬ (a.kind = 2 ∨ b.kind = 2) → ∀ W, Below w.heap.size w W → Calls Tryz.prog 47 #[vlV a, vlV b] W fun e w' => e = .returned (vlV v) ∧ Below W.heap.size W w') :
    Calls Tryz.prog 63 #[vlV a, vlV b, .pointer (some ⟨p, 0, none⟩)] w fun e w' => e = .returned (vlV (nulls a b v)) ∧ Below w.heap.size w w' := by
  obtain ⟨ha, hb, hr⟩ := pW2 w a b
  have hB : Below (W2 w a b).heap.size (W2 w a b) (W2 w a b) := Below.refl _ _
  have hnu := fun W => null_b W
  have hp3 : (((w.alloc (.cells #[.int .i64 a.kind, .int .i64 a.n] 23)).alloc (.cells #[.int .i64 b.kind, .int .i64 b.n] 23)).alloc (.cells #[.int .i64 0, .int .i64 0] 23)).cell? ⟨p, 0, none⟩ = some (.func (.func 47) #[] #[]) := keepC hp (bW2 w a b)
  by_cases h1 : a.kind = 2 ∨ b.kind = 2
  · have e : nulls a b v = nul := by rw [nulls, if_pos h1]
    rw [e]; clear e
    have h1b : ((a.kind == 2) = true) ∨ ((a.kind == 2) = false ∧ (b.kind == 2) = true) := by
      by_cases h : a.kind = 2
      · exact .inl (by simpa using h)
      · exact .inr ⟨by simpa using h, by simpa [h] using h1⟩
    clear h1 hc
    unfold vlV at *
    rcases h1b with h2 | ⟨h2, h3⟩
    · go_enter Tryz.func63, Tryz.ntmps63
      go_wp2_with (first | (go_at_call 12; with_reducible refine (hnu _).mono ?_; rintro e w2 ⟨rfl, hb2⟩; replace hB := hB.trans (hb2.mono hB.size); obtain ⟨a0, a1⟩ := (ha.grow hB).cells; obtain ⟨b0, b1⟩ := (hb.grow hB).cells; obtain ⟨r0, r1⟩ := (hr.grow hB).cells; obtain ⟨rf0, rf1⟩ := (hr.grow hB).frozen))
      exact end_set (v := nul) Tryz.results63 rfl (by omega) (bW2 w _ _) hB hr
    · go_enter Tryz.func63, Tryz.ntmps63
      go_wp2_with (first | (go_at_call 12; with_reducible refine (hnu _).mono ?_; rintro e w2 ⟨rfl, hb2⟩; replace hB := hB.trans (hb2.mono hB.size); obtain ⟨a0, a1⟩ := (ha.grow hB).cells; obtain ⟨b0, b1⟩ := (hb.grow hB).cells; obtain ⟨r0, r1⟩ := (hr.grow hB).cells; obtain ⟨rf0, rf1⟩ := (hr.grow hB).frozen))
      exact end_set (v := nul) Tryz.results63 rfl (by omega) (bW2 w _ _) hB hr
  · have e : nulls a b v = v := by rw [nulls, if_neg h1]
    rw [e]; clear e
    replace hc := hc h1 _ (bW2 w a b)
    have h2 : (a.kind == 2) = false := by simpa using fun h => h1 (.inl h)
    have h3 : (b.kind == 2) = false := by simpa using fun h => h1 (.inr h)
    clear h1
    unfold vlV at *
    go_enter Tryz.func63, Tryz.ntmps63
    go_wp2_with (first | (go_at_call 47; refine (hc).mono ?_; rintro e w2 ⟨rfl, hb2⟩; replace hB := hB.trans (hb2.mono hB.size); obtain ⟨a0, a1⟩ := (ha.grow hB).cells; obtain ⟨b0, b1⟩ := (hb.grow hB).cells; obtain ⟨r0, r1⟩ := (hr.grow hB).cells; obtain ⟨rf0, rf1⟩ := (hr.grow hB).frozen))
    exact end_set (v := v) Tryz.results63 rfl (by omega) (bW2 w _ _) hB hr
end Go.Proofs.YtfbiaffdfolbgabGreatDoor
