/- Values: the contracts of what compared and unlessNull make. -/
import Derived.Test.YtfbiaffdfolbgaaGreatDoorVi
namespace Go.Proofs.YtfbiaffdfolbgaaGreatDoor
set_option linter.unusedVariables false
open Go.RowKit
attribute [local go_sem ↓] Go.wp_at_zero Go.wp_at_succ
set_option maxRecDepth 100000 in
theorem hold_56 (n : Int) (w : World) : Calls Tryz.prog 56 #[.int .i64 n] w fun e w' => e = .returned (.bool (n == 0)) ∧ Below w.heap.size w w' := by
  go_enter Tryz.func56, Tryz.ntmps56
  go_wp2
  go_ret
  exact ⟨rfl, Below.refl _ _⟩
set_option maxRecDepth 100000 in
set_option maxHeartbeats 1000000 in
theorem cmp_56 (a b : Vl) (p p2 : Nat) (B : Bool) (w : World) (hp : w.cell? ⟨p, 0, none⟩ = some (.bool B)) (hp2 : w.cell? ⟨p2, 0, none⟩ = some (.func (.func 56) #[] #[]))
    (hc : noB a b = false → ∀ W, Calls Tryz.prog 85 #[vlV a, vlV b] W fun e w' => e = .returned (.int .i64 (ordI a b)) ∧ Below W.heap.size W w') :
    Calls Tryz.prog 84 #[vlV a, vlV b, .pointer (some ⟨p, 0, none⟩), .pointer (some ⟨p2, 0, none⟩)] w fun e w' => e = .returned (vlV (tru (if noB a b = true then B else (ordI a b == 0)))) ∧ Below w.heap.size w w' := by
  obtain ⟨ha, hb, hr⟩ := pW2 w a b
  have hB : Below (W2 w a b).heap.size (W2 w a b) (W2 w a b) := Below.refl _ _
  have hn := fun W => eitherNaN_b a b W
  have hpk : ∀ W, Below (W2 w a b).heap.size (W2 w a b) W → W.cell? ⟨p, 0, none⟩ = some (.bool B) := fun W h => keepC hp ((bW2 w a b).trans (h.mono (bW2 w a b).size))
  have hpk2 : ∀ W, Below (W2 w a b).heap.size (W2 w a b) W → W.cell? ⟨p2, 0, none⟩ = some (.func (.func 56) #[] #[]) := fun W h => keepC hp2 ((bW2 w a b).trans (h.mono (bW2 w a b).size))
  have hlt2 : p2 < w.heap.size := World.block_lt_of_cell? w _ hp2
  clear hp hp2
  cases h1 : noB a b
  · rw [if_neg (by simp)]
    replace hc := hc h1
    rw [h1] at hn
    have hh := fun W => hold_56 (ordI a b) W
    have ht := fun W => truth_any (ordI a b == 0) W
    generalize (ordI a b == 0) = T at *
    generalize ordI a b = n at *
    clear h1
    unfold vlV at *
    go_enter Tryz.func84, Tryz.ntmps84
    go_wp2_with (first | (go_at_call 82; with_reducible refine (hn _).mono ?_; rintro e w2 ⟨rfl, hb2⟩; replace hB := hB.trans (hb2.mono hB.size); obtain ⟨a0, a1⟩ := (ha.grow hB).cells; obtain ⟨b0, b1⟩ := (hb.grow hB).cells; obtain ⟨r0, r1⟩ := (hr.grow hB).cells; obtain ⟨rf0, rf1⟩ := (hr.grow hB).frozen))
    replace hB := hB.drew
    obtain ⟨a0, a1⟩ := (ha.grow hB).cells
    obtain ⟨b0, b1⟩ := (hb.grow hB).cells
    obtain ⟨r0, r1⟩ := (hr.grow hB).cells
    obtain ⟨rf0, rf1⟩ := (hr.grow hB).frozen
    go_region_held3 (fun W => W.cell? ⟨w.heap.size, 0, none⟩ = some (.int .i64 a.kind) ∧ W.cell? ⟨w.heap.size, 1, none⟩ = some (.int .i64 a.n) ∧ W.cell? ⟨w.heap.size + 1, 0, none⟩ = some (.int .i64 b.kind) ∧ W.cell? ⟨w.heap.size + 1, 1, none⟩ = some (.int .i64 b.n) ∧ W.cell? ⟨p2, 0, none⟩ = some (.func (.func 56) #[] #[]))
      (first | exact ⟨a0, a1, b0, b1, hpk2 _ hB⟩ | exact ⟨cset a0 (by omega), cset a1 (by omega), cset b0 (by omega), cset b1 (by omega), cset (hpk2 _ hB) (by omega)⟩)
      (first | (go_at_call 85; with_reducible refine (hc _).mono ?_; rintro e w2 ⟨rfl, hb2⟩; replace hB := hB.trans (hb2.mono hB.size); obtain ⟨a0, a1⟩ := (ha.grow hB).cells; obtain ⟨b0, b1⟩ := (hb.grow hB).cells; obtain ⟨r0, r1⟩ := (hr.grow hB).cells; obtain ⟨rf0, rf1⟩ := (hr.grow hB).frozen) | (go_at_call 56; with_reducible refine (hh _).mono ?_; rintro e w2 ⟨rfl, hb2⟩; replace hB := hB.trans (hb2.mono hB.size); obtain ⟨a0, a1⟩ := (ha.grow hB).cells; obtain ⟨b0, b1⟩ := (hb.grow hB).cells; obtain ⟨r0, r1⟩ := (hr.grow hB).cells; obtain ⟨rf0, rf1⟩ := (hr.grow hB).frozen) | (go_at_call 20; with_reducible refine (ht _).mono ?_; rintro e w2 ⟨rfl, hb2⟩; replace hB := hB.trans (hb2.mono hB.size); obtain ⟨a0, a1⟩ := (ha.grow hB).cells; obtain ⟨b0, b1⟩ := (hb.grow hB).cells; obtain ⟨r0, r1⟩ := (hr.grow hB).cells; obtain ⟨rf0, rf1⟩ := (hr.grow hB).frozen))
    all_goals
      go_wp2
      exact end_set (v := tru T) Tryz.results84 rfl (by omega) (bW2 w _ _) hB hr
  · rw [if_pos rfl]
    rw [h1] at hn
    have ht := fun W => truth_any B W
    clear h1 hc hpk2
    unfold vlV at *
    go_enter Tryz.func84, Tryz.ntmps84
    go_wp2_with (first | (go_at_call 82; with_reducible refine (hn _).mono ?_; rintro e w2 ⟨rfl, hb2⟩; replace hB := hB.trans (hb2.mono hB.size); obtain ⟨a0, a1⟩ := (ha.grow hB).cells; obtain ⟨b0, b1⟩ := (hb.grow hB).cells; obtain ⟨r0, r1⟩ := (hr.grow hB).cells; obtain ⟨rf0, rf1⟩ := (hr.grow hB).frozen; have pc := hpk _ hB) | (go_at_call 20; with_reducible refine (ht _).mono ?_; rintro e w2 ⟨rfl, hb2⟩; replace hB := hB.trans (hb2.mono hB.size); obtain ⟨a0, a1⟩ := (ha.grow hB).cells; obtain ⟨b0, b1⟩ := (hb.grow hB).cells; obtain ⟨r0, r1⟩ := (hr.grow hB).cells; obtain ⟨rf0, rf1⟩ := (hr.grow hB).frozen))
    exact end_set (v := tru B) Tryz.results84 rfl (by omega) (bW2 w _ _) hB hr
set_option maxRecDepth 100000 in
theorem hold_57 (n : Int) (w : World) : Calls Tryz.prog 57 #[.int .i64 n] w fun e w' => e = .returned (.bool (n != 0)) ∧ Below w.heap.size w w' := by
  go_enter Tryz.func57, Tryz.ntmps57
  go_wp2
  go_ret
  exact ⟨rfl, Below.refl _ _⟩
set_option maxRecDepth 100000 in
set_option maxHeartbeats 1000000 in
theorem cmp_57 (a b : Vl) (p p2 : Nat) (B : Bool) (w : World) (hp : w.cell? ⟨p, 0, none⟩ = some (.bool B)) (hp2 : w.cell? ⟨p2, 0, none⟩ = some (.func (.func 57) #[] #[]))
    (hc : noB a b = false → ∀ W, Calls Tryz.prog 85 #[vlV a, vlV b] W fun e w' => e = .returned (.int .i64 (ordI a b)) ∧ Below W.heap.size W w') :
    Calls Tryz.prog 84 #[vlV a, vlV b, .pointer (some ⟨p, 0, none⟩), .pointer (some ⟨p2, 0, none⟩)] w fun e w' => e = .returned (vlV (tru (if noB a b = true then B else (ordI a b != 0)))) ∧ Below w.heap.size w w' := by
  obtain ⟨ha, hb, hr⟩ := pW2 w a b
  have hB : Below (W2 w a b).heap.size (W2 w a b) (W2 w a b) := Below.refl _ _
  have hn := fun W => eitherNaN_b a b W
  have hpk : ∀ W, Below (W2 w a b).heap.size (W2 w a b) W → W.cell? ⟨p, 0, none⟩ = some (.bool B) := fun W h => keepC hp ((bW2 w a b).trans (h.mono (bW2 w a b).size))
  have hpk2 : ∀ W, Below (W2 w a b).heap.size (W2 w a b) W → W.cell? ⟨p2, 0, none⟩ = some (.func (.func 57) #[] #[]) := fun W h => keepC hp2 ((bW2 w a b).trans (h.mono (bW2 w a b).size))
  have hlt2 : p2 < w.heap.size := World.block_lt_of_cell? w _ hp2
  clear hp hp2
  cases h1 : noB a b
  · rw [if_neg (by simp)]
    replace hc := hc h1
    rw [h1] at hn
    have hh := fun W => hold_57 (ordI a b) W
    have ht := fun W => truth_any (ordI a b != 0) W
    generalize (ordI a b != 0) = T at *
    generalize ordI a b = n at *
    clear h1
    unfold vlV at *
    go_enter Tryz.func84, Tryz.ntmps84
    go_wp2_with (first | (go_at_call 82; with_reducible refine (hn _).mono ?_; rintro e w2 ⟨rfl, hb2⟩; replace hB := hB.trans (hb2.mono hB.size); obtain ⟨a0, a1⟩ := (ha.grow hB).cells; obtain ⟨b0, b1⟩ := (hb.grow hB).cells; obtain ⟨r0, r1⟩ := (hr.grow hB).cells; obtain ⟨rf0, rf1⟩ := (hr.grow hB).frozen))
    replace hB := hB.drew
    obtain ⟨a0, a1⟩ := (ha.grow hB).cells
    obtain ⟨b0, b1⟩ := (hb.grow hB).cells
    obtain ⟨r0, r1⟩ := (hr.grow hB).cells
    obtain ⟨rf0, rf1⟩ := (hr.grow hB).frozen
    go_region_held3 (fun W => W.cell? ⟨w.heap.size, 0, none⟩ = some (.int .i64 a.kind) ∧ W.cell? ⟨w.heap.size, 1, none⟩ = some (.int .i64 a.n) ∧ W.cell? ⟨w.heap.size + 1, 0, none⟩ = some (.int .i64 b.kind) ∧ W.cell? ⟨w.heap.size + 1, 1, none⟩ = some (.int .i64 b.n) ∧ W.cell? ⟨p2, 0, none⟩ = some (.func (.func 57) #[] #[]))
      (first | exact ⟨a0, a1, b0, b1, hpk2 _ hB⟩ | exact ⟨cset a0 (by omega), cset a1 (by omega), cset b0 (by omega), cset b1 (by omega), cset (hpk2 _ hB) (by omega)⟩)
      (first | (go_at_call 85; with_reducible refine (hc _).mono ?_; rintro e w2 ⟨rfl, hb2⟩; replace hB := hB.trans (hb2.mono hB.size); obtain ⟨a0, a1⟩ := (ha.grow hB).cells; obtain ⟨b0, b1⟩ := (hb.grow hB).cells; obtain ⟨r0, r1⟩ := (hr.grow hB).cells; obtain ⟨rf0, rf1⟩ := (hr.grow hB).frozen) | (go_at_call 57; with_reducible refine (hh _).mono ?_; rintro e w2 ⟨rfl, hb2⟩; replace hB := hB.trans (hb2.mono hB.size); obtain ⟨a0, a1⟩ := (ha.grow hB).cells; obtain ⟨b0, b1⟩ := (hb.grow hB).cells; obtain ⟨r0, r1⟩ := (hr.grow hB).cells; obtain ⟨rf0, rf1⟩ := (hr.grow hB).frozen) | (go_at_call 20; with_reducible refine (ht _).mono ?_; rintro e w2 ⟨rfl, hb2⟩; replace hB := hB.trans (hb2.mono hB.size); obtain ⟨a0, a1⟩ := (ha.grow hB).cells; obtain ⟨b0, b1⟩ := (hb.grow hB).cells; obtain ⟨r0, r1⟩ := (hr.grow hB).cells; obtain ⟨rf0, rf1⟩ := (hr.grow hB).frozen))
    all_goals
      go_wp2
      exact end_set (v := tru T) Tryz.results84 rfl (by omega) (bW2 w _ _) hB hr
  · rw [if_pos rfl]
    rw [h1] at hn
    have ht := fun W => truth_any B W
    clear h1 hc hpk2
    unfold vlV at *
    go_enter Tryz.func84, Tryz.ntmps84
    go_wp2_with (first | (go_at_call 82; with_reducible refine (hn _).mono ?_; rintro e w2 ⟨rfl, hb2⟩; replace hB := hB.trans (hb2.mono hB.size); obtain ⟨a0, a1⟩ := (ha.grow hB).cells; obtain ⟨b0, b1⟩ := (hb.grow hB).cells; obtain ⟨r0, r1⟩ := (hr.grow hB).cells; obtain ⟨rf0, rf1⟩ := (hr.grow hB).frozen; have pc := hpk _ hB) | (go_at_call 20; with_reducible refine (ht _).mono ?_; rintro e w2 ⟨rfl, hb2⟩; replace hB := hB.trans (hb2.mono hB.size); obtain ⟨a0, a1⟩ := (ha.grow hB).cells; obtain ⟨b0, b1⟩ := (hb.grow hB).cells; obtain ⟨r0, r1⟩ := (hr.grow hB).cells; obtain ⟨rf0, rf1⟩ := (hr.grow hB).frozen))
    exact end_set (v := tru B) Tryz.results84 rfl (by omega) (bW2 w _ _) hB hr
set_option maxRecDepth 100000 in
theorem hold_58 (n : Int) (w : World) : Calls Tryz.prog 58 #[.int .i64 n] w fun e w' => e = .returned (.bool (decide (n < 0))) ∧ Below w.heap.size w w' := by
  go_enter Tryz.func58, Tryz.ntmps58
  go_wp2
  go_ret
  exact ⟨rfl, Below.refl _ _⟩
set_option maxRecDepth 100000 in
set_option maxHeartbeats 1000000 in
theorem cmp_58 (a b : Vl) (p p2 : Nat) (B : Bool) (w : World) (hp : w.cell? ⟨p, 0, none⟩ = some (.bool B)) (hp2 : w.cell? ⟨p2, 0, none⟩ = some (.func (.func 58) #[] #[]))
    (hc : noB a b = false → ∀ W, Calls Tryz.prog 85 #[vlV a, vlV b] W fun e w' => e = .returned (.int .i64 (ordI a b)) ∧ Below W.heap.size W w') :
    Calls Tryz.prog 84 #[vlV a, vlV b, .pointer (some ⟨p, 0, none⟩), .pointer (some ⟨p2, 0, none⟩)] w fun e w' => e = .returned (vlV (tru (if noB a b = true then B else (decide (ordI a b < 0))))) ∧ Below w.heap.size w w' := by
  obtain ⟨ha, hb, hr⟩ := pW2 w a b
  have hB : Below (W2 w a b).heap.size (W2 w a b) (W2 w a b) := Below.refl _ _
  have hn := fun W => eitherNaN_b a b W
  have hpk : ∀ W, Below (W2 w a b).heap.size (W2 w a b) W → W.cell? ⟨p, 0, none⟩ = some (.bool B) := fun W h => keepC hp ((bW2 w a b).trans (h.mono (bW2 w a b).size))
  have hpk2 : ∀ W, Below (W2 w a b).heap.size (W2 w a b) W → W.cell? ⟨p2, 0, none⟩ = some (.func (.func 58) #[] #[]) := fun W h => keepC hp2 ((bW2 w a b).trans (h.mono (bW2 w a b).size))
  have hlt2 : p2 < w.heap.size := World.block_lt_of_cell? w _ hp2
  clear hp hp2
  cases h1 : noB a b
  · rw [if_neg (by simp)]
    replace hc := hc h1
    rw [h1] at hn
    have hh := fun W => hold_58 (ordI a b) W
    have ht := fun W => truth_any (decide (ordI a b < 0)) W
    generalize (decide (ordI a b < 0)) = T at *
    generalize ordI a b = n at *
    clear h1
    unfold vlV at *
    go_enter Tryz.func84, Tryz.ntmps84
    go_wp2_with (first | (go_at_call 82; with_reducible refine (hn _).mono ?_; rintro e w2 ⟨rfl, hb2⟩; replace hB := hB.trans (hb2.mono hB.size); obtain ⟨a0, a1⟩ := (ha.grow hB).cells; obtain ⟨b0, b1⟩ := (hb.grow hB).cells; obtain ⟨r0, r1⟩ := (hr.grow hB).cells; obtain ⟨rf0, rf1⟩ := (hr.grow hB).frozen))
    replace hB := hB.drew
    obtain ⟨a0, a1⟩ := (ha.grow hB).cells
    obtain ⟨b0, b1⟩ := (hb.grow hB).cells
    obtain ⟨r0, r1⟩ := (hr.grow hB).cells
    obtain ⟨rf0, rf1⟩ := (hr.grow hB).frozen
    go_region_held3 (fun W => W.cell? ⟨w.heap.size, 0, none⟩ = some (.int .i64 a.kind) ∧ W.cell? ⟨w.heap.size, 1, none⟩ = some (.int .i64 a.n) ∧ W.cell? ⟨w.heap.size + 1, 0, none⟩ = some (.int .i64 b.kind) ∧ W.cell? ⟨w.heap.size + 1, 1, none⟩ = some (.int .i64 b.n) ∧ W.cell? ⟨p2, 0, none⟩ = some (.func (.func 58) #[] #[]))
      (first | exact ⟨a0, a1, b0, b1, hpk2 _ hB⟩ | exact ⟨cset a0 (by omega), cset a1 (by omega), cset b0 (by omega), cset b1 (by omega), cset (hpk2 _ hB) (by omega)⟩)
      (first | (go_at_call 85; with_reducible refine (hc _).mono ?_; rintro e w2 ⟨rfl, hb2⟩; replace hB := hB.trans (hb2.mono hB.size); obtain ⟨a0, a1⟩ := (ha.grow hB).cells; obtain ⟨b0, b1⟩ := (hb.grow hB).cells; obtain ⟨r0, r1⟩ := (hr.grow hB).cells; obtain ⟨rf0, rf1⟩ := (hr.grow hB).frozen) | (go_at_call 58; with_reducible refine (hh _).mono ?_; rintro e w2 ⟨rfl, hb2⟩; replace hB := hB.trans (hb2.mono hB.size); obtain ⟨a0, a1⟩ := (ha.grow hB).cells; obtain ⟨b0, b1⟩ := (hb.grow hB).cells; obtain ⟨r0, r1⟩ := (hr.grow hB).cells; obtain ⟨rf0, rf1⟩ := (hr.grow hB).frozen) | (go_at_call 20; with_reducible refine (ht _).mono ?_; rintro e w2 ⟨rfl, hb2⟩; replace hB := hB.trans (hb2.mono hB.size); obtain ⟨a0, a1⟩ := (ha.grow hB).cells; obtain ⟨b0, b1⟩ := (hb.grow hB).cells; obtain ⟨r0, r1⟩ := (hr.grow hB).cells; obtain ⟨rf0, rf1⟩ := (hr.grow hB).frozen))
    all_goals
      go_wp2
      exact end_set (v := tru T) Tryz.results84 rfl (by omega) (bW2 w _ _) hB hr
  · rw [if_pos rfl]
    rw [h1] at hn
    have ht := fun W => truth_any B W
    clear h1 hc hpk2
    unfold vlV at *
    go_enter Tryz.func84, Tryz.ntmps84
    go_wp2_with (first | (go_at_call 82; with_reducible refine (hn _).mono ?_; rintro e w2 ⟨rfl, hb2⟩; replace hB := hB.trans (hb2.mono hB.size); obtain ⟨a0, a1⟩ := (ha.grow hB).cells; obtain ⟨b0, b1⟩ := (hb.grow hB).cells; obtain ⟨r0, r1⟩ := (hr.grow hB).cells; obtain ⟨rf0, rf1⟩ := (hr.grow hB).frozen; have pc := hpk _ hB) | (go_at_call 20; with_reducible refine (ht _).mono ?_; rintro e w2 ⟨rfl, hb2⟩; replace hB := hB.trans (hb2.mono hB.size); obtain ⟨a0, a1⟩ := (ha.grow hB).cells; obtain ⟨b0, b1⟩ := (hb.grow hB).cells; obtain ⟨r0, r1⟩ := (hr.grow hB).cells; obtain ⟨rf0, rf1⟩ := (hr.grow hB).frozen))
    exact end_set (v := tru B) Tryz.results84 rfl (by omega) (bW2 w _ _) hB hr
set_option maxRecDepth 100000 in
theorem hold_59 (n : Int) (w : World) : Calls Tryz.prog 59 #[.int .i64 n] w fun e w' => e = .returned (.bool (decide (n ≤ 0))) ∧ Below w.heap.size w w' := by
  go_enter Tryz.func59, Tryz.ntmps59
  go_wp2
  go_ret
  exact ⟨rfl, Below.refl _ _⟩
set_option maxRecDepth 100000 in
set_option maxHeartbeats 1000000 in
theorem cmp_59 (a b : Vl) (p p2 : Nat) (B : Bool) (w : World) (hp : w.cell? ⟨p, 0, none⟩ = some (.bool B)) (hp2 : w.cell? ⟨p2, 0, none⟩ = some (.func (.func 59) #[] #[]))
    (hc : noB a b = false → ∀ W, Calls Tryz.prog 85 #[vlV a, vlV b] W fun e w' => e = .returned (.int .i64 (ordI a b)) ∧ Below W.heap.size W w') :
    Calls Tryz.prog 84 #[vlV a, vlV b, .pointer (some ⟨p, 0, none⟩), .pointer (some ⟨p2, 0, none⟩)] w fun e w' => e = .returned (vlV (tru (if noB a b = true then B else (decide (ordI a b ≤ 0))))) ∧ Below w.heap.size w w' := by
  obtain ⟨ha, hb, hr⟩ := pW2 w a b
  have hB : Below (W2 w a b).heap.size (W2 w a b) (W2 w a b) := Below.refl _ _
  have hn := fun W => eitherNaN_b a b W
  have hpk : ∀ W, Below (W2 w a b).heap.size (W2 w a b) W → W.cell? ⟨p, 0, none⟩ = some (.bool B) := fun W h => keepC hp ((bW2 w a b).trans (h.mono (bW2 w a b).size))
  have hpk2 : ∀ W, Below (W2 w a b).heap.size (W2 w a b) W → W.cell? ⟨p2, 0, none⟩ = some (.func (.func 59) #[] #[]) := fun W h => keepC hp2 ((bW2 w a b).trans (h.mono (bW2 w a b).size))
  have hlt2 : p2 < w.heap.size := World.block_lt_of_cell? w _ hp2
  clear hp hp2
  cases h1 : noB a b
  · rw [if_neg (by simp)]
    replace hc := hc h1
    rw [h1] at hn
    have hh := fun W => hold_59 (ordI a b) W
    have ht := fun W => truth_any (decide (ordI a b ≤ 0)) W
    generalize (decide (ordI a b ≤ 0)) = T at *
    generalize ordI a b = n at *
    clear h1
    unfold vlV at *
    go_enter Tryz.func84, Tryz.ntmps84
    go_wp2_with (first | (go_at_call 82; with_reducible refine (hn _).mono ?_; rintro e w2 ⟨rfl, hb2⟩; replace hB := hB.trans (hb2.mono hB.size); obtain ⟨a0, a1⟩ := (ha.grow hB).cells; obtain ⟨b0, b1⟩ := (hb.grow hB).cells; obtain ⟨r0, r1⟩ := (hr.grow hB).cells; obtain ⟨rf0, rf1⟩ := (hr.grow hB).frozen))
    replace hB := hB.drew
    obtain ⟨a0, a1⟩ := (ha.grow hB).cells
    obtain ⟨b0, b1⟩ := (hb.grow hB).cells
    obtain ⟨r0, r1⟩ := (hr.grow hB).cells
    obtain ⟨rf0, rf1⟩ := (hr.grow hB).frozen
    go_region_held3 (fun W => W.cell? ⟨w.heap.size, 0, none⟩ = some (.int .i64 a.kind) ∧ W.cell? ⟨w.heap.size, 1, none⟩ = some (.int .i64 a.n) ∧ W.cell? ⟨w.heap.size + 1, 0, none⟩ = some (.int .i64 b.kind) ∧ W.cell? ⟨w.heap.size + 1, 1, none⟩ = some (.int .i64 b.n) ∧ W.cell? ⟨p2, 0, none⟩ = some (.func (.func 59) #[] #[]))
      (first | exact ⟨a0, a1, b0, b1, hpk2 _ hB⟩ | exact ⟨cset a0 (by omega), cset a1 (by omega), cset b0 (by omega), cset b1 (by omega), cset (hpk2 _ hB) (by omega)⟩)
      (first | (go_at_call 85; with_reducible refine (hc _).mono ?_; rintro e w2 ⟨rfl, hb2⟩; replace hB := hB.trans (hb2.mono hB.size); obtain ⟨a0, a1⟩ := (ha.grow hB).cells; obtain ⟨b0, b1⟩ := (hb.grow hB).cells; obtain ⟨r0, r1⟩ := (hr.grow hB).cells; obtain ⟨rf0, rf1⟩ := (hr.grow hB).frozen) | (go_at_call 59; with_reducible refine (hh _).mono ?_; rintro e w2 ⟨rfl, hb2⟩; replace hB := hB.trans (hb2.mono hB.size); obtain ⟨a0, a1⟩ := (ha.grow hB).cells; obtain ⟨b0, b1⟩ := (hb.grow hB).cells; obtain ⟨r0, r1⟩ := (hr.grow hB).cells; obtain ⟨rf0, rf1⟩ := (hr.grow hB).frozen) | (go_at_call 20; with_reducible refine (ht _).mono ?_; rintro e w2 ⟨rfl, hb2⟩; replace hB := hB.trans (hb2.mono hB.size); obtain ⟨a0, a1⟩ := (ha.grow hB).cells; obtain ⟨b0, b1⟩ := (hb.grow hB).cells; obtain ⟨r0, r1⟩ := (hr.grow hB).cells; obtain ⟨rf0, rf1⟩ := (hr.grow hB).frozen))
    all_goals
      go_wp2
      exact end_set (v := tru T) Tryz.results84 rfl (by omega) (bW2 w _ _) hB hr
  · rw [if_pos rfl]
    rw [h1] at hn
    have ht := fun W => truth_any B W
    clear h1 hc hpk2
    unfold vlV at *
    go_enter Tryz.func84, Tryz.ntmps84
    go_wp2_with (first | (go_at_call 82; with_reducible refine (hn _).mono ?_; rintro e w2 ⟨rfl, hb2⟩; replace hB := hB.trans (hb2.mono hB.size); obtain ⟨a0, a1⟩ := (ha.grow hB).cells; obtain ⟨b0, b1⟩ := (hb.grow hB).cells; obtain ⟨r0, r1⟩ := (hr.grow hB).cells; obtain ⟨rf0, rf1⟩ := (hr.grow hB).frozen; have pc := hpk _ hB) | (go_at_call 20; with_reducible refine (ht _).mono ?_; rintro e w2 ⟨rfl, hb2⟩; replace hB := hB.trans (hb2.mono hB.size); obtain ⟨a0, a1⟩ := (ha.grow hB).cells; obtain ⟨b0, b1⟩ := (hb.grow hB).cells; obtain ⟨r0, r1⟩ := (hr.grow hB).cells; obtain ⟨rf0, rf1⟩ := (hr.grow hB).frozen))
    exact end_set (v := tru B) Tryz.results84 rfl (by omega) (bW2 w _ _) hB hr
set_option maxRecDepth 100000 in
theorem hold_60 (n : Int) (w : World) : Calls Tryz.prog 60 #[.int .i64 n] w fun e w' => e = .returned (.bool (decide (0 < n))) ∧ Below w.heap.size w w' := by
  go_enter Tryz.func60, Tryz.ntmps60
  go_wp2
  go_ret
  exact ⟨rfl, Below.refl _ _⟩
set_option maxRecDepth 100000 in
set_option maxHeartbeats 1000000 in
theorem cmp_60 (a b : Vl) (p p2 : Nat) (B : Bool) (w : World) (hp : w.cell? ⟨p, 0, none⟩ = some (.bool B)) (hp2 : w.cell? ⟨p2, 0, none⟩ = some (.func (.func 60) #[] #[]))
    (hc : noB a b = false → ∀ W, Calls Tryz.prog 85 #[vlV a, vlV b] W fun e w' => e = .returned (.int .i64 (ordI a b)) ∧ Below W.heap.size W w') :
    Calls Tryz.prog 84 #[vlV a, vlV b, .pointer (some ⟨p, 0, none⟩), .pointer (some ⟨p2, 0, none⟩)] w fun e w' => e = .returned (vlV (tru (if noB a b = true then B else (decide (0 < ordI a b))))) ∧ Below w.heap.size w w' := by
  obtain ⟨ha, hb, hr⟩ := pW2 w a b
  have hB : Below (W2 w a b).heap.size (W2 w a b) (W2 w a b) := Below.refl _ _
  have hn := fun W => eitherNaN_b a b W
  have hpk : ∀ W, Below (W2 w a b).heap.size (W2 w a b) W → W.cell? ⟨p, 0, none⟩ = some (.bool B) := fun W h => keepC hp ((bW2 w a b).trans (h.mono (bW2 w a b).size))
  have hpk2 : ∀ W, Below (W2 w a b).heap.size (W2 w a b) W → W.cell? ⟨p2, 0, none⟩ = some (.func (.func 60) #[] #[]) := fun W h => keepC hp2 ((bW2 w a b).trans (h.mono (bW2 w a b).size))
  have hlt2 : p2 < w.heap.size := World.block_lt_of_cell? w _ hp2
  clear hp hp2
  cases h1 : noB a b
  · rw [if_neg (by simp)]
    replace hc := hc h1
    rw [h1] at hn
    have hh := fun W => hold_60 (ordI a b) W
    have ht := fun W => truth_any (decide (0 < ordI a b)) W
    generalize (decide (0 < ordI a b)) = T at *
    generalize ordI a b = n at *
    clear h1
    unfold vlV at *
    go_enter Tryz.func84, Tryz.ntmps84
    go_wp2_with (first | (go_at_call 82; with_reducible refine (hn _).mono ?_; rintro e w2 ⟨rfl, hb2⟩; replace hB := hB.trans (hb2.mono hB.size); obtain ⟨a0, a1⟩ := (ha.grow hB).cells; obtain ⟨b0, b1⟩ := (hb.grow hB).cells; obtain ⟨r0, r1⟩ := (hr.grow hB).cells; obtain ⟨rf0, rf1⟩ := (hr.grow hB).frozen))
    replace hB := hB.drew
    obtain ⟨a0, a1⟩ := (ha.grow hB).cells
    obtain ⟨b0, b1⟩ := (hb.grow hB).cells
    obtain ⟨r0, r1⟩ := (hr.grow hB).cells
    obtain ⟨rf0, rf1⟩ := (hr.grow hB).frozen
    go_region_held3 (fun W => W.cell? ⟨w.heap.size, 0, none⟩ = some (.int .i64 a.kind) ∧ W.cell? ⟨w.heap.size, 1, none⟩ = some (.int .i64 a.n) ∧ W.cell? ⟨w.heap.size + 1, 0, none⟩ = some (.int .i64 b.kind) ∧ W.cell? ⟨w.heap.size + 1, 1, none⟩ = some (.int .i64 b.n) ∧ W.cell? ⟨p2, 0, none⟩ = some (.func (.func 60) #[] #[]))
      (first | exact ⟨a0, a1, b0, b1, hpk2 _ hB⟩ | exact ⟨cset a0 (by omega), cset a1 (by omega), cset b0 (by omega), cset b1 (by omega), cset (hpk2 _ hB) (by omega)⟩)
      (first | (go_at_call 85; with_reducible refine (hc _).mono ?_; rintro e w2 ⟨rfl, hb2⟩; replace hB := hB.trans (hb2.mono hB.size); obtain ⟨a0, a1⟩ := (ha.grow hB).cells; obtain ⟨b0, b1⟩ := (hb.grow hB).cells; obtain ⟨r0, r1⟩ := (hr.grow hB).cells; obtain ⟨rf0, rf1⟩ := (hr.grow hB).frozen) | (go_at_call 60; with_reducible refine (hh _).mono ?_; rintro e w2 ⟨rfl, hb2⟩; replace hB := hB.trans (hb2.mono hB.size); obtain ⟨a0, a1⟩ := (ha.grow hB).cells; obtain ⟨b0, b1⟩ := (hb.grow hB).cells; obtain ⟨r0, r1⟩ := (hr.grow hB).cells; obtain ⟨rf0, rf1⟩ := (hr.grow hB).frozen) | (go_at_call 20; with_reducible refine (ht _).mono ?_; rintro e w2 ⟨rfl, hb2⟩; replace hB := hB.trans (hb2.mono hB.size); obtain ⟨a0, a1⟩ := (ha.grow hB).cells; obtain ⟨b0, b1⟩ := (hb.grow hB).cells; obtain ⟨r0, r1⟩ := (hr.grow hB).cells; obtain ⟨rf0, rf1⟩ := (hr.grow hB).frozen))
    all_goals
      go_wp2
      exact end_set (v := tru T) Tryz.results84 rfl (by omega) (bW2 w _ _) hB hr
  · rw [if_pos rfl]
    rw [h1] at hn
    have ht := fun W => truth_any B W
    clear h1 hc hpk2
    unfold vlV at *
    go_enter Tryz.func84, Tryz.ntmps84
    go_wp2_with (first | (go_at_call 82; with_reducible refine (hn _).mono ?_; rintro e w2 ⟨rfl, hb2⟩; replace hB := hB.trans (hb2.mono hB.size); obtain ⟨a0, a1⟩ := (ha.grow hB).cells; obtain ⟨b0, b1⟩ := (hb.grow hB).cells; obtain ⟨r0, r1⟩ := (hr.grow hB).cells; obtain ⟨rf0, rf1⟩ := (hr.grow hB).frozen; have pc := hpk _ hB) | (go_at_call 20; with_reducible refine (ht _).mono ?_; rintro e w2 ⟨rfl, hb2⟩; replace hB := hB.trans (hb2.mono hB.size); obtain ⟨a0, a1⟩ := (ha.grow hB).cells; obtain ⟨b0, b1⟩ := (hb.grow hB).cells; obtain ⟨r0, r1⟩ := (hr.grow hB).cells; obtain ⟨rf0, rf1⟩ := (hr.grow hB).frozen))
    exact end_set (v := tru B) Tryz.results84 rfl (by omega) (bW2 w _ _) hB hr
set_option maxRecDepth 100000 in
theorem hold_61 (n : Int) (w : World) : Calls Tryz.prog 61 #[.int .i64 n] w fun e w' => e = .returned (.bool (decide (0 ≤ n))) ∧ Below w.heap.size w w' := by
  go_enter Tryz.func61, Tryz.ntmps61
  go_wp2
  go_ret
  exact ⟨rfl, Below.refl _ _⟩
set_option maxRecDepth 100000 in
set_option maxHeartbeats 1000000 in
theorem cmp_61 (a b : Vl) (p p2 : Nat) (B : Bool) (w : World) (hp : w.cell? ⟨p, 0, none⟩ = some (.bool B)) (hp2 : w.cell? ⟨p2, 0, none⟩ = some (.func (.func 61) #[] #[]))
    (hc : noB a b = false → ∀ W, Calls Tryz.prog 85 #[vlV a, vlV b] W fun e w' => e = .returned (.int .i64 (ordI a b)) ∧ Below W.heap.size W w') :
    Calls Tryz.prog 84 #[vlV a, vlV b, .pointer (some ⟨p, 0, none⟩), .pointer (some ⟨p2, 0, none⟩)] w fun e w' => e = .returned (vlV (tru (if noB a b = true then B else (decide (0 ≤ ordI a b))))) ∧ Below w.heap.size w w' := by
  obtain ⟨ha, hb, hr⟩ := pW2 w a b
  have hB : Below (W2 w a b).heap.size (W2 w a b) (W2 w a b) := Below.refl _ _
  have hn := fun W => eitherNaN_b a b W
  have hpk : ∀ W, Below (W2 w a b).heap.size (W2 w a b) W → W.cell? ⟨p, 0, none⟩ = some (.bool B) := fun W h => keepC hp ((bW2 w a b).trans (h.mono (bW2 w a b).size))
  have hpk2 : ∀ W, Below (W2 w a b).heap.size (W2 w a b) W → W.cell? ⟨p2, 0, none⟩ = some (.func (.func 61) #[] #[]) := fun W h => keepC hp2 ((bW2 w a b).trans (h.mono (bW2 w a b).size))
  have hlt2 : p2 < w.heap.size := World.block_lt_of_cell? w _ hp2
  clear hp hp2
  cases h1 : noB a b
  · rw [if_neg (by simp)]
    replace hc := hc h1
    rw [h1] at hn
    have hh := fun W => hold_61 (ordI a b) W
    have ht := fun W => truth_any (decide (0 ≤ ordI a b)) W
    generalize (decide (0 ≤ ordI a b)) = T at *
    generalize ordI a b = n at *
    clear h1
    unfold vlV at *
    go_enter Tryz.func84, Tryz.ntmps84
    go_wp2_with (first | (go_at_call 82; with_reducible refine (hn _).mono ?_; rintro e w2 ⟨rfl, hb2⟩; replace hB := hB.trans (hb2.mono hB.size); obtain ⟨a0, a1⟩ := (ha.grow hB).cells; obtain ⟨b0, b1⟩ := (hb.grow hB).cells; obtain ⟨r0, r1⟩ := (hr.grow hB).cells; obtain ⟨rf0, rf1⟩ := (hr.grow hB).frozen))
    replace hB := hB.drew
    obtain ⟨a0, a1⟩ := (ha.grow hB).cells
    obtain ⟨b0, b1⟩ := (hb.grow hB).cells
    obtain ⟨r0, r1⟩ := (hr.grow hB).cells
    obtain ⟨rf0, rf1⟩ := (hr.grow hB).frozen
    go_region_held3 (fun W => W.cell? ⟨w.heap.size, 0, none⟩ = some (.int .i64 a.kind) ∧ W.cell? ⟨w.heap.size, 1, none⟩ = some (.int .i64 a.n) ∧ W.cell? ⟨w.heap.size + 1, 0, none⟩ = some (.int .i64 b.kind) ∧ W.cell? ⟨w.heap.size + 1, 1, none⟩ = some (.int .i64 b.n) ∧ W.cell? ⟨p2, 0, none⟩ = some (.func (.func 61) #[] #[]))
      (first | exact ⟨a0, a1, b0, b1, hpk2 _ hB⟩ | exact ⟨cset a0 (by omega), cset a1 (by omega), cset b0 (by omega), cset b1 (by omega), cset (hpk2 _ hB) (by omega)⟩)
      (first | (go_at_call 85; with_reducible refine (hc _).mono ?_; rintro e w2 ⟨rfl, hb2⟩; replace hB := hB.trans (hb2.mono hB.size); obtain ⟨a0, a1⟩ := (ha.grow hB).cells; obtain ⟨b0, b1⟩ := (hb.grow hB).cells; obtain ⟨r0, r1⟩ := (hr.grow hB).cells; obtain ⟨rf0, rf1⟩ := (hr.grow hB).frozen) | (go_at_call 61; with_reducible refine (hh _).mono ?_; rintro e w2 ⟨rfl, hb2⟩; replace hB := hB.trans (hb2.mono hB.size); obtain ⟨a0, a1⟩ := (ha.grow hB).cells; obtain ⟨b0, b1⟩ := (hb.grow hB).cells; obtain ⟨r0, r1⟩ := (hr.grow hB).cells; obtain ⟨rf0, rf1⟩ := (hr.grow hB).frozen) | (go_at_call 20; with_reducible refine (ht _).mono ?_; rintro e w2 ⟨rfl, hb2⟩; replace hB := hB.trans (hb2.mono hB.size); obtain ⟨a0, a1⟩ := (ha.grow hB).cells; obtain ⟨b0, b1⟩ := (hb.grow hB).cells; obtain ⟨r0, r1⟩ := (hr.grow hB).cells; obtain ⟨rf0, rf1⟩ := (hr.grow hB).frozen))
    all_goals
      go_wp2
      exact end_set (v := tru T) Tryz.results84 rfl (by omega) (bW2 w _ _) hB hr
  · rw [if_pos rfl]
    rw [h1] at hn
    have ht := fun W => truth_any B W
    clear h1 hc hpk2
    unfold vlV at *
    go_enter Tryz.func84, Tryz.ntmps84
    go_wp2_with (first | (go_at_call 82; with_reducible refine (hn _).mono ?_; rintro e w2 ⟨rfl, hb2⟩; replace hB := hB.trans (hb2.mono hB.size); obtain ⟨a0, a1⟩ := (ha.grow hB).cells; obtain ⟨b0, b1⟩ := (hb.grow hB).cells; obtain ⟨r0, r1⟩ := (hr.grow hB).cells; obtain ⟨rf0, rf1⟩ := (hr.grow hB).frozen; have pc := hpk _ hB) | (go_at_call 20; with_reducible refine (ht _).mono ?_; rintro e w2 ⟨rfl, hb2⟩; replace hB := hB.trans (hb2.mono hB.size); obtain ⟨a0, a1⟩ := (ha.grow hB).cells; obtain ⟨b0, b1⟩ := (hb.grow hB).cells; obtain ⟨r0, r1⟩ := (hr.grow hB).cells; obtain ⟨rf0, rf1⟩ := (hr.grow hB).frozen))
    exact end_set (v := tru B) Tryz.results84 rfl (by omega) (bW2 w _ _) hB hr
set_option maxRecDepth 100000 in
set_option maxHeartbeats 1000000 in
theorem unl_81 (a b : Vl) (p : Nat) (p2 : Nat) (v : Vl) (w : World) (hp : w.cell? ⟨p, 0, none⟩ = some (.func (.func 81) #[] #[.pointer (some ⟨p2, 0, none⟩)]))
    (hc : ¬ (a.kind = 2 ∨ b.kind = 2) → ∀ W, Below w.heap.size w W → Calls Tryz.prog 81 #[vlV a, vlV b, .pointer (some ⟨p2, 0, none⟩)] W fun e w' => e = .returned (vlV v) ∧ Below W.heap.size W w') :
    Calls Tryz.prog 86 #[vlV a, vlV b, .pointer (some ⟨p, 0, none⟩)] w fun e w' => e = .returned (vlV (nulls a b v)) ∧ Below w.heap.size w w' := by
  obtain ⟨ha, hb, hr⟩ := pW2 w a b
  have hB : Below (W2 w a b).heap.size (W2 w a b) (W2 w a b) := Below.refl _ _
  have hnu := fun W => null_b W
  have hp3 : (((w.alloc (.cells #[.int .i64 a.kind, .int .i64 a.n] 25)).alloc (.cells #[.int .i64 b.kind, .int .i64 b.n] 25)).alloc (.cells #[.int .i64 0, .int .i64 0] 25)).cell? ⟨p, 0, none⟩ = some (.func (.func 81) #[] #[.pointer (some ⟨p2, 0, none⟩)]) := keepC hp (bW2 w a b)
  by_cases h1 : a.kind = 2 ∨ b.kind = 2
  · have e : nulls a b v = nul := by rw [nulls, if_pos h1]
    rw [e]; clear e
    have h1b : ((a.kind == 2) = true) ∨ ((a.kind == 2) = false ∧ (b.kind == 2) = true) := by
      by_cases h : a.kind = 2
      · exact .inl (by simpa using h)
      · exact .inr ⟨by simpa using h, by simpa [h] using h1⟩
    clear h1 hc
    unfold vlV at *
    rcases h1b with h2 | ⟨h2, h3⟩
    · go_enter Tryz.func86, Tryz.ntmps86
      go_wp2_with (first | (go_at_call 22; with_reducible refine (hnu _).mono ?_; rintro e w2 ⟨rfl, hb2⟩; replace hB := hB.trans (hb2.mono hB.size); obtain ⟨a0, a1⟩ := (ha.grow hB).cells; obtain ⟨b0, b1⟩ := (hb.grow hB).cells; obtain ⟨r0, r1⟩ := (hr.grow hB).cells; obtain ⟨rf0, rf1⟩ := (hr.grow hB).frozen))
      exact end_set (v := nul) Tryz.results86 rfl (by omega) (bW2 w _ _) hB hr
    · go_enter Tryz.func86, Tryz.ntmps86
      go_wp2_with (first | (go_at_call 22; with_reducible refine (hnu _).mono ?_; rintro e w2 ⟨rfl, hb2⟩; replace hB := hB.trans (hb2.mono hB.size); obtain ⟨a0, a1⟩ := (ha.grow hB).cells; obtain ⟨b0, b1⟩ := (hb.grow hB).cells; obtain ⟨r0, r1⟩ := (hr.grow hB).cells; obtain ⟨rf0, rf1⟩ := (hr.grow hB).frozen))
      exact end_set (v := nul) Tryz.results86 rfl (by omega) (bW2 w _ _) hB hr
  · have e : nulls a b v = v := by rw [nulls, if_neg h1]
    rw [e]; clear e
    replace hc := hc h1 _ (bW2 w a b)
    have h2 : (a.kind == 2) = false := by simpa using fun h => h1 (.inl h)
    have h3 : (b.kind == 2) = false := by simpa using fun h => h1 (.inr h)
    clear h1
    unfold vlV at *
    go_enter Tryz.func86, Tryz.ntmps86
    go_wp2_with (first | (go_at_call 81; refine (hc).mono ?_; rintro e w2 ⟨rfl, hb2⟩; replace hB := hB.trans (hb2.mono hB.size); obtain ⟨a0, a1⟩ := (ha.grow hB).cells; obtain ⟨b0, b1⟩ := (hb.grow hB).cells; obtain ⟨r0, r1⟩ := (hr.grow hB).cells; obtain ⟨rf0, rf1⟩ := (hr.grow hB).frozen))
    exact end_set (v := v) Tryz.results86 rfl (by omega) (bW2 w _ _) hB hr
set_option maxRecDepth 100000 in
set_option maxHeartbeats 1000000 in
theorem unl_84 (a b : Vl) (p : Nat) (p2 p3 : Nat) (v : Vl) (w : World) (hp : w.cell? ⟨p, 0, none⟩ = some (.func (.func 84) #[] #[.pointer (some ⟨p2, 0, none⟩), .pointer (some ⟨p3, 0, none⟩)]))
    (hc : ¬ (a.kind = 2 ∨ b.kind = 2) → ∀ W, Below w.heap.size w W → Calls Tryz.prog 84 #[vlV a, vlV b, .pointer (some ⟨p2, 0, none⟩), .pointer (some ⟨p3, 0, none⟩)] W fun e w' => e = .returned (vlV v) ∧ Below W.heap.size W w') :
    Calls Tryz.prog 86 #[vlV a, vlV b, .pointer (some ⟨p, 0, none⟩)] w fun e w' => e = .returned (vlV (nulls a b v)) ∧ Below w.heap.size w w' := by
  obtain ⟨ha, hb, hr⟩ := pW2 w a b
  have hB : Below (W2 w a b).heap.size (W2 w a b) (W2 w a b) := Below.refl _ _
  have hnu := fun W => null_b W
  have hp3 : (((w.alloc (.cells #[.int .i64 a.kind, .int .i64 a.n] 25)).alloc (.cells #[.int .i64 b.kind, .int .i64 b.n] 25)).alloc (.cells #[.int .i64 0, .int .i64 0] 25)).cell? ⟨p, 0, none⟩ = some (.func (.func 84) #[] #[.pointer (some ⟨p2, 0, none⟩), .pointer (some ⟨p3, 0, none⟩)]) := keepC hp (bW2 w a b)
  by_cases h1 : a.kind = 2 ∨ b.kind = 2
  · have e : nulls a b v = nul := by rw [nulls, if_pos h1]
    rw [e]; clear e
    have h1b : ((a.kind == 2) = true) ∨ ((a.kind == 2) = false ∧ (b.kind == 2) = true) := by
      by_cases h : a.kind = 2
      · exact .inl (by simpa using h)
      · exact .inr ⟨by simpa using h, by simpa [h] using h1⟩
    clear h1 hc
    unfold vlV at *
    rcases h1b with h2 | ⟨h2, h3⟩
    · go_enter Tryz.func86, Tryz.ntmps86
      go_wp2_with (first | (go_at_call 22; with_reducible refine (hnu _).mono ?_; rintro e w2 ⟨rfl, hb2⟩; replace hB := hB.trans (hb2.mono hB.size); obtain ⟨a0, a1⟩ := (ha.grow hB).cells; obtain ⟨b0, b1⟩ := (hb.grow hB).cells; obtain ⟨r0, r1⟩ := (hr.grow hB).cells; obtain ⟨rf0, rf1⟩ := (hr.grow hB).frozen))
      exact end_set (v := nul) Tryz.results86 rfl (by omega) (bW2 w _ _) hB hr
    · go_enter Tryz.func86, Tryz.ntmps86
      go_wp2_with (first | (go_at_call 22; with_reducible refine (hnu _).mono ?_; rintro e w2 ⟨rfl, hb2⟩; replace hB := hB.trans (hb2.mono hB.size); obtain ⟨a0, a1⟩ := (ha.grow hB).cells; obtain ⟨b0, b1⟩ := (hb.grow hB).cells; obtain ⟨r0, r1⟩ := (hr.grow hB).cells; obtain ⟨rf0, rf1⟩ := (hr.grow hB).frozen))
      exact end_set (v := nul) Tryz.results86 rfl (by omega) (bW2 w _ _) hB hr
  · have e : nulls a b v = v := by rw [nulls, if_neg h1]
    rw [e]; clear e
    replace hc := hc h1 _ (bW2 w a b)
    have h2 : (a.kind == 2) = false := by simpa using fun h => h1 (.inl h)
    have h3 : (b.kind == 2) = false := by simpa using fun h => h1 (.inr h)
    clear h1
    unfold vlV at *
    go_enter Tryz.func86, Tryz.ntmps86
    go_wp2_with (first | (go_at_call 84; refine (hc).mono ?_; rintro e w2 ⟨rfl, hb2⟩; replace hB := hB.trans (hb2.mono hB.size); obtain ⟨a0, a1⟩ := (ha.grow hB).cells; obtain ⟨b0, b1⟩ := (hb.grow hB).cells; obtain ⟨r0, r1⟩ := (hr.grow hB).cells; obtain ⟨rf0, rf1⟩ := (hr.grow hB).frozen))
    exact end_set (v := v) Tryz.results86 rfl (by omega) (bW2 w _ _) hB hr
set_option maxRecDepth 100000 in
set_option maxHeartbeats 1000000 in
theorem unl_63 (a b : Vl) (p : Nat)  (v : Vl) (w : World) (hp : w.cell? ⟨p, 0, none⟩ = some (.func (.func 63) #[] #[]))
    (hc : ¬ (a.kind = 2 ∨ b.kind = 2) → ∀ W, Below w.heap.size w W → Calls Tryz.prog 63 #[vlV a, vlV b] W fun e w' => e = .returned (vlV v) ∧ Below W.heap.size W w') :
    Calls Tryz.prog 86 #[vlV a, vlV b, .pointer (some ⟨p, 0, none⟩)] w fun e w' => e = .returned (vlV (nulls a b v)) ∧ Below w.heap.size w w' := by
  obtain ⟨ha, hb, hr⟩ := pW2 w a b
  have hB : Below (W2 w a b).heap.size (W2 w a b) (W2 w a b) := Below.refl _ _
  have hnu := fun W => null_b W
  have hp3 : (((w.alloc (.cells #[.int .i64 a.kind, .int .i64 a.n] 25)).alloc (.cells #[.int .i64 b.kind, .int .i64 b.n] 25)).alloc (.cells #[.int .i64 0, .int .i64 0] 25)).cell? ⟨p, 0, none⟩ = some (.func (.func 63) #[] #[]) := keepC hp (bW2 w a b)
  by_cases h1 : a.kind = 2 ∨ b.kind = 2
  · have e : nulls a b v = nul := by rw [nulls, if_pos h1]
    rw [e]; clear e
    have h1b : ((a.kind == 2) = true) ∨ ((a.kind == 2) = false ∧ (b.kind == 2) = true) := by
      by_cases h : a.kind = 2
      · exact .inl (by simpa using h)
      · exact .inr ⟨by simpa using h, by simpa [h] using h1⟩
    clear h1 hc
    unfold vlV at *
    rcases h1b with h2 | ⟨h2, h3⟩
    · go_enter Tryz.func86, Tryz.ntmps86
      go_wp2_with (first | (go_at_call 22; with_reducible refine (hnu _).mono ?_; rintro e w2 ⟨rfl, hb2⟩; replace hB := hB.trans (hb2.mono hB.size); obtain ⟨a0, a1⟩ := (ha.grow hB).cells; obtain ⟨b0, b1⟩ := (hb.grow hB).cells; obtain ⟨r0, r1⟩ := (hr.grow hB).cells; obtain ⟨rf0, rf1⟩ := (hr.grow hB).frozen))
      exact end_set (v := nul) Tryz.results86 rfl (by omega) (bW2 w _ _) hB hr
    · go_enter Tryz.func86, Tryz.ntmps86
      go_wp2_with (first | (go_at_call 22; with_reducible refine (hnu _).mono ?_; rintro e w2 ⟨rfl, hb2⟩; replace hB := hB.trans (hb2.mono hB.size); obtain ⟨a0, a1⟩ := (ha.grow hB).cells; obtain ⟨b0, b1⟩ := (hb.grow hB).cells; obtain ⟨r0, r1⟩ := (hr.grow hB).cells; obtain ⟨rf0, rf1⟩ := (hr.grow hB).frozen))
      exact end_set (v := nul) Tryz.results86 rfl (by omega) (bW2 w _ _) hB hr
  · have e : nulls a b v = v := by rw [nulls, if_neg h1]
    rw [e]; clear e
    replace hc := hc h1 _ (bW2 w a b)
    have h2 : (a.kind == 2) = false := by simpa using fun h => h1 (.inl h)
    have h3 : (b.kind == 2) = false := by simpa using fun h => h1 (.inr h)
    clear h1
    unfold vlV at *
    go_enter Tryz.func86, Tryz.ntmps86
    go_wp2_with (first | (go_at_call 63; refine (hc).mono ?_; rintro e w2 ⟨rfl, hb2⟩; replace hB := hB.trans (hb2.mono hB.size); obtain ⟨a0, a1⟩ := (ha.grow hB).cells; obtain ⟨b0, b1⟩ := (hb.grow hB).cells; obtain ⟨r0, r1⟩ := (hr.grow hB).cells; obtain ⟨rf0, rf1⟩ := (hr.grow hB).frozen))
    exact end_set (v := v) Tryz.results86 rfl (by omega) (bW2 w _ _) hB hr
set_option maxRecDepth 100000 in
set_option maxHeartbeats 1000000 in
theorem unl_64 (a b : Vl) (p : Nat)  (v : Vl) (w : World) (hp : w.cell? ⟨p, 0, none⟩ = some (.func (.func 64) #[] #[]))
    (hc : ¬ (a.kind = 2 ∨ b.kind = 2) → ∀ W, Below w.heap.size w W → Calls Tryz.prog 64 #[vlV a, vlV b] W fun e w' => e = .returned (vlV v) ∧ Below W.heap.size W w') :
    Calls Tryz.prog 86 #[vlV a, vlV b, .pointer (some ⟨p, 0, none⟩)] w fun e w' => e = .returned (vlV (nulls a b v)) ∧ Below w.heap.size w w' := by
  obtain ⟨ha, hb, hr⟩ := pW2 w a b
  have hB : Below (W2 w a b).heap.size (W2 w a b) (W2 w a b) := Below.refl _ _
  have hnu := fun W => null_b W
  have hp3 : (((w.alloc (.cells #[.int .i64 a.kind, .int .i64 a.n] 25)).alloc (.cells #[.int .i64 b.kind, .int .i64 b.n] 25)).alloc (.cells #[.int .i64 0, .int .i64 0] 25)).cell? ⟨p, 0, none⟩ = some (.func (.func 64) #[] #[]) := keepC hp (bW2 w a b)
  by_cases h1 : a.kind = 2 ∨ b.kind = 2
  · have e : nulls a b v = nul := by rw [nulls, if_pos h1]
    rw [e]; clear e
    have h1b : ((a.kind == 2) = true) ∨ ((a.kind == 2) = false ∧ (b.kind == 2) = true) := by
      by_cases h : a.kind = 2
      · exact .inl (by simpa using h)
      · exact .inr ⟨by simpa using h, by simpa [h] using h1⟩
    clear h1 hc
    unfold vlV at *
    rcases h1b with h2 | ⟨h2, h3⟩
    · go_enter Tryz.func86, Tryz.ntmps86
      go_wp2_with (first | (go_at_call 22; with_reducible refine (hnu _).mono ?_; rintro e w2 ⟨rfl, hb2⟩; replace hB := hB.trans (hb2.mono hB.size); obtain ⟨a0, a1⟩ := (ha.grow hB).cells; obtain ⟨b0, b1⟩ := (hb.grow hB).cells; obtain ⟨r0, r1⟩ := (hr.grow hB).cells; obtain ⟨rf0, rf1⟩ := (hr.grow hB).frozen))
      exact end_set (v := nul) Tryz.results86 rfl (by omega) (bW2 w _ _) hB hr
    · go_enter Tryz.func86, Tryz.ntmps86
      go_wp2_with (first | (go_at_call 22; with_reducible refine (hnu _).mono ?_; rintro e w2 ⟨rfl, hb2⟩; replace hB := hB.trans (hb2.mono hB.size); obtain ⟨a0, a1⟩ := (ha.grow hB).cells; obtain ⟨b0, b1⟩ := (hb.grow hB).cells; obtain ⟨r0, r1⟩ := (hr.grow hB).cells; obtain ⟨rf0, rf1⟩ := (hr.grow hB).frozen))
      exact end_set (v := nul) Tryz.results86 rfl (by omega) (bW2 w _ _) hB hr
  · have e : nulls a b v = v := by rw [nulls, if_neg h1]
    rw [e]; clear e
    replace hc := hc h1 _ (bW2 w a b)
    have h2 : (a.kind == 2) = false := by simpa using fun h => h1 (.inl h)
    have h3 : (b.kind == 2) = false := by simpa using fun h => h1 (.inr h)
    clear h1
    unfold vlV at *
    go_enter Tryz.func86, Tryz.ntmps86
    go_wp2_with (first | (go_at_call 64; refine (hc).mono ?_; rintro e w2 ⟨rfl, hb2⟩; replace hB := hB.trans (hb2.mono hB.size); obtain ⟨a0, a1⟩ := (ha.grow hB).cells; obtain ⟨b0, b1⟩ := (hb.grow hB).cells; obtain ⟨r0, r1⟩ := (hr.grow hB).cells; obtain ⟨rf0, rf1⟩ := (hr.grow hB).frozen))
    exact end_set (v := v) Tryz.results86 rfl (by omega) (bW2 w _ _) hB hr
end Go.Proofs.YtfbiaffdfolbgaaGreatDoor
