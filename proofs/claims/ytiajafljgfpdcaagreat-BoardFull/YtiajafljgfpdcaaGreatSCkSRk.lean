/- SCk; SRk. -/
import Derived.Test.YtiajafljgfpdcaaGreatSSt
/- Check: the program's, the document's. -/
namespace Go.Proofs.YtiajafljgfpdcaaGreat.S
set_option linter.unusedVariables false
open Go.RowKit
set_option maxRecDepth 100000 in
set_option maxHeartbeats 2000000 in
/-- value.Check of one value. -/
theorem check24 (k n : Int) (g c : Nat) (w : World) (h0 : w.cell? ⟨g, 0, none⟩ = some (.int .i64 k)) (h1 : w.cell? ⟨g, 1, none⟩ = some (.int .i64 n)) :
    Calls Tryz.prog 108 #[.slice (some ⟨g, 0, none⟩) 1 c] w fun e w' => e = .returned (.int .i64 (if vB k n then 0 else 80)) ∧ Below w.heap.size w w' := by
  have hV : Hid (∀ W, Calls Tryz.prog 133 #[.agg #[.int .i64 k, .int .i64 n]] W fun e w' => e = .returned (.bool (vB k n)) ∧ Below W.heap.size W w') := fun W => (isValue35 k n W).mono fun e w' ⟨h, hw⟩ => ⟨h, hw ▸ bW0 W _⟩
  have hB0 : Hid (∀ W, Below w.heap.size w W → W.cell? ⟨g, 0, none⟩ = some (.int .i64 k) ∧ W.cell? ⟨g, 1, none⟩ = some (.int .i64 n)) := fun W h => ⟨(h.cell (p := ⟨g, 0, none⟩) (World.block_lt_of_cell? w _ h0)).trans h0, (h.cell (p := ⟨g, 1, none⟩) (World.block_lt_of_cell? w _ h1)).trans h1⟩
  generalize vB k n = B at *
  clear h0 h1
  cases B with
  | false =>
    go_enter Tryz.func108, Tryz.ntmps108
    go_wp2
    go_loopw [7] (fun i wr => i = .int .i64 0 ∧ Hid (Below w.heap.size w wr)) (fun i _ => 1 - (intOf i).toNat)
    case atStart => exact ⟨rfl, Below.refl _ _⟩
    case round =>
      obtain ⟨rfl, hB⟩ := hrel
      obtain ⟨x0, x1⟩ := hB0.out _ hB.out
      go_wp2_with (go_at_call 133; refine (hV.out _).mono ?_; rintro e w2 ⟨rfl, hb2⟩; have hB3 : Hid (Below w.heap.size w w2) := (hB.out.alloc hB.out.size _).trans (hb2.mono (by have := hB.out.size; simp; omega)))
      go_ret
      exact ⟨rfl, hB3.out⟩
  | true =>
    go_enter Tryz.func108, Tryz.ntmps108
    go_wp2
    go_loopw [7] (fun i wr => (i = .int .i64 0 ∨ i = .int .i64 1) ∧ Hid (Below w.heap.size w wr)) (fun i _ => 1 - (intOf i).toNat)
    case atStart => exact ⟨.inl rfl, Below.refl _ _⟩
    case round =>
      obtain ⟨hi, hB⟩ := hrel
      rcases hi with rfl | rfl
      · obtain ⟨x0, x1⟩ := hB0.out _ hB.out
        go_wp2_with (go_at_call 133; refine (hV.out _).mono ?_; rintro e w2 ⟨rfl, hb2⟩; have hB3 : Hid (Below w.heap.size w w2) := (hB.out.alloc hB.out.size _).trans (hb2.mono (by have := hB.out.size; simp; omega)))
        go_roundw
        case rel => exact ⟨.inr rfl, hB3⟩
        case measure => simp [intOf]
      · go_wp2
        go_ret
        exact ⟨rfl, hB.out⟩
set_option maxRecDepth 100000 in
set_option maxHeartbeats 4000000 in
theorem hasTimes23 (x : Inst) (w : World) : Calls Tryz.prog 107 #[encI x] w fun e w' => e = .returned (.bool (hasB x)) ∧ w' = w.alloc (iO x) := by
  obtain ⟨st, since, fr, quiet, seen, vk, vn⟩ := x
  unfold encI
  have hR : Hid (hasB ⟨st, since, fr, quiet, seen, vk, vn⟩ = (tB since && (tB seen && (frB st fr && quB st quiet)))) := rfl
  simp only
  have h1 : Hid (∀ z W, Calls Tryz.prog 130 #[.int .i64 z] W fun e w' => e = .returned (.bool (tB z)) ∧ w' = W) := isTime32
  have h2 : Hid (∀ W, Calls Tryz.prog 131 #[.int .i64 st, .int .i64 fr] W fun e w' => e = .returned (.bool (frB st fr)) ∧ w' = W) := fun W => mayFrom33 st fr W
  have h3 : Hid (∀ W, Calls Tryz.prog 132 #[.int .i64 st, .int .i64 quiet] W fun e w' => e = .returned (.bool (quB st quiet)) ∧ w' = W) := fun W => mayQuiet34 st quiet W
  generalize frB st fr = C at *
  generalize quB st quiet = D at *
  have h1a : Hid (∀ W, Calls Tryz.prog 130 #[.int .i64 since] W fun e w' => e = .returned (.bool (tB since)) ∧ w' = W) := fun W => h1.out since W
  have h1b : Hid (∀ W, Calls Tryz.prog 130 #[.int .i64 seen] W fun e w' => e = .returned (.bool (tB seen)) ∧ w' = W) := fun W => h1.out seen W
  clear h1
  generalize tB since = A at *
  generalize tB seen = B at *
  have t1 : True := trivial
  cases A <;> cases B <;> cases C <;> cases D
  all_goals
    go_enter Tryz.func107, Tryz.ntmps107
    go_wp2_with (first
      | (go_at_call 130; have _t := t1; refine (h1a.out _).mono ?_; rintro e wx ⟨rfl, hwx⟩; clear t1; subst wx)
      | (go_at_call 130; refine (h1b.out _).mono ?_; rintro e wx ⟨rfl, hwx⟩; subst wx)
      | (go_at_call 131; refine (h2.out _).mono ?_; rintro e wx ⟨rfl, hwx⟩; subst wx)
      | (go_at_call 132; refine (h3.out _).mono ?_; rintro e wx ⟨rfl, hwx⟩; subst wx))
    go_ret
    exact ⟨by rw [hR.out]; rfl, rfl⟩
set_option maxRecDepth 100000 in
set_option maxHeartbeats 4000000 in
/-- state.Check. -/
theorem check11 (x : Inst) (w : World) : Calls Tryz.prog 83 #[encI x] w fun e w' => e = .returned (.int .i64 (chE x)) ∧ Below w.heap.size w w' := by
  obtain ⟨st, since, fr, quiet, seen, vk, vn⟩ := x
  unfold encI
  have hR : Hid (chE ⟨st, since, fr, quiet, seen, vk, vn⟩ = if decide (1 ≤ st ∧ st ≤ 5) && (hasB ⟨st, since, fr, quiet, seen, vk, vn⟩ && vB vk vn) then 0 else 2) := rfl
  have hx := iNew w ⟨st, since, fr, quiet, seen, vk, vn⟩
  have hx0 : Hid (Below w.heap.size w (w.alloc (.cells #[.int .i64 st, .int .i64 since, .int .i64 fr, .int .i64 quiet, .int .i64 seen, .int .i64 vk, .int .i64 vn] 65))) := bW0 w _
  simp only
  have h1 : Hid (∀ W, Calls Tryz.prog 106 #[.int .i64 st] W fun e w' => e = .returned (.bool (decide (1 ≤ st ∧ st ≤ 5))) ∧ w' = W) := fun W => isState22 st W
  have h2 : Hid (∀ W, Calls Tryz.prog 107 #[.agg #[.int .i64 st, .int .i64 since, .int .i64 fr, .int .i64 quiet, .int .i64 seen, .int .i64 vk, .int .i64 vn]] W fun e w' => e = .returned (.bool (hasB ⟨st, since, fr, quiet, seen, vk, vn⟩)) ∧ w' = W.alloc (.cells #[.int .i64 st, .int .i64 since, .int .i64 fr, .int .i64 quiet, .int .i64 seen, .int .i64 vk, .int .i64 vn] 65)) := fun W => hasTimes23 ⟨st, since, fr, quiet, seen, vk, vn⟩ W
  have h3 : Hid (Calls Tryz.prog 108 #[.slice (some ⟨w.heap.size + 1 + 1, 0, none⟩) 1 1] (((w.alloc (.cells #[.int .i64 st, .int .i64 since, .int .i64 fr, .int .i64 quiet, .int .i64 seen, .int .i64 vk, .int .i64 vn] 65)).alloc (.cells #[.int .i64 st, .int .i64 since, .int .i64 fr, .int .i64 quiet, .int .i64 seen, .int .i64 vk, .int .i64 vn] 65)).alloc (.cells #[.int .i64 vk, .int .i64 vn] 57)) fun e w' => e = .returned (.int .i64 (if vB vk vn then 0 else 80)) ∧ Below w.heap.size w w') := by
    have hv := vNew ((w.alloc (.cells #[.int .i64 st, .int .i64 since, .int .i64 fr, .int .i64 quiet, .int .i64 seen, .int .i64 vk, .int .i64 vn] 65)).alloc (.cells #[.int .i64 st, .int .i64 since, .int .i64 fr, .int .i64 quiet, .int .i64 seen, .int .i64 vk, .int .i64 vn] 65)) (k := vk) (n := vn)
    have hs : ((w.alloc (.cells #[.int .i64 st, .int .i64 since, .int .i64 fr, .int .i64 quiet, .int .i64 seen, .int .i64 vk, .int .i64 vn] 65)).alloc (.cells #[.int .i64 st, .int .i64 since, .int .i64 fr, .int .i64 quiet, .int .i64 seen, .int .i64 vk, .int .i64 vn] 65)).heap.size = w.heap.size + 1 + 1 := by simp
    rw [hs] at hv
    have hb : Below w.heap.size w (((w.alloc (.cells #[.int .i64 st, .int .i64 since, .int .i64 fr, .int .i64 quiet, .int .i64 seen, .int .i64 vk, .int .i64 vn] 65)).alloc (.cells #[.int .i64 st, .int .i64 since, .int .i64 fr, .int .i64 quiet, .int .i64 seen, .int .i64 vk, .int .i64 vn] 65)).alloc (.cells #[.int .i64 vk, .int .i64 vn] 57)) := (hx0.out.alloc (by simp) _).alloc (by simp; omega) _
    exact (check24 vk vn (w.heap.size + 1 + 1) 1 _ hv.cells.1 hv.cells.2).mono fun e w' h => ⟨h.1, hb.trans (h.2.mono hb.size)⟩
  generalize decide (1 ≤ st ∧ st ≤ 5) = A at *
  generalize hasB ⟨st, since, fr, quiet, seen, vk, vn⟩ = B at *
  generalize vB vk vn = C at *
  cases A <;> cases B <;> cases C
  all_goals
    go_enter Tryz.func83, Tryz.ntmps83
    go_wp2_with (first
      | (go_at_call 106; refine (h1.out _).mono ?_; rintro e wx ⟨rfl, hwx⟩; subst wx)
      | (go_at_call 107; refine (h2.out _).mono ?_; rintro e wx ⟨rfl, hwx⟩; subst wx)
      | (go_at_call 108; refine h3.out.mono ?_; rintro e w3 ⟨rfl, hb3⟩))
    go_ret
    refine ⟨by rw [hR.out]; rfl, ?_⟩
    first
      | exact hx0.out
      | exact hx0.out.alloc (by simp) _
      | exact hb3
end Go.Proofs.YtiajafljgfpdcaaGreat.S
/- The document's Check: the same. -/
namespace Go.Proofs.YtiajafljgfpdcaaGreat.S
set_option linter.unusedVariables false
open Go.RowKit
theorem tB_never : tB (-1) = false := by decide
set_option maxRecDepth 100000 in
set_option maxHeartbeats 8000000 in
/-- The document's Check. -/
theorem rcheck12 (x : Inst) (w : World) : Calls Tryz.prog 30 #[encI x] w fun e w' => e = .returned (.int .i64 (chE x)) ∧ Below w.heap.size w w' := by
  obtain ⟨st, since, fr, quiet, seen, vk, vn⟩ := x
  unfold encI
  have hx0 : Hid (Below w.heap.size w (w.alloc (.cells #[.int .i64 st, .int .i64 since, .int .i64 fr, .int .i64 quiet, .int .i64 seen, .int .i64 vk, .int .i64 vn] 65))) := bW0 w _
  have hx1 : Hid (Below w.heap.size w ((w.alloc (.cells #[.int .i64 st, .int .i64 since, .int .i64 fr, .int .i64 quiet, .int .i64 seen, .int .i64 vk, .int .i64 vn] 65)).alloc (.cells #[.int .i64 vk, .int .i64 vn] 57))) := bW1 w _ _
  simp only
  obtain ⟨R, hR⟩ : ∃ R, R = chE ⟨st, since, fr, quiet, seen, vk, vn⟩ := ⟨_, rfl⟩
  rw [← hR]
  replace hR : R = if decide (1 ≤ st ∧ st ≤ 5) && (tB since && (tB seen && (frB st fr && quB st quiet)) && vB vk vn) then 0 else 2 := hR
  have h1 : Hid (∀ W, Calls Tryz.prog 65 #[.int .i64 since] W fun e w' => e = .returned (.bool (tB since)) ∧ w' = W) := fun W => time25 since W
  have h2 : Hid (∀ W, Calls Tryz.prog 65 #[.int .i64 seen] W fun e w' => e = .returned (.bool (tB seen)) ∧ w' = W) := fun W => time25 seen W
  have h3 : Hid (∀ W, Calls Tryz.prog 65 #[.int .i64 fr] W fun e w' => e = .returned (.bool (tB fr)) ∧ w' = W) := fun W => time25 fr W
  have h4 : Hid (∀ W, Calls Tryz.prog 65 #[.int .i64 quiet] W fun e w' => e = .returned (.bool (tB quiet)) ∧ w' = W) := fun W => time25 quiet W
  have h5 : Hid (∀ W, Calls Tryz.prog 25 #[.agg #[.int .i64 vk, .int .i64 vn]] W fun e w' => e = .returned (.bool (vB vk vn)) ∧ w' = W.alloc (.cells #[.int .i64 vk, .int .i64 vn] 57)) := fun W => is21 vk vn W
  have t1 : True := trivial
  have t2 : True := trivial
  have t3 : True := trivial
  by_cases r1 : st < 1
  · obtain rfl : R = 2 := by rw [hR, if_neg]; simp; omega
    clear h1 h2 h3 h4 h5 hx1 hR
    go_enter Tryz.func30, Tryz.ntmps30
    go_wp2
    go_ret
    exact ⟨rfl, hx0.out⟩
  by_cases r2 : 5 < st
  · obtain rfl : R = 2 := by rw [hR, if_neg]; simp; omega
    clear h1 h2 h3 h4 h5 hx1 hR
    go_enter Tryz.func30, Tryz.ntmps30
    go_wp2
    go_ret
    exact ⟨rfl, hx0.out⟩
  have r3 : decide (1 ≤ st ∧ st ≤ 5) = true := by simp; omega
  rw [r3, Bool.true_and] at hR
  generalize tB since = A at *
  cases A with
  | false =>
    obtain rfl : R = 2 := by rw [hR]; rfl
    clear h2 h3 h4 h5 hx1 hR
    go_enter Tryz.func30, Tryz.ntmps30
    go_wp2_with (go_at_call 65; refine (h1.out _).mono ?_; rintro e wx ⟨rfl, hwx⟩; subst wx)
    go_ret
    exact ⟨rfl, hx0.out⟩
  | true =>
  generalize tB seen = B at *
  cases B with
  | false =>
    obtain rfl : R = 2 := by rw [hR]; rfl
    clear h3 h4 h5 hx1 hR
    go_enter Tryz.func30, Tryz.ntmps30
    go_wp2_with (first | (go_at_call 65; have _t := t1; refine (h1.out _).mono ?_; rintro e wx ⟨rfl, hwx⟩; clear t1; subst wx) | (go_at_call 65; refine (h2.out _).mono ?_; rintro e wx ⟨rfl, hwx⟩; subst wx))
    go_ret
    exact ⟨rfl, hx0.out⟩
  | true =>
  generalize vB vk vn = V at *
  cases V with
  | false =>
    obtain rfl : R = 2 := by rw [hR]; simp
    clear h3 h4 hR
    go_enter Tryz.func30, Tryz.ntmps30
    go_wp2_with (first | (go_at_call 65; have _t := t1; refine (h1.out _).mono ?_; rintro e wx ⟨rfl, hwx⟩; clear t1; subst wx) | (go_at_call 65; refine (h2.out _).mono ?_; rintro e wx ⟨rfl, hwx⟩; subst wx) | (go_at_call 25; refine (h5.out _).mono ?_; rintro e wx ⟨rfl, hwx⟩; subst wx))
    go_ret
    exact ⟨rfl, hx1.out⟩
  | true =>
  simp only [Bool.true_and, Bool.and_true] at hR
  have hR2 : R = if (if fr = -1 then decide (st ≠ 2) else tB fr && decide (st = 2 ∨ st = 3)) && (decide (quiet = -1) || (tB quiet && decide (st = 3))) then 0 else 2 := hR
  clear hR
  by_cases hf : fr = -1
  · subst hf
    by_cases hq : quiet = -1
    · subst hq
      by_cases s2 : st = 2
      · subst s2
        obtain rfl : R = 2 := by rw [hR2]; simp
        clear h3 h4 hR2
        go_enter Tryz.func30, Tryz.ntmps30
        go_wp2_with (first | (go_at_call 65; have _t := t1; refine (h1.out _).mono ?_; rintro e wx ⟨rfl, hwx⟩; clear t1; subst wx) | (go_at_call 65; refine (h2.out _).mono ?_; rintro e wx ⟨rfl, hwx⟩; subst wx) | (go_at_call 25; refine (h5.out _).mono ?_; rintro e wx ⟨rfl, hwx⟩; subst wx))
        go_ret
        exact ⟨rfl, hx1.out⟩
      · have s2b : (st == 2) = false := by simpa using s2
        obtain rfl : R = 0 := by rw [hR2]; simp [s2]
        clear h3 h4 hR2
        go_enter Tryz.func30, Tryz.ntmps30
        go_wp2_with (first | (go_at_call 65; have _t := t1; refine (h1.out _).mono ?_; rintro e wx ⟨rfl, hwx⟩; clear t1; subst wx) | (go_at_call 65; refine (h2.out _).mono ?_; rintro e wx ⟨rfl, hwx⟩; subst wx) | (go_at_call 25; refine (h5.out _).mono ?_; rintro e wx ⟨rfl, hwx⟩; subst wx))
        go_ret
        exact ⟨rfl, hx1.out⟩
    · have hqb : (quiet != -1) = true := by simpa using hq
      generalize tB quiet = D at *
      by_cases s2 : st = 2
      · subst s2
        obtain rfl : R = 2 := by rw [hR2]; simp
        clear h3 hR2
        cases D
        all_goals
          go_enter Tryz.func30, Tryz.ntmps30
          go_wp2_with (first | (go_at_call 65; have _t := t1; refine (h1.out _).mono ?_; rintro e wx ⟨rfl, hwx⟩; clear t1; subst wx) | (go_at_call 65; have _t := t2; refine (h2.out _).mono ?_; rintro e wx ⟨rfl, hwx⟩; clear t2; subst wx) | (go_at_call 25; refine (h5.out _).mono ?_; rintro e wx ⟨rfl, hwx⟩; subst wx) | (go_at_call 65; refine (h4.out _).mono ?_; rintro e wx ⟨rfl, hwx⟩; subst wx))
          go_ret
          exact ⟨rfl, hx1.out⟩
      · have s2b : (st == 2) = false := by simpa using s2
        by_cases s3 : st = 3
        · subst s3
          cases D
          all_goals
            simp [hq] at hR2
            subst hR2
            clear h3
            go_enter Tryz.func30, Tryz.ntmps30
            go_wp2_with (first | (go_at_call 65; have _t := t1; refine (h1.out _).mono ?_; rintro e wx ⟨rfl, hwx⟩; clear t1; subst wx) | (go_at_call 65; have _t := t2; refine (h2.out _).mono ?_; rintro e wx ⟨rfl, hwx⟩; clear t2; subst wx) | (go_at_call 25; refine (h5.out _).mono ?_; rintro e wx ⟨rfl, hwx⟩; subst wx) | (go_at_call 65; refine (h4.out _).mono ?_; rintro e wx ⟨rfl, hwx⟩; subst wx))
            go_ret
            exact ⟨rfl, hx1.out⟩
        · have s3b : (st != 3) = true := by simpa using s3
          obtain rfl : R = 2 := by rw [hR2]; simp [s3, hq]
          clear h3 hR2
          cases D
          all_goals
            go_enter Tryz.func30, Tryz.ntmps30
            go_wp2_with (first | (go_at_call 65; have _t := t1; refine (h1.out _).mono ?_; rintro e wx ⟨rfl, hwx⟩; clear t1; subst wx) | (go_at_call 65; have _t := t2; refine (h2.out _).mono ?_; rintro e wx ⟨rfl, hwx⟩; clear t2; subst wx) | (go_at_call 25; refine (h5.out _).mono ?_; rintro e wx ⟨rfl, hwx⟩; subst wx) | (go_at_call 65; refine (h4.out _).mono ?_; rintro e wx ⟨rfl, hwx⟩; subst wx))
            go_ret
            exact ⟨rfl, hx1.out⟩
  · have hfb : (fr != -1) = true := by simpa using hf
    have hfc : (fr == -1) = false := by simpa using hf
    rw [if_neg hf] at hR2
    generalize tB fr = C at *
    cases C with
    | false =>
      obtain rfl : R = 2 := by rw [hR2]; simp
      clear hR2 h4
      go_enter Tryz.func30, Tryz.ntmps30
      go_wp2_with (first | (go_at_call 65; have _t := t1; refine (h1.out _).mono ?_; rintro e wx ⟨rfl, hwx⟩; clear t1; subst wx) | (go_at_call 65; have _t := t2; refine (h2.out _).mono ?_; rintro e wx ⟨rfl, hwx⟩; clear t2; subst wx) | (go_at_call 25; refine (h5.out _).mono ?_; rintro e wx ⟨rfl, hwx⟩; subst wx) | (go_at_call 65; refine (h3.out _).mono ?_; rintro e wx ⟨rfl, hwx⟩; subst wx))
      go_ret
      exact ⟨rfl, hx1.out⟩
    | true =>
      by_cases hq : quiet = -1
      · subst hq
        by_cases s2 : st = 2
        · subst s2
          obtain rfl : R = 0 := by rw [hR2]; simp
          clear hR2 h4
          go_enter Tryz.func30, Tryz.ntmps30
          go_wp2_with (first | (go_at_call 65; have _t := t1; refine (h1.out _).mono ?_; rintro e wx ⟨rfl, hwx⟩; clear t1; subst wx) | (go_at_call 65; have _t := t2; refine (h2.out _).mono ?_; rintro e wx ⟨rfl, hwx⟩; clear t2; subst wx) | (go_at_call 25; refine (h5.out _).mono ?_; rintro e wx ⟨rfl, hwx⟩; subst wx) | (go_at_call 65; refine (h3.out _).mono ?_; rintro e wx ⟨rfl, hwx⟩; subst wx))
          go_ret
          exact ⟨rfl, hx1.out⟩
        · have s2b : (st != 2) = true := by simpa using s2
          by_cases s3 : st = 3
          · subst s3
            obtain rfl : R = 0 := by rw [hR2]; simp
            clear hR2 h4
            go_enter Tryz.func30, Tryz.ntmps30
            go_wp2_with (first | (go_at_call 65; have _t := t1; refine (h1.out _).mono ?_; rintro e wx ⟨rfl, hwx⟩; clear t1; subst wx) | (go_at_call 65; have _t := t2; refine (h2.out _).mono ?_; rintro e wx ⟨rfl, hwx⟩; clear t2; subst wx) | (go_at_call 25; refine (h5.out _).mono ?_; rintro e wx ⟨rfl, hwx⟩; subst wx) | (go_at_call 65; refine (h3.out _).mono ?_; rintro e wx ⟨rfl, hwx⟩; subst wx))
            go_ret
            exact ⟨rfl, hx1.out⟩
          · have s3b : (st != 3) = true := by simpa using s3
            obtain rfl : R = 2 := by rw [hR2]; simp [s2, s3]
            clear hR2 h4
            go_enter Tryz.func30, Tryz.ntmps30
            go_wp2_with (first | (go_at_call 65; have _t := t1; refine (h1.out _).mono ?_; rintro e wx ⟨rfl, hwx⟩; clear t1; subst wx) | (go_at_call 65; have _t := t2; refine (h2.out _).mono ?_; rintro e wx ⟨rfl, hwx⟩; clear t2; subst wx) | (go_at_call 25; refine (h5.out _).mono ?_; rintro e wx ⟨rfl, hwx⟩; subst wx) | (go_at_call 65; refine (h3.out _).mono ?_; rintro e wx ⟨rfl, hwx⟩; subst wx))
            go_ret
            exact ⟨rfl, hx1.out⟩
      · have hqb : (quiet != -1) = true := by simpa using hq
        generalize tB quiet = D at *
        by_cases s3 : st = 3
        · subst s3
          cases D
          all_goals
            simp [hq] at hR2
            subst hR2
            go_enter Tryz.func30, Tryz.ntmps30
            go_wp2_with (first | (go_at_call 65; have _t := t1; refine (h1.out _).mono ?_; rintro e wx ⟨rfl, hwx⟩; clear t1; subst wx) | (go_at_call 65; have _t := t2; refine (h2.out _).mono ?_; rintro e wx ⟨rfl, hwx⟩; clear t2; subst wx) | (go_at_call 25; refine (h5.out _).mono ?_; rintro e wx ⟨rfl, hwx⟩; subst wx) | (go_at_call 65; have _t := t3; refine (h3.out _).mono ?_; rintro e wx ⟨rfl, hwx⟩; clear t3; subst wx) | (go_at_call 65; refine (h4.out _).mono ?_; rintro e wx ⟨rfl, hwx⟩; subst wx))
            go_ret
            exact ⟨rfl, hx1.out⟩
        · have s3b : (st != 3) = true := by simpa using s3
          have s3c : (st == 3) = false := by simpa using s3
          obtain rfl : R = 2 := by rw [hR2]; simp [s3, hq]
          clear hR2
          by_cases s2 : st = 2
          · subst s2
            cases D
            all_goals
              go_enter Tryz.func30, Tryz.ntmps30
              go_wp2_with (first | (go_at_call 65; have _t := t1; refine (h1.out _).mono ?_; rintro e wx ⟨rfl, hwx⟩; clear t1; subst wx) | (go_at_call 65; have _t := t2; refine (h2.out _).mono ?_; rintro e wx ⟨rfl, hwx⟩; clear t2; subst wx) | (go_at_call 25; refine (h5.out _).mono ?_; rintro e wx ⟨rfl, hwx⟩; subst wx) | (go_at_call 65; have _t := t3; refine (h3.out _).mono ?_; rintro e wx ⟨rfl, hwx⟩; clear t3; subst wx) | (go_at_call 65; refine (h4.out _).mono ?_; rintro e wx ⟨rfl, hwx⟩; subst wx))
              go_ret
              exact ⟨rfl, hx1.out⟩
          · have s2b : (st != 2) = true := by simpa using s2
            cases D
            all_goals
              go_enter Tryz.func30, Tryz.ntmps30
              go_wp2_with (first | (go_at_call 65; have _t := t1; refine (h1.out _).mono ?_; rintro e wx ⟨rfl, hwx⟩; clear t1; subst wx) | (go_at_call 65; have _t := t2; refine (h2.out _).mono ?_; rintro e wx ⟨rfl, hwx⟩; clear t2; subst wx) | (go_at_call 25; refine (h5.out _).mono ?_; rintro e wx ⟨rfl, hwx⟩; subst wx) | (go_at_call 65; have _t := t3; refine (h3.out _).mono ?_; rintro e wx ⟨rfl, hwx⟩; clear t3; subst wx) | (go_at_call 65; refine (h4.out _).mono ?_; rintro e wx ⟨rfl, hwx⟩; subst wx))
              go_ret
              exact ⟨rfl, hx1.out⟩
end Go.Proofs.YtiajafljgfpdcaaGreat.S
