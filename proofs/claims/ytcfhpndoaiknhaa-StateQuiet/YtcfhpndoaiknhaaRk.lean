/- The document's Check: the same. -/
import Derived.Test.YtcfhpndoaiknhaaCk
namespace Go.Proofs.Ytcfhpndoaiknhaa
set_option linter.unusedVariables false
open Go.RowKit
theorem tB_never : tB (-1) = false := by decide
set_option maxRecDepth 100000 in
set_option maxHeartbeats 8000000 in
/-- The document's Check. -/
theorem rcheck12 (x : Inst) (w : World) : Calls Try.prog 12 #[encI x] w fun e w' => e = .returned (.int .i64 (chE x)) ∧ Below w.heap.size w w' := by
  obtain ⟨st, since, fr, quiet, seen, vk, vn⟩ := x
  unfold encI
  have hx0 : Hid (Below w.heap.size w (w.alloc (.cells #[.int .i64 st, .int .i64 since, .int .i64 fr, .int .i64 quiet, .int .i64 seen, .int .i64 vk, .int .i64 vn] 25))) := bW0 w _
  have hx1 : Hid (Below w.heap.size w ((w.alloc (.cells #[.int .i64 st, .int .i64 since, .int .i64 fr, .int .i64 quiet, .int .i64 seen, .int .i64 vk, .int .i64 vn] 25)).alloc (.cells #[.int .i64 vk, .int .i64 vn] 23))) := bW1 w _ _
  simp only
  obtain ⟨R, hR⟩ : ∃ R, R = chE ⟨st, since, fr, quiet, seen, vk, vn⟩ := ⟨_, rfl⟩
  rw [← hR]
  replace hR : R = if decide (1 ≤ st ∧ st ≤ 5) && (tB since && (tB seen && (frB st fr && quB st quiet)) && vB vk vn) then 0 else 2 := hR
  have h1 : Hid (∀ W, Calls Try.prog 25 #[.int .i64 since] W fun e w' => e = .returned (.bool (tB since)) ∧ w' = W) := fun W => time25 since W
  have h2 : Hid (∀ W, Calls Try.prog 25 #[.int .i64 seen] W fun e w' => e = .returned (.bool (tB seen)) ∧ w' = W) := fun W => time25 seen W
  have h3 : Hid (∀ W, Calls Try.prog 25 #[.int .i64 fr] W fun e w' => e = .returned (.bool (tB fr)) ∧ w' = W) := fun W => time25 fr W
  have h4 : Hid (∀ W, Calls Try.prog 25 #[.int .i64 quiet] W fun e w' => e = .returned (.bool (tB quiet)) ∧ w' = W) := fun W => time25 quiet W
  have h5 : Hid (∀ W, Calls Try.prog 21 #[.agg #[.int .i64 vk, .int .i64 vn]] W fun e w' => e = .returned (.bool (vB vk vn)) ∧ w' = W.alloc (.cells #[.int .i64 vk, .int .i64 vn] 23)) := fun W => is21 vk vn W
  have t1 : True := trivial
  have t2 : True := trivial
  have t3 : True := trivial
  by_cases r1 : st < 1
  · obtain rfl : R = 2 := by rw [hR, if_neg]; simp; omega
    clear h1 h2 h3 h4 h5 hx1 hR
    go_enter Try.func12, Try.ntmps12
    go_wp2
    go_ret
    exact ⟨rfl, hx0.out⟩
  by_cases r2 : 5 < st
  · obtain rfl : R = 2 := by rw [hR, if_neg]; simp; omega
    clear h1 h2 h3 h4 h5 hx1 hR
    go_enter Try.func12, Try.ntmps12
    go_wp2
    go_ret
    exact ⟨rfl, hx0.out⟩
  have r3 : decide (1 ≤ st ∧ st ≤ 5) = true := by simp; omega
  rw [r3, Bool.true_and] at hR
  generalize tB since = A at *
  cases A with
  | false =>
    obtain rfl : R = 2 := by rw [hR]; rfl
    clear h2 h3 h4 h5 hx1 hR
    go_enter Try.func12, Try.ntmps12
    go_wp2_with (go_at_call 25; refine (h1.out _).mono ?_; rintro e wx ⟨rfl, hwx⟩; subst wx)
    go_ret
    exact ⟨rfl, hx0.out⟩
  | true =>
  generalize tB seen = B at *
  cases B with
  | false =>
    obtain rfl : R = 2 := by rw [hR]; rfl
    clear h3 h4 h5 hx1 hR
    go_enter Try.func12, Try.ntmps12
    go_wp2_with (first | (go_at_call 25; have _t := t1; refine (h1.out _).mono ?_; rintro e wx ⟨rfl, hwx⟩; clear t1; subst wx) | (go_at_call 25; refine (h2.out _).mono ?_; rintro e wx ⟨rfl, hwx⟩; subst wx))
    go_ret
    exact ⟨rfl, hx0.out⟩
  | true =>
  generalize vB vk vn = V at *
  cases V with
  | false =>
    obtain rfl : R = 2 := by rw [hR]; simp
    clear h3 h4 hR
    go_enter Try.func12, Try.ntmps12
    go_wp2_with (first | (go_at_call 25; have _t := t1; refine (h1.out _).mono ?_; rintro e wx ⟨rfl, hwx⟩; clear t1; subst wx) | (go_at_call 25; refine (h2.out _).mono ?_; rintro e wx ⟨rfl, hwx⟩; subst wx) | (go_at_call 21; refine (h5.out _).mono ?_; rintro e wx ⟨rfl, hwx⟩; subst wx))
    go_ret
    exact ⟨rfl, hx1.out⟩
  | true =>
  simp only [Bool.true_and, Bool.and_true] at hR
  have hR2 : R = if (if fr = -1 then decide (st ≠ 2) else tB fr && decide (st = 2 ∨ st = 3)) && (decide (quiet = -1) || (tB quiet && decide (st = 3))) then 0 else 2 := hR
  clear hR
  by_cases hf : fr = -1
  · subst hf
    by_cases hq : quiet = -1
    · subst hq
      by_cases s2 : st = 2
      · subst s2
        obtain rfl : R = 2 := by rw [hR2]; simp
        clear h3 h4 hR2
        go_enter Try.func12, Try.ntmps12
        go_wp2_with (first | (go_at_call 25; have _t := t1; refine (h1.out _).mono ?_; rintro e wx ⟨rfl, hwx⟩; clear t1; subst wx) | (go_at_call 25; refine (h2.out _).mono ?_; rintro e wx ⟨rfl, hwx⟩; subst wx) | (go_at_call 21; refine (h5.out _).mono ?_; rintro e wx ⟨rfl, hwx⟩; subst wx))
        go_ret
        exact ⟨rfl, hx1.out⟩
      · have s2b : (st == 2) = false := by simpa using s2
        obtain rfl : R = 0 := by rw [hR2]; simp [s2]
        clear h3 h4 hR2
        go_enter Try.func12, Try.ntmps12
        go_wp2_with (first | (go_at_call 25; have _t := t1; refine (h1.out _).mono ?_; rintro e wx ⟨rfl, hwx⟩; clear t1; subst wx) | (go_at_call 25; refine (h2.out _).mono ?_; rintro e wx ⟨rfl, hwx⟩; subst wx) | (go_at_call 21; refine (h5.out _).mono ?_; rintro e wx ⟨rfl, hwx⟩; subst wx))
        go_ret
        exact ⟨rfl, hx1.out⟩
    · have hqb : (quiet != -1) = true := by simpa using hq
      generalize tB quiet = D at *
      by_cases s2 : st = 2
      · subst s2
        obtain rfl : R = 2 := by rw [hR2]; simp
        clear h3 hR2
        cases D
        all_goals
          go_enter Try.func12, Try.ntmps12
          go_wp2_with (first | (go_at_call 25; have _t := t1; refine (h1.out _).mono ?_; rintro e wx ⟨rfl, hwx⟩; clear t1; subst wx) | (go_at_call 25; have _t := t2; refine (h2.out _).mono ?_; rintro e wx ⟨rfl, hwx⟩; clear t2; subst wx) | (go_at_call 21; refine (h5.out _).mono ?_; rintro e wx ⟨rfl, hwx⟩; subst wx) | (go_at_call 25; refine (h4.out _).mono ?_; rintro e wx ⟨rfl, hwx⟩; subst wx))
          go_ret
          exact ⟨rfl, hx1.out⟩
      · have s2b : (st == 2) = false := by simpa using s2
        by_cases s3 : st = 3
        · subst s3
          cases D
          all_goals
            simp [hq] at hR2
            subst hR2
            clear h3
            go_enter Try.func12, Try.ntmps12
            go_wp2_with (first | (go_at_call 25; have _t := t1; refine (h1.out _).mono ?_; rintro e wx ⟨rfl, hwx⟩; clear t1; subst wx) | (go_at_call 25; have _t := t2; refine (h2.out _).mono ?_; rintro e wx ⟨rfl, hwx⟩; clear t2; subst wx) | (go_at_call 21; refine (h5.out _).mono ?_; rintro e wx ⟨rfl, hwx⟩; subst wx) | (go_at_call 25; refine (h4.out _).mono ?_; rintro e wx ⟨rfl, hwx⟩; subst wx))
            go_ret
            exact ⟨rfl, hx1.out⟩
        · have s3b : (st != 3) = true := by simpa using s3
          obtain rfl : R = 2 := by rw [hR2]; simp [s3, hq]
          clear h3 hR2
          cases D
          all_goals
            go_enter Try.func12, Try.ntmps12
            go_wp2_with (first | (go_at_call 25; have _t := t1; refine (h1.out _).mono ?_; rintro e wx ⟨rfl, hwx⟩; clear t1; subst wx) | (go_at_call 25; have _t := t2; refine (h2.out _).mono ?_; rintro e wx ⟨rfl, hwx⟩; clear t2; subst wx) | (go_at_call 21; refine (h5.out _).mono ?_; rintro e wx ⟨rfl, hwx⟩; subst wx) | (go_at_call 25; refine (h4.out _).mono ?_; rintro e wx ⟨rfl, hwx⟩; subst wx))
            go_ret
            exact ⟨rfl, hx1.out⟩
  · have hfb : (fr != -1) = true := by simpa using hf
    have hfc : (fr == -1) = false := by simpa using hf
    rw [if_neg hf] at hR2
    generalize tB fr = C at *
    cases C with
    | false =>
      obtain rfl : R = 2 := by rw [hR2]; simp
      clear hR2 h4
      go_enter Try.func12, Try.ntmps12
      go_wp2_with (first | (go_at_call 25; have _t := t1; refine (h1.out _).mono ?_; rintro e wx ⟨rfl, hwx⟩; clear t1; subst wx) | (go_at_call 25; have _t := t2; refine (h2.out _).mono ?_; rintro e wx ⟨rfl, hwx⟩; clear t2; subst wx) | (go_at_call 21; refine (h5.out _).mono ?_; rintro e wx ⟨rfl, hwx⟩; subst wx) | (go_at_call 25; refine (h3.out _).mono ?_; rintro e wx ⟨rfl, hwx⟩; subst wx))
      go_ret
      exact ⟨rfl, hx1.out⟩
    | true =>
      by_cases hq : quiet = -1
      · subst hq
        by_cases s2 : st = 2
        · subst s2
          obtain rfl : R = 0 := by rw [hR2]; simp
          clear hR2 h4
          go_enter Try.func12, Try.ntmps12
          go_wp2_with (first | (go_at_call 25; have _t := t1; refine (h1.out _).mono ?_; rintro e wx ⟨rfl, hwx⟩; clear t1; subst wx) | (go_at_call 25; have _t := t2; refine (h2.out _).mono ?_; rintro e wx ⟨rfl, hwx⟩; clear t2; subst wx) | (go_at_call 21; refine (h5.out _).mono ?_; rintro e wx ⟨rfl, hwx⟩; subst wx) | (go_at_call 25; refine (h3.out _).mono ?_; rintro e wx ⟨rfl, hwx⟩; subst wx))
          go_ret
          exact ⟨rfl, hx1.out⟩
        · have s2b : (st != 2) = true := by simpa using s2
          by_cases s3 : st = 3
          · subst s3
            obtain rfl : R = 0 := by rw [hR2]; simp
            clear hR2 h4
            go_enter Try.func12, Try.ntmps12
            go_wp2_with (first | (go_at_call 25; have _t := t1; refine (h1.out _).mono ?_; rintro e wx ⟨rfl, hwx⟩; clear t1; subst wx) | (go_at_call 25; have _t := t2; refine (h2.out _).mono ?_; rintro e wx ⟨rfl, hwx⟩; clear t2; subst wx) | (go_at_call 21; refine (h5.out _).mono ?_; rintro e wx ⟨rfl, hwx⟩; subst wx) | (go_at_call 25; refine (h3.out _).mono ?_; rintro e wx ⟨rfl, hwx⟩; subst wx))
            go_ret
            exact ⟨rfl, hx1.out⟩
          · have s3b : (st != 3) = true := by simpa using s3
            obtain rfl : R = 2 := by rw [hR2]; simp [s2, s3]
            clear hR2 h4
            go_enter Try.func12, Try.ntmps12
            go_wp2_with (first | (go_at_call 25; have _t := t1; refine (h1.out _).mono ?_; rintro e wx ⟨rfl, hwx⟩; clear t1; subst wx) | (go_at_call 25; have _t := t2; refine (h2.out _).mono ?_; rintro e wx ⟨rfl, hwx⟩; clear t2; subst wx) | (go_at_call 21; refine (h5.out _).mono ?_; rintro e wx ⟨rfl, hwx⟩; subst wx) | (go_at_call 25; refine (h3.out _).mono ?_; rintro e wx ⟨rfl, hwx⟩; subst wx))
            go_ret
            exact ⟨rfl, hx1.out⟩
      · have hqb : (quiet != -1) = true := by simpa using hq
        generalize tB quiet = D at *
        by_cases s3 : st = 3
        · subst s3
          cases D
          all_goals
            simp [hq] at hR2
            subst hR2
            go_enter Try.func12, Try.ntmps12
            go_wp2_with (first | (go_at_call 25; have _t := t1; refine (h1.out _).mono ?_; rintro e wx ⟨rfl, hwx⟩; clear t1; subst wx) | (go_at_call 25; have _t := t2; refine (h2.out _).mono ?_; rintro e wx ⟨rfl, hwx⟩; clear t2; subst wx) | (go_at_call 21; refine (h5.out _).mono ?_; rintro e wx ⟨rfl, hwx⟩; subst wx) | (go_at_call 25; have _t := t3; refine (h3.out _).mono ?_; rintro e wx ⟨rfl, hwx⟩; clear t3; subst wx) | (go_at_call 25; refine (h4.out _).mono ?_; rintro e wx ⟨rfl, hwx⟩; subst wx))
            go_ret
            exact ⟨rfl, hx1.out⟩
        · have s3b : (st != 3) = true := by simpa using s3
          have s3c : (st == 3) = false := by simpa using s3
          obtain rfl : R = 2 := by rw [hR2]; simp [s3, hq]
          clear hR2
          by_cases s2 : st = 2
          · subst s2
            cases D
            all_goals
              go_enter Try.func12, Try.ntmps12
              go_wp2_with (first | (go_at_call 25; have _t := t1; refine (h1.out _).mono ?_; rintro e wx ⟨rfl, hwx⟩; clear t1; subst wx) | (go_at_call 25; have _t := t2; refine (h2.out _).mono ?_; rintro e wx ⟨rfl, hwx⟩; clear t2; subst wx) | (go_at_call 21; refine (h5.out _).mono ?_; rintro e wx ⟨rfl, hwx⟩; subst wx) | (go_at_call 25; have _t := t3; refine (h3.out _).mono ?_; rintro e wx ⟨rfl, hwx⟩; clear t3; subst wx) | (go_at_call 25; refine (h4.out _).mono ?_; rintro e wx ⟨rfl, hwx⟩; subst wx))
              go_ret
              exact ⟨rfl, hx1.out⟩
          · have s2b : (st != 2) = true := by simpa using s2
            cases D
            all_goals
              go_enter Try.func12, Try.ntmps12
              go_wp2_with (first | (go_at_call 25; have _t := t1; refine (h1.out _).mono ?_; rintro e wx ⟨rfl, hwx⟩; clear t1; subst wx) | (go_at_call 25; have _t := t2; refine (h2.out _).mono ?_; rintro e wx ⟨rfl, hwx⟩; clear t2; subst wx) | (go_at_call 21; refine (h5.out _).mono ?_; rintro e wx ⟨rfl, hwx⟩; subst wx) | (go_at_call 25; have _t := t3; refine (h3.out _).mono ?_; rintro e wx ⟨rfl, hwx⟩; clear t3; subst wx) | (go_at_call 25; refine (h4.out _).mono ?_; rintro e wx ⟨rfl, hwx⟩; subst wx))
              go_ret
              exact ⟨rfl, hx1.out⟩
end Go.Proofs.Ytcfhpndoaiknhaa
