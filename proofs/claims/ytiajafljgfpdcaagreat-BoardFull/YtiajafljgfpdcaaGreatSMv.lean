/- What is done: breach, calm, noData, fail (the program's), by what a result comes to. -/
import Derived.Test.YtiajafljgfpdcaaGreatSNw
namespace Go.Proofs.YtiajafljgfpdcaaGreat.S
set_option linter.unusedVariables false
open Go.RowKit
abbrev zO : Obj := .cells #[.int .i64 0, .int .i64 0, .int .i64 0, .int .i64 0, .int .i64 0, .int .i64 0, .int .i64 0] 65
theorem zAt1 (w : World) (o : Obj) : IAt ((w.alloc o).alloc (.cells #[.int .i64 0, .int .i64 0, .int .i64 0, .int .i64 0, .int .i64 0, .int .i64 0, .int .i64 0] 65)) (w.heap.size + 1) zI := iNew1 w o zI
theorem bW1 (w : World) (o o' : Obj) : Below w.heap.size w ((w.alloc o).alloc o') := (bW0 w _).alloc (by simp) _
set_option maxRecDepth 100000 in
set_option maxHeartbeats 4000000 in
theorem noData38 (x : Inst) (h : Hd) (now : Int) (w : World) : Calls Tryz.prog 119 #[encS x h now] w fun e w' => e = .returned (encI (comeI x 4 now)) ∧ Below w.heap.size w w' := by
  obtain ⟨st, since, fr, quiet, seen, vk, vn⟩ := x
  obtain ⟨fo, keep, nd, oe⟩ := h
  unfold encS
  obtain ⟨y, hY⟩ : ∃ y, y = comeI ⟨st, since, fr, quiet, seen, vk, vn⟩ 4 now := ⟨_, rfl⟩
  rw [← hY]
  simp only
  have hC : Hid (∀ W, Calls Tryz.prog 141 #[.agg #[.int .i64 st, .int .i64 since, .int .i64 fr, .int .i64 quiet, .int .i64 seen, .int .i64 vk, .int .i64 vn, .int .i64 fo, .int .i64 keep, .int .i64 nd, .int .i64 oe, .int .i64 now], .int .i64 4] W fun e w' => e = .returned (.agg #[.int .i64 y.st, .int .i64 y.since, .int .i64 y.fr, .int .i64 y.quiet, .int .i64 y.seen, .int .i64 y.vk, .int .i64 y.vn]) ∧ Below W.heap.size W w') := fun W => by
    have := come40 ⟨st, since, fr, quiet, seen, vk, vn⟩ ⟨fo, keep, nd, oe⟩ now 4 W (by simp)
    rw [← hY] at this; exact this
  clear hY
  go_enter Tryz.func119, Tryz.ntmps119
  go_wp2_with (go_at_call 141; refine (hC.out _).mono ?_; rintro e w2 ⟨rfl, hb2⟩; obtain ⟨r0, r1, r2, r3, r4, r5, r6⟩ := ((zAt1 w _).grow hb2).cells; obtain ⟨f0, f1, f2, f3, f4, f5, f6⟩ := ((zAt1 w _).grow hb2).frozen)
  exact end_set (v := y) Tryz.results119 rfl (by simp) (bW1 w _ _) hb2 (zAt1 w _)
set_option maxRecDepth 100000 in
set_option maxHeartbeats 4000000 in
theorem fail39 (x : Inst) (h : Hd) (now : Int) (w : World) : Calls Tryz.prog 120 #[encS x h now] w fun e w' => e = .returned (encI (comeI x 5 now)) ∧ Below w.heap.size w w' := by
  obtain ⟨st, since, fr, quiet, seen, vk, vn⟩ := x
  obtain ⟨fo, keep, nd, oe⟩ := h
  unfold encS
  obtain ⟨y, hY⟩ : ∃ y, y = comeI ⟨st, since, fr, quiet, seen, vk, vn⟩ 5 now := ⟨_, rfl⟩
  rw [← hY]
  simp only
  have hC : Hid (∀ W, Calls Tryz.prog 141 #[.agg #[.int .i64 st, .int .i64 since, .int .i64 fr, .int .i64 quiet, .int .i64 seen, .int .i64 vk, .int .i64 vn, .int .i64 fo, .int .i64 keep, .int .i64 nd, .int .i64 oe, .int .i64 now], .int .i64 5] W fun e w' => e = .returned (.agg #[.int .i64 y.st, .int .i64 y.since, .int .i64 y.fr, .int .i64 y.quiet, .int .i64 y.seen, .int .i64 y.vk, .int .i64 y.vn]) ∧ Below W.heap.size W w') := fun W => by
    have := come40 ⟨st, since, fr, quiet, seen, vk, vn⟩ ⟨fo, keep, nd, oe⟩ now 5 W (by simp)
    rw [← hY] at this; exact this
  clear hY
  go_enter Tryz.func120, Tryz.ntmps120
  go_wp2_with (go_at_call 141; refine (hC.out _).mono ?_; rintro e w2 ⟨rfl, hb2⟩; obtain ⟨r0, r1, r2, r3, r4, r5, r6⟩ := ((zAt1 w _).grow hb2).cells; obtain ⟨f0, f1, f2, f3, f4, f5, f6⟩ := ((zAt1 w _).grow hb2).frozen)
  exact end_set (v := y) Tryz.results120 rfl (by simp) (bW1 w _ _) hb2 (zAt1 w _)
set_option maxRecDepth 100000 in
set_option maxHeartbeats 4000000 in
theorem breach37 (x : Inst) (h : Hd) (now : Int) (w : World) (hf : x.st = 2 → -9223372036854775808 ≤ now - x.fr ∧ now - x.fr ≤ 9223372036854775807) : Calls Tryz.prog 118 #[encS x h now] w fun e w' => e = .returned (encI (alertI x h now)) ∧ Below w.heap.size w w' := by
  obtain ⟨st, since, fr, quiet, seen, vk, vn⟩ := x
  obtain ⟨fo, keep, nd, oe⟩ := h
  unfold encS
  simp only at hf ⊢
  by_cases h3 : st = 3
  · subst h3
    have hc : alertI ⟨3, since, fr, quiet, seen, vk, vn⟩ ⟨fo, keep, nd, oe⟩ now = ⟨3, since, fr, -1, seen, vk, vn⟩ := by simp [alertI]
    rw [hc]; clear hc hf
    go_enter Tryz.func118, Tryz.ntmps118
    go_wp2
    exact ret_cellI (i := ⟨3, since, fr, -1, seen, vk, vn⟩) Tryz.results118 rfl (iNew1 w _ ⟨3, since, fr, -1, seen, vk, vn⟩) ⟨rfl, bW1 w _ _⟩
  · have h3b : (st == 3) = false := by simpa using h3
    obtain ⟨y, hY⟩ : ∃ y, y = alertI ⟨st, since, fr, quiet, seen, vk, vn⟩ ⟨fo, keep, nd, oe⟩ now := ⟨_, rfl⟩
    rw [← hY]
    by_cases h2 : st = 2
    · subst h2
      have hf2 := hf rfl
      clear hf h3b
      by_cases hle : fo ≤ now - fr
      · replace hY : y = comeI ⟨2, since, fr, quiet, seen, vk, vn⟩ 3 now := by rw [hY]; simp [alertI, begI, hle]
        have hC : Hid (∀ W, Calls Tryz.prog 141 #[.agg #[.int .i64 2, .int .i64 since, .int .i64 fr, .int .i64 quiet, .int .i64 seen, .int .i64 vk, .int .i64 vn, .int .i64 fo, .int .i64 keep, .int .i64 nd, .int .i64 oe, .int .i64 now], .int .i64 3] W fun e w' => e = .returned (.agg #[.int .i64 y.st, .int .i64 y.since, .int .i64 y.fr, .int .i64 y.quiet, .int .i64 y.seen, .int .i64 y.vk, .int .i64 y.vn]) ∧ Below W.heap.size W w') := fun W => by
          have := come40 ⟨2, since, fr, quiet, seen, vk, vn⟩ ⟨fo, keep, nd, oe⟩ now 3 W (by simp)
          rw [← hY] at this; exact this
        clear hY
        go_enter Tryz.func118, Tryz.ntmps118
        go_wp2_with (go_at_call 141; refine (hC.out _).mono ?_; rintro e w2 ⟨rfl, hb2⟩; obtain ⟨r0, r1, r2, r3, r4, r5, r6⟩ := ((zAt1 w _).grow hb2).cells; obtain ⟨f0, f1, f2, f3, f4, f5, f6⟩ := ((zAt1 w _).grow hb2).frozen)
        exact end_set (v := y) Tryz.results118 rfl (by simp) (bW1 w _ _) hb2 (zAt1 w _)
      · replace hY : y = comeI ⟨2, since, fr, quiet, seen, vk, vn⟩ 2 now := by rw [hY]; simp [alertI, begI, hle]
        have hC : Hid (∀ W, Calls Tryz.prog 141 #[.agg #[.int .i64 2, .int .i64 since, .int .i64 fr, .int .i64 quiet, .int .i64 seen, .int .i64 vk, .int .i64 vn, .int .i64 fo, .int .i64 keep, .int .i64 nd, .int .i64 oe, .int .i64 now], .int .i64 2] W fun e w' => e = .returned (.agg #[.int .i64 y.st, .int .i64 y.since, .int .i64 y.fr, .int .i64 y.quiet, .int .i64 y.seen, .int .i64 y.vk, .int .i64 y.vn]) ∧ Below W.heap.size W w') := fun W => by
          have := come40 ⟨2, since, fr, quiet, seen, vk, vn⟩ ⟨fo, keep, nd, oe⟩ now 2 W (by simp)
          rw [← hY] at this; exact this
        clear hY
        go_enter Tryz.func118, Tryz.ntmps118
        go_wp2_with (go_at_call 141; refine (hC.out _).mono ?_; rintro e w2 ⟨rfl, hb2⟩; obtain ⟨r0, r1, r2, r3, r4, r5, r6⟩ := ((zAt1 w _).grow hb2).cells; obtain ⟨f0, f1, f2, f3, f4, f5, f6⟩ := ((zAt1 w _).grow hb2).frozen)
        exact end_set (v := y) Tryz.results118 rfl (by simp) (bW1 w _ _) hb2 (zAt1 w _)
    · have h2b : (st == 2) = false := by simpa using h2
      have h2c : (st != 2) = true := by simpa using h2
      clear hf
      have hz : now - now = 0 := by omega
      by_cases hle : fo ≤ 0
      · replace hY : y = comeI ⟨st, since, now, quiet, seen, vk, vn⟩ 3 now := by rw [hY]; simp [alertI, begI, hle, h2, h3]
        have hC : Hid (∀ W, Calls Tryz.prog 141 #[.agg #[.int .i64 st, .int .i64 since, .int .i64 now, .int .i64 quiet, .int .i64 seen, .int .i64 vk, .int .i64 vn, .int .i64 fo, .int .i64 keep, .int .i64 nd, .int .i64 oe, .int .i64 now], .int .i64 3] W fun e w' => e = .returned (.agg #[.int .i64 y.st, .int .i64 y.since, .int .i64 y.fr, .int .i64 y.quiet, .int .i64 y.seen, .int .i64 y.vk, .int .i64 y.vn]) ∧ Below W.heap.size W w') := fun W => by
          have := come40 ⟨st, since, now, quiet, seen, vk, vn⟩ ⟨fo, keep, nd, oe⟩ now 3 W (by simp)
          rw [← hY] at this; exact this
        clear hY
        go_enter Tryz.func118, Tryz.ntmps118
        go_wp2_with (go_at_call 141; refine (hC.out _).mono ?_; rintro e w2 ⟨rfl, hb2⟩; obtain ⟨r0, r1, r2, r3, r4, r5, r6⟩ := ((zAt1 w _).grow hb2).cells; obtain ⟨f0, f1, f2, f3, f4, f5, f6⟩ := ((zAt1 w _).grow hb2).frozen)
        exact end_set (v := y) Tryz.results118 rfl (by simp) (bW1 w _ _) hb2 (zAt1 w _)
      · replace hY : y = comeI ⟨st, since, now, quiet, seen, vk, vn⟩ 2 now := by rw [hY]; simp [alertI, begI, hle, h2, h3]
        have hC : Hid (∀ W, Calls Tryz.prog 141 #[.agg #[.int .i64 st, .int .i64 since, .int .i64 now, .int .i64 quiet, .int .i64 seen, .int .i64 vk, .int .i64 vn, .int .i64 fo, .int .i64 keep, .int .i64 nd, .int .i64 oe, .int .i64 now], .int .i64 2] W fun e w' => e = .returned (.agg #[.int .i64 y.st, .int .i64 y.since, .int .i64 y.fr, .int .i64 y.quiet, .int .i64 y.seen, .int .i64 y.vk, .int .i64 y.vn]) ∧ Below W.heap.size W w') := fun W => by
          have := come40 ⟨st, since, now, quiet, seen, vk, vn⟩ ⟨fo, keep, nd, oe⟩ now 2 W (by simp)
          rw [← hY] at this; exact this
        clear hY
        go_enter Tryz.func118, Tryz.ntmps118
        go_wp2_with (go_at_call 141; refine (hC.out _).mono ?_; rintro e w2 ⟨rfl, hb2⟩; obtain ⟨r0, r1, r2, r3, r4, r5, r6⟩ := ((zAt1 w _).grow hb2).cells; obtain ⟨f0, f1, f2, f3, f4, f5, f6⟩ := ((zAt1 w _).grow hb2).frozen)
        exact end_set (v := y) Tryz.results118 rfl (by simp) (bW1 w _ _) hb2 (zAt1 w _)
set_option maxRecDepth 100000 in
set_option maxHeartbeats 4000000 in
theorem calm36 (x : Inst) (h : Hd) (now : Int) (w : World) (hf : x.quiet ≠ -1 → -9223372036854775808 ≤ now - x.quiet ∧ now - x.quiet ≤ 9223372036854775807) : Calls Tryz.prog 117 #[encS x h now] w fun e w' => e = .returned (encI (calmI x h now)) ∧ Below w.heap.size w w' := by
  obtain ⟨st, since, fr, quiet, seen, vk, vn⟩ := x
  obtain ⟨fo, keep, nd, oe⟩ := h
  unfold encS
  simp only at hf ⊢
  obtain ⟨y, hY⟩ : ∃ y, y = calmI ⟨st, since, fr, quiet, seen, vk, vn⟩ ⟨fo, keep, nd, oe⟩ now := ⟨_, rfl⟩
  rw [← hY]
  by_cases h3 : st = 3
  · subst h3
    by_cases hk : 0 < keep
    · have hk2 : ¬ keep ≤ 0 := by omega
      by_cases hq : quiet = -1
      · subst hq
        clear hf
        have hz : now - now = 0 := by omega
        have hle : ¬ keep ≤ 0 := by omega
        replace hY : y = ⟨3, since, fr, now, seen, vk, vn⟩ := by rw [hY]; simp [calmI, quI, hle, hk]
        subst hY
        go_enter Tryz.func117, Tryz.ntmps117
        go_wp2
        exact ret_cellI (i := ⟨3, since, fr, now, seen, vk, vn⟩) Tryz.results117 rfl (iNew1 w _ ⟨3, since, fr, now, seen, vk, vn⟩) ⟨rfl, bW1 w _ _⟩
      · have hf2 := hf hq
        clear hf
        have hq2 : (quiet == -1) = false := by simpa using hq
        by_cases hle : keep ≤ now - quiet
        · replace hY : y = comeI ⟨3, since, fr, quiet, seen, vk, vn⟩ 1 now := by rw [hY]; simp [calmI, quI, hle, hk, hq]
          have hC : Hid (∀ W, Calls Tryz.prog 141 #[.agg #[.int .i64 3, .int .i64 since, .int .i64 fr, .int .i64 quiet, .int .i64 seen, .int .i64 vk, .int .i64 vn, .int .i64 fo, .int .i64 keep, .int .i64 nd, .int .i64 oe, .int .i64 now], .int .i64 1] W fun e w' => e = .returned (.agg #[.int .i64 y.st, .int .i64 y.since, .int .i64 y.fr, .int .i64 y.quiet, .int .i64 y.seen, .int .i64 y.vk, .int .i64 y.vn]) ∧ Below W.heap.size W w') := fun W => by
            have := come40 ⟨3, since, fr, quiet, seen, vk, vn⟩ ⟨fo, keep, nd, oe⟩ now 1 W (by simp)
            rw [← hY] at this; exact this
          clear hY
          go_enter Tryz.func117, Tryz.ntmps117
          go_wp2_with (go_at_call 141; refine (hC.out _).mono ?_; rintro e w2 ⟨rfl, hb2⟩; obtain ⟨r0, r1, r2, r3, r4, r5, r6⟩ := ((zAt1 w _).grow hb2).cells; obtain ⟨f0, f1, f2, f3, f4, f5, f6⟩ := ((zAt1 w _).grow hb2).frozen)
          exact end_set (v := y) Tryz.results117 rfl (by simp) (bW1 w _ _) hb2 (zAt1 w _)
        · replace hY : y = ⟨3, since, fr, quiet, seen, vk, vn⟩ := by rw [hY]; simp [calmI, quI, hle, hk, hq]
          subst hY
          go_enter Tryz.func117, Tryz.ntmps117
          go_wp2
          exact ret_cellI (i := ⟨3, since, fr, quiet, seen, vk, vn⟩) Tryz.results117 rfl (iNew1 w _ ⟨3, since, fr, quiet, seen, vk, vn⟩) ⟨rfl, bW1 w _ _⟩
    · have hk2 : keep ≤ 0 := by omega
      clear hf
      replace hY : y = comeI ⟨3, since, fr, quiet, seen, vk, vn⟩ 1 now := by rw [hY]; simp [calmI, hk]
      have hC : Hid (∀ W, Calls Tryz.prog 141 #[.agg #[.int .i64 3, .int .i64 since, .int .i64 fr, .int .i64 quiet, .int .i64 seen, .int .i64 vk, .int .i64 vn, .int .i64 fo, .int .i64 keep, .int .i64 nd, .int .i64 oe, .int .i64 now], .int .i64 1] W fun e w' => e = .returned (.agg #[.int .i64 y.st, .int .i64 y.since, .int .i64 y.fr, .int .i64 y.quiet, .int .i64 y.seen, .int .i64 y.vk, .int .i64 y.vn]) ∧ Below W.heap.size W w') := fun W => by
        have := come40 ⟨3, since, fr, quiet, seen, vk, vn⟩ ⟨fo, keep, nd, oe⟩ now 1 W (by simp)
        rw [← hY] at this; exact this
      clear hY
      go_enter Tryz.func117, Tryz.ntmps117
      go_wp2_with (go_at_call 141; refine (hC.out _).mono ?_; rintro e w2 ⟨rfl, hb2⟩; obtain ⟨r0, r1, r2, r3, r4, r5, r6⟩ := ((zAt1 w _).grow hb2).cells; obtain ⟨f0, f1, f2, f3, f4, f5, f6⟩ := ((zAt1 w _).grow hb2).frozen)
      exact end_set (v := y) Tryz.results117 rfl (by simp) (bW1 w _ _) hb2 (zAt1 w _)
  · have h3b : (st != 3) = true := by simpa using h3
    clear hf
    replace hY : y = comeI ⟨st, since, fr, quiet, seen, vk, vn⟩ 1 now := by rw [hY]; simp [calmI, h3]
    have hC : Hid (∀ W, Calls Tryz.prog 141 #[.agg #[.int .i64 st, .int .i64 since, .int .i64 fr, .int .i64 quiet, .int .i64 seen, .int .i64 vk, .int .i64 vn, .int .i64 fo, .int .i64 keep, .int .i64 nd, .int .i64 oe, .int .i64 now], .int .i64 1] W fun e w' => e = .returned (.agg #[.int .i64 y.st, .int .i64 y.since, .int .i64 y.fr, .int .i64 y.quiet, .int .i64 y.seen, .int .i64 y.vk, .int .i64 y.vn]) ∧ Below W.heap.size W w') := fun W => by
      have := come40 ⟨st, since, fr, quiet, seen, vk, vn⟩ ⟨fo, keep, nd, oe⟩ now 1 W (by simp)
      rw [← hY] at this; exact this
    clear hY
    go_enter Tryz.func117, Tryz.ntmps117
    go_wp2_with (go_at_call 141; refine (hC.out _).mono ?_; rintro e w2 ⟨rfl, hb2⟩; obtain ⟨r0, r1, r2, r3, r4, r5, r6⟩ := ((zAt1 w _).grow hb2).cells; obtain ⟨f0, f1, f2, f3, f4, f5, f6⟩ := ((zAt1 w _).grow hb2).frozen)
    exact end_set (v := y) Tryz.results117 rfl (by simp) (bW1 w _ _) hb2 (zAt1 w _)
end Go.Proofs.YtiajafljgfpdcaaGreat.S
