/- New, Null, Num; an instance comes to a state. -/
import Derived.Test.YtiajafljgfpdcaaGreatSLe
namespace Go.Proofs.YtiajafljgfpdcaaGreat.S
set_option linter.unusedVariables false
open Go.RowKit
theorem bW0 (w : World) (o : Obj) : Below w.heap.size w (w.alloc o) := (Below.refl _ w).alloc (Nat.le_refl _) o
def zI : Inst := ⟨0, 0, 0, 0, 0, 0, 0⟩
theorem heap_setCell {w : World} {g x i : Nat} {u : Value} (h : g ≠ x) : (w.setCell ⟨g, i, none⟩ u).heap[x]? = w.heap[x]? := by
  unfold World.setCell
  simp only [Array.getElem?_modify, if_neg h]
theorem IAt.other {w : World} {g x i : Nat} {u : Value} {j : Inst} (h : IAt w x j) (hg : g ≠ x) : IAt (w.setCell ⟨g, i, none⟩ u) x j := h.keep (heap_setCell hg)
theorem iNew1 (w : World) (o : Obj) (v : Inst) : IAt ((w.alloc o).alloc (iO v)) (w.heap.size + 1) v := by
  have := iNew (w.alloc o) v
  rwa [World.size_alloc] at this
/-- The end of a function whose result lies in block x: it was stored there. -/
theorem end_set {fn : Func} {p : Tmp} {tmps : Array Value} {w W0 W : World} {x : Nat} {v u : Inst} (hr : fn.results = #[.cell p 65]) (ht : tmps[p]?.getD undef = .pointer (some ⟨x, 0, none⟩)) (hx : w.heap.size ≤ x)
    (h0 : Below w.heap.size w W0) (hB : Below W0.heap.size W0 W) (hv : IAt W0 x u) :
    bodyPost Tryz.prog fn (fun e w' => e = .returned (encI v) ∧ Below w.heap.size w w') .ret { tmps := tmps, defers := [] } (((((((W.setCell ⟨x, 0, none⟩ (.int .i64 v.st)).setCell ⟨x, 1, none⟩ (.int .i64 v.since)).setCell ⟨x, 2, none⟩ (.int .i64 v.fr)).setCell ⟨x, 3, none⟩ (.int .i64 v.quiet)).setCell ⟨x, 4, none⟩ (.int .i64 v.seen)).setCell ⟨x, 5, none⟩ (.int .i64 v.vk)).setCell ⟨x, 6, none⟩ (.int .i64 v.vn)) :=
  ret_cellI (i := v) hr ht (iSet (w := W) (x := x) (i := v) (hv.grow hB)) ⟨rfl, belSet7 (i := v) (h0.trans (hB.mono h0.size)) hx⟩
set_option maxRecDepth 100000 in
theorem null26 (w : World) : Calls Tryz.prog 75 #[] w fun e w' => e = .returned (encV 2 0) ∧ Below w.heap.size w w' := by
  go_enter Tryz.func75, Tryz.ntmps75
  go_wp2
  exact ret_cellV Tryz.results75 rfl (vNew w) ⟨rfl, bW0 _ _⟩
set_option maxRecDepth 100000 in
theorem rnull19 (w : World) : Calls Tryz.prog 32 #[] w fun e w' => e = .returned (encV 2 0) ∧ Below w.heap.size w w' := by
  go_enter Tryz.func32, Tryz.ntmps32
  go_wp2
  exact ret_cellV Tryz.results32 rfl (vNew w) ⟨rfl, bW0 _ _⟩
set_option maxRecDepth 100000 in
/-- Num of what is a number. -/
theorem rnum20 (n : Int) (w : World) (h1 : -1000000000000000 ≤ n) (h2 : n ≤ 1000000000000000) : Calls Tryz.prog 29 #[.int .i64 n] w fun e w' => e = .returned (encV 1 n) ∧ Below w.heap.size w w' := by
  have g1 : ¬ 1000000000000000 < n := by omega
  have g2 : ¬ n < -1000000000000000 := by omega
  go_enter Tryz.func29, Tryz.ntmps29
  go_wp2
  exact ret_cellV Tryz.results29 rfl (vNew w) ⟨rfl, bW0 _ _⟩
set_option maxRecDepth 100000 in
set_option maxHeartbeats 2000000 in
theorem new13 (n : Int) (w : World) : Calls Tryz.prog 70 #[.int .i64 n] w fun e w' => e = .returned (encI (newI n)) ∧ Below w.heap.size w w' := by
  have hr : IAt (w.alloc (.cells #[.int .i64 0, .int .i64 0, .int .i64 0, .int .i64 0, .int .i64 0, .int .i64 0, .int .i64 0] 65)) w.heap.size zI := iNew w zI
  have hB : Hid (Below w.heap.size w (w.alloc (.cells #[.int .i64 0, .int .i64 0, .int .i64 0, .int .i64 0, .int .i64 0, .int .i64 0, .int .i64 0] 65))) := bW0 _ _
  have hN : Hid (∀ W, Calls Tryz.prog 75 #[] W fun e w' => e = .returned (.agg #[.int .i64 2, .int .i64 0]) ∧ Below W.heap.size W w') := fun W => null26 W
  go_enter Tryz.func70, Tryz.ntmps70
  go_wp2_with (go_at_call 75; refine (hN.out _).mono ?_; rintro e w2 ⟨rfl, hb2⟩; obtain ⟨r0, r1, r2, r3, r4, r5, r6⟩ := (hr.grow hb2).cells; obtain ⟨f0, f1, f2, f3, f4, f5, f6⟩ := (hr.grow hb2).frozen)
  exact end_set (v := newI n) Tryz.results70 rfl (Nat.le_refl _) hB.out hb2 hr
set_option maxRecDepth 100000 in
set_option maxHeartbeats 2000000 in
theorem rnew14 (n : Int) (w : World) : Calls Tryz.prog 43 #[.int .i64 n] w fun e w' => e = .returned (encI (newI n)) ∧ Below w.heap.size w w' := by
  have hr : IAt (w.alloc (.cells #[.int .i64 0, .int .i64 0, .int .i64 0, .int .i64 0, .int .i64 0, .int .i64 0, .int .i64 0] 65)) w.heap.size zI := iNew w zI
  have hB : Hid (Below w.heap.size w (w.alloc (.cells #[.int .i64 0, .int .i64 0, .int .i64 0, .int .i64 0, .int .i64 0, .int .i64 0, .int .i64 0] 65))) := bW0 _ _
  have hN : Hid (∀ W, Calls Tryz.prog 32 #[] W fun e w' => e = .returned (.agg #[.int .i64 2, .int .i64 0]) ∧ Below W.heap.size W w') := fun W => rnull19 W
  go_enter Tryz.func43, Tryz.ntmps43
  go_wp2_with (go_at_call 32; refine (hN.out _).mono ?_; rintro e w2 ⟨rfl, hb2⟩; obtain ⟨r0, r1, r2, r3, r4, r5, r6⟩ := (hr.grow hb2).cells; obtain ⟨f0, f1, f2, f3, f4, f5, f6⟩ := (hr.grow hb2).frozen)
  exact end_set (v := newI n) Tryz.results43 rfl (Nat.le_refl _) hB.out hb2 hr
def encS (x : Inst) (h : Hd) (now : Int) : Value := .agg #[.int .i64 x.st, .int .i64 x.since, .int .i64 x.fr, .int .i64 x.quiet, .int .i64 x.seen, .int .i64 x.vk, .int .i64 x.vn, .int .i64 h.fo, .int .i64 h.keep, .int .i64 h.nd, .int .i64 h.oe, .int .i64 now]
set_option maxRecDepth 100000 in
set_option maxHeartbeats 4000000 in
theorem come40 (x : Inst) (h : Hd) (now s : Int) (w : World) (hs : s = 1 ∨ s = 2 ∨ s = 3 ∨ s = 4 ∨ s = 5) : Calls Tryz.prog 141 #[encS x h now, .int .i64 s] w fun e w' => e = .returned (encI (comeI x s now)) ∧ Below w.heap.size w w' := by
  obtain ⟨st, since, fr, quiet, seen, vk, vn⟩ := x
  obtain ⟨fo, keep, nd, oe⟩ := h
  unfold encS
  simp only
  rcases hs with rfl | rfl | rfl | rfl | rfl
  · by_cases hst : st = 1
    · subst hst
      have hc : comeI ⟨1, since, fr, quiet, seen, vk, vn⟩ 1 now = ⟨1, since, -1, -1, seen, vk, vn⟩ := by simp [comeI]
      rw [hc]; clear hc
      go_enter Tryz.func141, Tryz.ntmps141
      go_wp2
      exact ret_cellI (i := ⟨1, since, -1, -1, seen, vk, vn⟩) Tryz.results141 rfl (iNew1 w _ ⟨1, since, -1, -1, seen, vk, vn⟩) ⟨rfl, (bW0 _ _).alloc (by simp) _⟩
    · have hst2 : (st == 1) = false := by simpa using hst
      have hst3 : (st != 1) = true := by simpa using hst
      have hc : comeI ⟨st, since, fr, quiet, seen, vk, vn⟩ 1 now = ⟨1, now, -1, -1, seen, vk, vn⟩ := by simp [comeI, hst]
      rw [hc]; clear hc
      go_enter Tryz.func141, Tryz.ntmps141
      go_wp2
      exact ret_cellI (i := ⟨1, now, -1, -1, seen, vk, vn⟩) Tryz.results141 rfl (iNew1 w _ ⟨1, now, -1, -1, seen, vk, vn⟩) ⟨rfl, (bW0 _ _).alloc (by simp) _⟩
  · by_cases hst : st = 2
    · subst hst
      have hc : comeI ⟨2, since, fr, quiet, seen, vk, vn⟩ 2 now = ⟨2, since, fr, quiet, seen, vk, vn⟩ := by simp [comeI]
      rw [hc]; clear hc
      go_enter Tryz.func141, Tryz.ntmps141
      go_wp2
      exact ret_cellI (i := ⟨2, since, fr, quiet, seen, vk, vn⟩) Tryz.results141 rfl (iNew1 w _ ⟨2, since, fr, quiet, seen, vk, vn⟩) ⟨rfl, (bW0 _ _).alloc (by simp) _⟩
    · have hst2 : (st == 2) = false := by simpa using hst
      have hst3 : (st != 2) = true := by simpa using hst
      have hc : comeI ⟨st, since, fr, quiet, seen, vk, vn⟩ 2 now = ⟨2, now, fr, quiet, seen, vk, vn⟩ := by simp [comeI, hst]
      rw [hc]; clear hc
      go_enter Tryz.func141, Tryz.ntmps141
      go_wp2
      exact ret_cellI (i := ⟨2, now, fr, quiet, seen, vk, vn⟩) Tryz.results141 rfl (iNew1 w _ ⟨2, now, fr, quiet, seen, vk, vn⟩) ⟨rfl, (bW0 _ _).alloc (by simp) _⟩
  · by_cases hst : st = 3
    · subst hst
      have hc : comeI ⟨3, since, fr, quiet, seen, vk, vn⟩ 3 now = ⟨3, since, fr, -1, seen, vk, vn⟩ := by simp [comeI]
      rw [hc]; clear hc
      go_enter Tryz.func141, Tryz.ntmps141
      go_wp2
      exact ret_cellI (i := ⟨3, since, fr, -1, seen, vk, vn⟩) Tryz.results141 rfl (iNew1 w _ ⟨3, since, fr, -1, seen, vk, vn⟩) ⟨rfl, (bW0 _ _).alloc (by simp) _⟩
    · have hst2 : (st == 3) = false := by simpa using hst
      have hst3 : (st != 3) = true := by simpa using hst
      have hc : comeI ⟨st, since, fr, quiet, seen, vk, vn⟩ 3 now = ⟨3, now, fr, -1, seen, vk, vn⟩ := by simp [comeI, hst]
      rw [hc]; clear hc
      go_enter Tryz.func141, Tryz.ntmps141
      go_wp2
      exact ret_cellI (i := ⟨3, now, fr, -1, seen, vk, vn⟩) Tryz.results141 rfl (iNew1 w _ ⟨3, now, fr, -1, seen, vk, vn⟩) ⟨rfl, (bW0 _ _).alloc (by simp) _⟩
  · by_cases hst : st = 4
    · subst hst
      have hc : comeI ⟨4, since, fr, quiet, seen, vk, vn⟩ 4 now = ⟨4, since, -1, -1, seen, vk, vn⟩ := by simp [comeI]
      rw [hc]; clear hc
      go_enter Tryz.func141, Tryz.ntmps141
      go_wp2
      exact ret_cellI (i := ⟨4, since, -1, -1, seen, vk, vn⟩) Tryz.results141 rfl (iNew1 w _ ⟨4, since, -1, -1, seen, vk, vn⟩) ⟨rfl, (bW0 _ _).alloc (by simp) _⟩
    · have hst2 : (st == 4) = false := by simpa using hst
      have hst3 : (st != 4) = true := by simpa using hst
      have hc : comeI ⟨st, since, fr, quiet, seen, vk, vn⟩ 4 now = ⟨4, now, -1, -1, seen, vk, vn⟩ := by simp [comeI, hst]
      rw [hc]; clear hc
      go_enter Tryz.func141, Tryz.ntmps141
      go_wp2
      exact ret_cellI (i := ⟨4, now, -1, -1, seen, vk, vn⟩) Tryz.results141 rfl (iNew1 w _ ⟨4, now, -1, -1, seen, vk, vn⟩) ⟨rfl, (bW0 _ _).alloc (by simp) _⟩
  · by_cases hst : st = 5
    · subst hst
      have hc : comeI ⟨5, since, fr, quiet, seen, vk, vn⟩ 5 now = ⟨5, since, -1, -1, seen, vk, vn⟩ := by simp [comeI]
      rw [hc]; clear hc
      go_enter Tryz.func141, Tryz.ntmps141
      go_wp2
      exact ret_cellI (i := ⟨5, since, -1, -1, seen, vk, vn⟩) Tryz.results141 rfl (iNew1 w _ ⟨5, since, -1, -1, seen, vk, vn⟩) ⟨rfl, (bW0 _ _).alloc (by simp) _⟩
    · have hst2 : (st == 5) = false := by simpa using hst
      have hst3 : (st != 5) = true := by simpa using hst
      have hc : comeI ⟨st, since, fr, quiet, seen, vk, vn⟩ 5 now = ⟨5, now, -1, -1, seen, vk, vn⟩ := by simp [comeI, hst]
      rw [hc]; clear hc
      go_enter Tryz.func141, Tryz.ntmps141
      go_wp2
      exact ret_cellI (i := ⟨5, now, -1, -1, seen, vk, vn⟩) Tryz.results141 rfl (iNew1 w _ ⟨5, now, -1, -1, seen, vk, vn⟩) ⟨rfl, (bW0 _ _).alloc (by simp) _⟩
set_option maxRecDepth 100000 in
set_option maxHeartbeats 4000000 in
theorem rto29 (x : Inst) (now s : Int) (w : World) (hs : s = 1 ∨ s = 2 ∨ s = 3 ∨ s = 4 ∨ s = 5) (h3 : ¬ (s = 3 ∧ x.st = 3)) (h2 : s = 2 → x.quiet = -1) : Calls Tryz.prog 79 #[encI x, .int .i64 s, .int .i64 now] w fun e w' => e = .returned (encI (comeI x s now)) ∧ Below w.heap.size w w' := by
  obtain ⟨st, since, fr, quiet, seen, vk, vn⟩ := x
  unfold encI
  simp only at h2 h3 ⊢
  rcases hs with rfl | rfl | rfl | rfl | rfl
  · by_cases hst : st = 1
    · subst hst
      have hc : comeI ⟨1, since, fr, quiet, seen, vk, vn⟩ 1 now = ⟨1, since, -1, -1, seen, vk, vn⟩ := by simp [comeI]
      show Calls _ _ _ _ fun e w' => e = .returned (encI _) ∧ _
      rw [hc]; clear hc
      go_enter Tryz.func79, Tryz.ntmps79
      go_wp2
      exact ret_cellI (i := ⟨1, since, -1, -1, seen, vk, vn⟩) Tryz.results79 rfl (iNew1 w _ ⟨1, since, -1, -1, seen, vk, vn⟩) ⟨rfl, (bW0 _ _).alloc (by simp) _⟩
    · have hst2 : (st == 1) = false := by simpa using hst
      have hst3 : (st != 1) = true := by simpa using hst
      have hc : comeI ⟨st, since, fr, quiet, seen, vk, vn⟩ 1 now = ⟨1, now, -1, -1, seen, vk, vn⟩ := by simp [comeI, hst]
      show Calls _ _ _ _ fun e w' => e = .returned (encI _) ∧ _
      rw [hc]; clear hc
      go_enter Tryz.func79, Tryz.ntmps79
      go_wp2
      exact ret_cellI (i := ⟨1, now, -1, -1, seen, vk, vn⟩) Tryz.results79 rfl (iNew1 w _ ⟨1, now, -1, -1, seen, vk, vn⟩) ⟨rfl, (bW0 _ _).alloc (by simp) _⟩
  · by_cases hst : st = 2
    · subst hst
      obtain rfl : quiet = -1 := h2 rfl
      have hc : comeI ⟨2, since, fr, -1, seen, vk, vn⟩ 2 now = ⟨2, since, fr, -1, seen, vk, vn⟩ := by simp [comeI]
      show Calls _ _ _ _ fun e w' => e = .returned (encI _) ∧ _
      rw [hc]; clear hc
      go_enter Tryz.func79, Tryz.ntmps79
      go_wp2
      exact ret_cellI (i := ⟨2, since, fr, -1, seen, vk, vn⟩) Tryz.results79 rfl (iNew1 w _ ⟨2, since, fr, -1, seen, vk, vn⟩) ⟨rfl, (bW0 _ _).alloc (by simp) _⟩
    · have hst2 : (st == 2) = false := by simpa using hst
      have hst3 : (st != 2) = true := by simpa using hst
      obtain rfl : quiet = -1 := h2 rfl
      have hc : comeI ⟨st, since, fr, -1, seen, vk, vn⟩ 2 now = ⟨2, now, fr, -1, seen, vk, vn⟩ := by simp [comeI, hst]
      show Calls _ _ _ _ fun e w' => e = .returned (encI _) ∧ _
      rw [hc]; clear hc
      go_enter Tryz.func79, Tryz.ntmps79
      go_wp2
      exact ret_cellI (i := ⟨2, now, fr, -1, seen, vk, vn⟩) Tryz.results79 rfl (iNew1 w _ ⟨2, now, fr, -1, seen, vk, vn⟩) ⟨rfl, (bW0 _ _).alloc (by simp) _⟩
  · by_cases hst : st = 3
    · subst hst
      exact absurd ⟨rfl, rfl⟩ h3
    · have hst2 : (st == 3) = false := by simpa using hst
      have hst3 : (st != 3) = true := by simpa using hst
      have hc : comeI ⟨st, since, fr, quiet, seen, vk, vn⟩ 3 now = ⟨3, now, fr, -1, seen, vk, vn⟩ := by simp [comeI, hst]
      show Calls _ _ _ _ fun e w' => e = .returned (encI _) ∧ _
      rw [hc]; clear hc
      go_enter Tryz.func79, Tryz.ntmps79
      go_wp2
      exact ret_cellI (i := ⟨3, now, fr, -1, seen, vk, vn⟩) Tryz.results79 rfl (iNew1 w _ ⟨3, now, fr, -1, seen, vk, vn⟩) ⟨rfl, (bW0 _ _).alloc (by simp) _⟩
  · by_cases hst : st = 4
    · subst hst
      have hc : comeI ⟨4, since, fr, quiet, seen, vk, vn⟩ 4 now = ⟨4, since, -1, -1, seen, vk, vn⟩ := by simp [comeI]
      show Calls _ _ _ _ fun e w' => e = .returned (encI _) ∧ _
      rw [hc]; clear hc
      go_enter Tryz.func79, Tryz.ntmps79
      go_wp2
      exact ret_cellI (i := ⟨4, since, -1, -1, seen, vk, vn⟩) Tryz.results79 rfl (iNew1 w _ ⟨4, since, -1, -1, seen, vk, vn⟩) ⟨rfl, (bW0 _ _).alloc (by simp) _⟩
    · have hst2 : (st == 4) = false := by simpa using hst
      have hst3 : (st != 4) = true := by simpa using hst
      have hc : comeI ⟨st, since, fr, quiet, seen, vk, vn⟩ 4 now = ⟨4, now, -1, -1, seen, vk, vn⟩ := by simp [comeI, hst]
      show Calls _ _ _ _ fun e w' => e = .returned (encI _) ∧ _
      rw [hc]; clear hc
      go_enter Tryz.func79, Tryz.ntmps79
      go_wp2
      exact ret_cellI (i := ⟨4, now, -1, -1, seen, vk, vn⟩) Tryz.results79 rfl (iNew1 w _ ⟨4, now, -1, -1, seen, vk, vn⟩) ⟨rfl, (bW0 _ _).alloc (by simp) _⟩
  · by_cases hst : st = 5
    · subst hst
      have hc : comeI ⟨5, since, fr, quiet, seen, vk, vn⟩ 5 now = ⟨5, since, -1, -1, seen, vk, vn⟩ := by simp [comeI]
      show Calls _ _ _ _ fun e w' => e = .returned (encI _) ∧ _
      rw [hc]; clear hc
      go_enter Tryz.func79, Tryz.ntmps79
      go_wp2
      exact ret_cellI (i := ⟨5, since, -1, -1, seen, vk, vn⟩) Tryz.results79 rfl (iNew1 w _ ⟨5, since, -1, -1, seen, vk, vn⟩) ⟨rfl, (bW0 _ _).alloc (by simp) _⟩
    · have hst2 : (st == 5) = false := by simpa using hst
      have hst3 : (st != 5) = true := by simpa using hst
      have hc : comeI ⟨st, since, fr, quiet, seen, vk, vn⟩ 5 now = ⟨5, now, -1, -1, seen, vk, vn⟩ := by simp [comeI, hst]
      show Calls _ _ _ _ fun e w' => e = .returned (encI _) ∧ _
      rw [hc]; clear hc
      go_enter Tryz.func79, Tryz.ntmps79
      go_wp2
      exact ret_cellI (i := ⟨5, now, -1, -1, seen, vk, vn⟩) Tryz.results79 rfl (iNew1 w _ ⟨5, now, -1, -1, seen, vk, vn⟩) ⟨rfl, (bW0 _ _).alloc (by simp) _⟩
end Go.Proofs.YtiajafljgfpdcaaGreat.S
