/- slices.insertionSortCmpFunc 30. -/
import Derived.Test.YtnbhnnjgnojgbaaSw
namespace Go.Proofs.Ytnbhnnjgnojgbaa
set_option linter.unusedVariables false
open Go.RowKit
def insI (a : Nat) : Nat → List Jb → List Jb
  | 0, D => D
  | j + 1, D => if a < j + 1 ∧ cmpJ (D.getD (j + 1) jb0) (D.getD j jb0) < 0 then insI a j (swp D (j + 1) j) else D
def insO (a : Nat) : Nat → Nat → List Jb → List Jb
  | 0, i, D => D
  | n + 1, i, D => insO a n (i + 1) (insI a i D)
def insF (D : List Jb) (a b : Nat) : List Jb := insO a (b - (a + 1)) (a + 1) D
theorem insI_len (a : Nat) : ∀ (j : Nat) (D : List Jb), (insI a j D).length = D.length
  | 0, D => rfl
  | j + 1, D => by
    unfold insI
    split
    · rw [insI_len a j, swp_len]
    · rfl
theorem insO_len (a : Nat) : ∀ (n i : Nat) (D : List Jb), (insO a n i D).length = D.length
  | 0, i, D => rfl
  | n + 1, i, D => by rw [insO, insO_len a n, insI_len]
theorem insF_len (D : List Jb) (a b : Nat) : (insF D a b).length = D.length := insO_len _ _ _ _
theorem insI_stop {a j : Nat} {D : List Jb} (h : ¬ a < j ∨ ¬ cmpJ (D.getD j jb0) (D.getD (j - 1) jb0) < 0) : insI a j D = D := by
  cases j with
  | zero => rfl
  | succ j =>
    unfold insI
    rw [if_neg (by rintro ⟨h1, h2⟩; rcases h with h | h; exact h h1; exact h h2)]
theorem insI_go {a j : Nat} {D : List Jb} (h1 : a < j) (h2 : cmpJ (D.getD j jb0) (D.getD (j - 1) jb0) < 0) : insI a j D = insI a (j - 1) (swp D j (j - 1)) := by
  cases j with
  | zero => omega
  | succ j =>
    rw [insI, if_pos ⟨h1, h2⟩]
    rfl
set_option maxRecDepth 100000 in
set_option maxHeartbeats 4000000 in
theorem ins30 (c g S base : Nat) (D : List Jb) (a b : Nat) (w : World) (hR : RowJ w g S D) (hg : base ≤ g) (hbs : base ≤ w.heap.size) (hl : D.length ≤ 1000000) (hab : a ≤ b) (hb : b ≤ D.length) :
    Calls Try.prog 30 #[.slice (some ⟨g, 0, none⟩) D.length c, .int .i64 a, .int .i64 b, .func (.func 22) #[] #[]] w fun e w' => SrtQ base g S w (insF D a b) e w' := by
  obtain ⟨i0, hi0⟩ : ∃ i0, i0 = a + 1 := ⟨_, rfl⟩
  have w1 : IntKind.i64.wrap ((a : Int) + 1) = (i0 : Int) := by rw [Go.IntWalk.i64_in _ (by omega)]; omega
  obtain ⟨RR, hRR⟩ : ∃ RR, RR = insF D a b := ⟨_, rfl⟩
  rw [← hRR]
  replace hRR : Hid (insO a (b - i0) i0 D = RR) := by show _ = _; rw [hRR, hi0]; rfl
  have hi0a : a < i0 ∧ i0 ≤ b + 1 := by omega
  clear hi0
  go_enter Try.func30, Try.ntmps30
  go_wp2
  clear w1
  go_loopw [8] (fun iv wr => ∃ (i : Nat) (E : List Jb), iv = .int .i64 i ∧ a < i ∧ i ≤ b + 1 ∧ E.length = D.length ∧ Hid (insO a (b - i) i E = RR) ∧ Hid (RowJ wr g S E) ∧ Hid (Below base w wr)) (fun iv _ => b + 1 - (intOf iv).toNat)
  case atStart => exact ⟨i0, D, rfl, hi0a.1, hi0a.2, rfl, hRR.out, hR, Below.refl _ _⟩
  case round =>
    obtain ⟨i, E, rfl, hai, hib, hEl, hO, hX, hB⟩ := hrel
    by_cases hlt : i < b
    · have hki : (i : Int) < (b : Int) := by omega
      have hOs : Hid (insO a (b - (i + 1)) (i + 1) (insI a i E) = RR) := by
        show _ = _
        have := hO.out
        rw [show b - i = (b - (i + 1)) + 1 by omega, insO] at this
        exact this
      go_wp2
      go_loopw [9] (fun jv wx => ∃ (j : Nat) (F : List Jb), jv = .int .i64 j ∧ a ≤ j ∧ j ≤ i ∧ F.length = D.length ∧ Hid (insI a j F = insI a i E) ∧ Hid (RowJ wx g S F) ∧ Hid (Below base w wx)) (fun jv _ => (intOf jv).toNat)
      case atStart => exact ⟨i, E, rfl, by omega, Nat.le_refl _, hEl, (show insI a i E = insI a i E from rfl), hX.out, hB.out⟩
      case round =>
        obtain ⟨j, F, rfl, haj, hji, hFl, hI, hX, hB⟩ := hrel
        have hjl : j < F.length := by omega
        have hstop : (¬ a < j ∨ ¬ cmpJ (F.getD j jb0) (F.getD (j - 1) jb0) < 0) → Hid (insO a (b - (i + 1)) (i + 1) F = RR) := fun h => by
          show _ = _
          rw [← hOs.out, ← hI.out, insI_stop h]
        by_cases hja : a < j
        · have hjai : (a : Int) < (j : Int) := by omega
          have hgo := fun h => insI_go (D := F) hja h
          obtain ⟨p, hp⟩ : ∃ p, p = j - 1 := ⟨_, rfl⟩
          rw [← hp] at hstop hgo
          have w3 : IntKind.i64.wrap ((j : Int) - 1) = (p : Int) := by rw [Go.IntWalk.i64_in _ (by omega)]; omega
          have hpl : p < F.length := by omega
          have hpj : p < j ∧ a ≤ p ∧ p ≤ i := by omega
          have hjL : (j : Int) < (D.length : Int) := by omega
          have hpL : (p : Int) < (D.length : Int) := by omega
          have n1 : ¬ p = j := by omega
          have n2 : ¬ j = p := by omega
          have n3 : ¬ p * 7 = j * 7 := by omega
          have n4 : ¬ j * 7 = p * 7 := by omega
          have d1 : decide ((a : Int) < (j : Int)) = true := decide_eq_true hjai
          have d2 : decide (a < j) = true := decide_eq_true hja
          clear hp
          obtain ⟨x, hx⟩ : ∃ x, x = F.getD j jb0 := ⟨_, rfl⟩
          obtain ⟨y, hy⟩ : ∃ y, y = F.getD p jb0 := ⟨_, rfl⟩
          rw [← hx, ← hy] at hstop hgo
          have hswp : ∀ W, RowJ W g S F → RowJ (st7 (st7 W g (j * 7) y) g (p * 7) x) g S (swp F j p) := fun W hW => by rw [hx, hy]; exact swp_row hW j p hjl hpl
          have hcj : ∀ W, RowJ W g S F → _ := fun W hW => hW.cells j hjl
          have hcp : ∀ W, RowJ W g S F → _ := fun W hW => hW.cells p hpl
          rw [← hx] at hcj
          rw [← hy] at hcp
          clear hx hy
          have c0 : ∀ q : Bel wr, q.W.cell? ⟨g, j * 7, none⟩ = some (.string x.fo) := fun q => (hcj q.W (hX.out.grow q.h)).1
          have c1 : ∀ q : Bel wr, q.W.cell? ⟨g, j * 7 + 1, none⟩ = some (.string x.gr) := fun q => (hcj q.W (hX.out.grow q.h)).2.1
          have c2 : ∀ q : Bel wr, q.W.cell? ⟨g, j * 7 + 2, none⟩ = some (.int .i64 x.id) := fun q => (hcj q.W (hX.out.grow q.h)).2.2.1
          have c3 : ∀ q : Bel wr, q.W.cell? ⟨g, j * 7 + 3, none⟩ = some (.int .i64 x.iv) := fun q => (hcj q.W (hX.out.grow q.h)).2.2.2.1
          have c4 : ∀ q : Bel wr, q.W.cell? ⟨g, j * 7 + 4, none⟩ = some (.int .i64 x.off) := fun q => (hcj q.W (hX.out.grow q.h)).2.2.2.2.1
          have c5 : ∀ q : Bel wr, q.W.cell? ⟨g, j * 7 + 5, none⟩ = some (.bool x.pa) := fun q => (hcj q.W (hX.out.grow q.h)).2.2.2.2.2.1
          have c6 : ∀ q : Bel wr, q.W.cell? ⟨g, j * 7 + 6, none⟩ = some (.int .i64 x.la) := fun q => (hcj q.W (hX.out.grow q.h)).2.2.2.2.2.2
          have e0 : ∀ q : Bel wr, q.W.cell? ⟨g, p * 7, none⟩ = some (.string y.fo) := fun q => (hcp q.W (hX.out.grow q.h)).1
          have e1 : ∀ q : Bel wr, q.W.cell? ⟨g, p * 7 + 1, none⟩ = some (.string y.gr) := fun q => (hcp q.W (hX.out.grow q.h)).2.1
          have e2 : ∀ q : Bel wr, q.W.cell? ⟨g, p * 7 + 2, none⟩ = some (.int .i64 y.id) := fun q => (hcp q.W (hX.out.grow q.h)).2.2.1
          have e3 : ∀ q : Bel wr, q.W.cell? ⟨g, p * 7 + 3, none⟩ = some (.int .i64 y.iv) := fun q => (hcp q.W (hX.out.grow q.h)).2.2.2.1
          have e4 : ∀ q : Bel wr, q.W.cell? ⟨g, p * 7 + 4, none⟩ = some (.int .i64 y.off) := fun q => (hcp q.W (hX.out.grow q.h)).2.2.2.2.1
          have e5 : ∀ q : Bel wr, q.W.cell? ⟨g, p * 7 + 5, none⟩ = some (.bool y.pa) := fun q => (hcp q.W (hX.out.grow q.h)).2.2.2.2.2.1
          have e6 : ∀ q : Bel wr, q.W.cell? ⟨g, p * 7 + 6, none⟩ = some (.int .i64 y.la) := fun q => (hcp q.W (hX.out.grow q.h)).2.2.2.2.2.2
          have k22 : ∀ q : Bel wr, Calls Try.prog 22 #[.agg #[.string x.fo, .string x.gr, .int .i64 x.id, .int .i64 x.iv, .int .i64 x.off, .bool x.pa, .int .i64 x.la], .agg #[.string y.fo, .string y.gr, .int .i64 y.id, .int .i64 y.iv, .int .i64 y.off, .bool y.pa, .int .i64 y.la]] q.W fun e w' => e = .returned (.int .i64 (cmpJ x y)) ∧ Below q.W.heap.size q.W w' := fun q => cmp22 x y q.W
          obtain ⟨C, hC⟩ : ∃ C, C = cmpJ x y := ⟨_, rfl⟩
          rw [← hC] at k22 hstop hgo
          clear hC
          by_cases hc : C < 0
          · have d3 : decide (C < 0) = true := decide_eq_true hc
            have hIn : Hid (insI a p (swp F j p) = insI a i E) := by show _ = _; rw [← hgo hc]; exact hI.out
            clear hstop hgo
            go_upto_region 4 with fail
            refine wp_region_bel (by kernel_rfl) (by kernel_rfl) ?_
            repeat (go_big_quiet_step (first | (go_at_call 22; exact Calls.bel (k22 _))))
            refine wpQuiet_nil ?_
            rintro wq ⟨⟨wz, hq⟩, rfl⟩
            have hXq : RowJ wq g S F := hX.out.grow hq
            have hBq : Below base w wq := hB.out.trans (hq.mono (Nat.le_trans hbs hB.out.size))
            obtain ⟨x0, x1, x2, x3, x4, x5, x6⟩ := hcj wq hXq
            obtain ⟨y0, y1, y2, y3, y4, y5, y6⟩ := hcp wq hXq
            have hfz := hXq.frozen
            have hnext : Hid (RowJ (st7 (st7 wq g (j * 7) y) g (p * 7) x) g S (swp F j p)) := hswp wq hXq
            have hBn : Hid (Below base w (st7 (st7 wq g (j * 7) y) g (p * 7) x)) := st7_below (st7_below hBq hg) hg
            clear c0 c1 c2 c3 c4 c5 c6 e0 e1 e2 e3 e4 e5 e6 k22 hq hcj hcp hswp hXq hBq
            go_upto_region 6 with fail
            go_region_law (fail)
            all_goals
              go_wp2
              refine ⟨⟨p, swp F j p, rfl, by omega, by omega, by rw [swp_len]; exact hFl, hIn.out, ?_, ?_⟩, by simp [intOf]; omega⟩
              · exact hnext.out.grow ((Below.refl _ _).drew)
              · exact hBn.out.drew
          · have d3 : decide (C < 0) = false := decide_eq_false hc
            have hIn := hstop (.inr hc)
            clear hstop hgo hswp
            go_upto_region 4 with fail
            refine wp_region_bel (by kernel_rfl) (by kernel_rfl) ?_
            repeat (go_big_quiet_step (first | (go_at_call 22; exact Calls.bel (k22 _))))
            refine wpQuiet_nil ?_
            rintro wq ⟨⟨wz, hq⟩, rfl⟩
            have hXq : Hid (RowJ wq g S F) := hX.out.grow hq
            have hBq : Hid (Below base w wq) := hB.out.trans (hq.mono (Nat.le_trans hbs hB.out.size))
            clear c0 c1 c2 c3 c4 c5 c6 e0 e1 e2 e3 e4 e5 e6 k22 hq hcj hcp
            go_wp2
            refine ⟨⟨i + 1, F, by go_num, by omega, by omega, hFl, hIn.out, hXq.out, hBq.out⟩, by simp [intOf]; omega⟩
        · have hjai : ¬ (a : Int) < (j : Int) := by omega
          have d1 : decide ((a : Int) < (j : Int)) = false := decide_eq_false hjai
          have d2 : decide (a < j) = false := decide_eq_false hja
          have hIn := hstop (.inl hja)
          clear hstop
          go_upto_region 4 with fail
          refine wp_region_bel (by kernel_rfl) (by kernel_rfl) ?_
          repeat (go_big_quiet_step (fail))
          refine wpQuiet_nil ?_
          rintro wq ⟨⟨wz, hq⟩, rfl⟩
          have hXq : Hid (RowJ wq g S F) := hX.out.grow hq
          have hBq : Hid (Below base w wq) := hB.out.trans (hq.mono (Nat.le_trans hbs hB.out.size))
          clear hq
          go_wp2
          refine ⟨⟨i + 1, F, by go_num, by omega, by omega, hFl, hIn.out, hXq.out, hBq.out⟩, by simp [intOf]; omega⟩
    · have hki : ¬ (i : Int) < (b : Int) := by omega
      have hEE : E = RR := by
        have := hO.out
        rw [show b - i = 0 by omega] at this
        exact this
      subst hEE
      go_wp2
      go_end0
      exact ⟨rfl, hX.out, hB.out⟩
end Go.Proofs.Ytnbhnnjgnojgbaa
