/-
  What breaches at each evaluation from one moment on is alerting from the first one on that is For or more later, and pending ahead of it, whatever holds, moments and gaps are handed in: StateHold returns true and changes no argument.
-/
import Derived.Test.YtcfhpndoaiknhaaRows
import Derived.WalkKit
import Derived.ProofKit
import Derived.OpenShut
import Derived.ShutString
import Derived.ChangeOld
import Derived.Below
import Derived.SizedLaws
import Derived.Test.YtcfhpndoaiknhaaEq
import Derived.Test.YtcfhpndoaiknhaaQt
namespace Go.Proofs.Ytcfhpndoaiknhaa.stateHold
open Go.ChangeShapes Go.WideShapes Go.ChangeAt Go.RowKit
open Go.ChangeMaps (open_string shut_string)
set_option linter.unusedVariables false
theorem own : ownKnob Try.prog.godebug = none := by kernel_rfl
theorem laidOut : laidOutB Try.prog = true := by kernel_rfl
/-- How it stands with a breach from now on, behind k evaluations. -/
def HoldI (now fo : Int) (k : Nat) (nw : Int) (X : Inst) : Prop := X.quiet = -1 ∧ (now ≤ nw ∧ nw ≤ now + k * 1000000) ∧ ((k = 0 ∧ nw = now ∧ (X.st = 1 ∨ X.st = 4 ∨ X.st = 5)) ∨ (0 < k ∧ X.fr = now ∧ X.st = if fo ≤ nw - now then 3 else 2))
theorem HoldI.step {now fo keep nd oe : Int} {k : Nat} {nw : Int} {X : Inst} (h : HoldI now fo k nw X) (d : Int) (h0 : 0 ≤ d) (h1 : d ≤ 1000000) (nw' : Int) (hn : nw' = if 0 < k then nw + d else nw) :
    HoldI now fo (k + 1) nw' (stepI X ⟨fo, keep, nd, oe⟩ 2 1 1 nw') ∧ (stepI X ⟨fo, keep, nd, oe⟩ 2 1 1 nw').fr = now ∧ (stepI X ⟨fo, keep, nd, oe⟩ 2 1 1 nw').st = (if fo ≤ nw' - now then 3 else 2) := by
  obtain ⟨st, since, fr, quiet, seen, vk, vn⟩ := X
  unfold HoldI at h
  obtain ⟨hq, hb, hc⟩ := h
  simp only at hq hb hc
  subst hq
  have hm : meansI ⟨fo, keep, nd, oe⟩ 2 = 2 := by simp [meansI]
  have key : (stepI ⟨st, since, fr, -1, seen, vk, vn⟩ ⟨fo, keep, nd, oe⟩ 2 1 1 nw').quiet = -1 ∧ (stepI ⟨st, since, fr, -1, seen, vk, vn⟩ ⟨fo, keep, nd, oe⟩ 2 1 1 nw').fr = now ∧ (stepI ⟨st, since, fr, -1, seen, vk, vn⟩ ⟨fo, keep, nd, oe⟩ 2 1 1 nw').st = (if fo ≤ nw' - now then 3 else 2) := by
    unfold stepI moveI
    rw [hm, if_pos rfl]
    rcases hc with ⟨rfl, rfl, hs⟩ | ⟨hk, rfl, hs⟩
    · rw [if_neg (by omega)] at hn
      subst hn
      have n3 : ¬ st = 3 := by omega
      have n2 : ¬ st = 2 := by omega
      unfold alertI begI comeI
      simp only [if_neg n3, if_neg n2]
      split <;> simp
    · rw [if_pos hk] at hn
      by_cases h3 : fo ≤ nw - fr
      · rw [if_pos h3] at hs
        subst hs
        have h4 : fo ≤ nw' - fr := by omega
        unfold alertI
        simp [h4]
      · rw [if_neg h3] at hs
        subst hs
        unfold alertI begI comeI
        simp only [if_pos]
        by_cases h4 : fo ≤ nw' - fr
        · simp [h4]
        · simp [h4]
  refine ⟨?_, key.2⟩
  unfold HoldI
  refine ⟨key.1, ?_, .inr ⟨by omega, key.2⟩⟩
  split at hn
  · push_cast; omega
  · push_cast; omega

set_option maxRecDepth 100000 in
set_option maxHeartbeats 8000000 in
theorem walk (h : Hd) (now : Int) (v : Value) (l : List Int) (ahead : Int) (w : World) (hH : HolIn h) (hN : I64 now) (hP : Ins w v l) (hE : ∀ p ∈ l, I64 p) (hL : l.length ≤ 17592186043904) (hA : I64 ahead) :
    Calls Try.prog 4 #[encH h, .int .i64 now, v, .int .i64 ahead] w fun e w' => e = .returned (.bool true) ∧ Below w.heap.size w w' := by
  obtain ⟨a, c, rfl⟩ := hP.shape
  obtain ⟨fo, keep, nd, oe⟩ := h
  unfold encH
  simp only
  have hlive := live9
  have hright : Hid (∀ W, Calls Try.prog 8 #[.agg #[.int .i64 fo, .int .i64 keep, .int .i64 nd, .int .i64 oe], .int .i64 now] W fun e w' => e = .returned (.bool (rB ⟨fo, keep, nd, oe⟩ now)) ∧ Below W.heap.size W w') := fun W => right8 ⟨fo, keep, nd, oe⟩ now W
  have hgl : Hid (∀ W, Below w.heap.size w W → Ins W (.slice a l.length c) l) := fun W h => hP.grow h
  have hw0 : Hid (Below w.heap.size w (w.alloc (.cells #[.int .i64 fo, .int .i64 keep, .int .i64 nd, .int .i64 oe] 27)) ∧ Blk (w.alloc (.cells #[.int .i64 fo, .int .i64 keep, .int .i64 nd, .int .i64 oe] 27)) w.heap.size (.cells #[.int .i64 fo, .int .i64 keep, .int .i64 nd, .int .i64 oe] 27)) := ⟨bW0 w _, heap_new w _⟩
  obtain ⟨n, hn⟩ : ∃ n, Hid (n = l.length) := ⟨_, rfl⟩
  rw [← hn.out] at hL hgl ⊢
  clear hP hH hA
  replace hE : Hid (∀ p ∈ l, I64 p) := hE

  by_cases h100 : 100 < n
  · have h100b : (100 : Int) < (n : Int) := by omega
    clear hright hE hgl hN
    go_enter Try.func4, Try.ntmps4
    go_wp2_with (first | (go_at_call 9; refine (hlive _).mono ?_; rintro e w2 ⟨rfl, hb2⟩; have hE2 : Hid (Below w.heap.size w w2) := hw0.out.1.trans (hb2.mono hw0.out.1.size)))
    go_ret
    exact ⟨rfl, hE2.out⟩

  have h100b : ¬ (100 : Int) < (n : Int) := by omega
  cases hr : rB ⟨fo, keep, nd, oe⟩ now with
  | false =>
    rw [hr] at hright
    clear hr hE hgl hN
    go_enter Try.func4, Try.ntmps4
    go_wp2_with (first | (go_at_call 8; refine (hright.out _).mono ?_; rintro e w1 ⟨rfl, hb1⟩; have hJ1 : Hid (Below w.heap.size w w1 ∧ Blk w1 w.heap.size (.cells #[.int .i64 fo, .int .i64 keep, .int .i64 nd, .int .i64 oe] 27)) := ⟨hw0.out.1.trans (hb1.mono hw0.out.1.size), hw0.out.2.grow hb1⟩; clear hb1; have ch1 := hd_cell hJ1.out.2) | (go_at_call 9; refine (hlive _).mono ?_; rintro e w2 ⟨rfl, hb2⟩; have hE2 : Hid (Below w.heap.size w w2) := hJ1.out.1.trans (hb2.mono hJ1.out.1.size)))
    go_ret
    exact ⟨rfl, hE2.out⟩
  | true =>
  have hr2 : (0 ≤ now ∧ now ≤ 1099511627776) ∧ (0 ≤ fo ∧ fo ≤ 1000000) ∧ 0 ≤ keep ∧ keep ≤ 1000000 := of_decide_eq_true hr
  rw [hr] at hright
  clear hr hN
  by_cases h39 : 549755813888 < now
  · clear hE hgl hr2
    go_enter Try.func4, Try.ntmps4
    go_wp2_with (first | (go_at_call 8; refine (hright.out _).mono ?_; rintro e w1 ⟨rfl, hb1⟩; have hJ1 : Hid (Below w.heap.size w w1 ∧ Blk w1 w.heap.size (.cells #[.int .i64 fo, .int .i64 keep, .int .i64 nd, .int .i64 oe] 27)) := ⟨hw0.out.1.trans (hb1.mono hw0.out.1.size), hw0.out.2.grow hb1⟩; clear hb1; have ch1 := hd_cell hJ1.out.2) | (go_at_call 9; refine (hlive _).mono ?_; rintro e w2 ⟨rfl, hb2⟩; have hE2 : Hid (Below w.heap.size w w2) := hJ1.out.1.trans (hb2.mono hJ1.out.1.size)))
    go_ret
    exact ⟨rfl, hE2.out⟩

  obtain ⟨⟨hn0, -⟩, ⟨hf0, hf1⟩, -⟩ := hr2
  have hnew : Hid (∀ W, Calls Try.prog 13 #[.int .i64 now] W fun e w' => e = .returned (.agg #[.int .i64 1, .int .i64 now, .int .i64 (-1), .int .i64 (-1), .int .i64 now, .int .i64 2, .int .i64 0]) ∧ Below W.heap.size W w') := fun W => new13 now W
  have hnum : Hid (∀ W, Calls Try.prog 20 #[.int .i64 1] W fun e w' => e = .returned (.agg #[.int .i64 1, .int .i64 1]) ∧ Below W.heap.size W w') := fun W => rnum20 1 W (by decide) (by decide)
  have hnull : Hid (∀ W, Calls Try.prog 19 #[] W fun e w' => e = .returned (.agg #[.int .i64 2, .int .i64 0]) ∧ Below W.heap.size W w') := fun W => rnull19 W
  have hstart : Hid (HoldI now fo 0 now (newI now)) := ⟨rfl, ⟨Int.le_refl _, by omega⟩, .inl ⟨rfl, rfl, .inl rfl⟩⟩

  by_cases h3 : ahead = 3 ∨ ahead = 4
  · rcases h3 with rfl | rfl
    · have hstep : Hid (∀ W, Calls Try.prog 17 #[.agg #[.int .i64 1, .int .i64 now, .int .i64 (-1), .int .i64 (-1), .int .i64 now, .int .i64 2, .int .i64 0], .agg #[.int .i64 0, .int .i64 0, .int .i64 1, .int .i64 1], .int .i64 3, .agg #[.int .i64 2, .int .i64 0], .int .i64 now] W fun e w' => e = .returned (encI (stepI (newI now) ⟨0, 0, 1, 1⟩ 3 2 0 now)) ∧ Below W.heap.size W w') := fun W => step17 (newI now) ⟨0, 0, 1, 1⟩ 3 2 0 now W (fun h => absurd (show (1 : Int) = 2 from h) (by decide)) (fun h => absurd rfl h)
      have hY2 : Hid (HoldI now fo 0 now (stepI (newI now) ⟨0, 0, 1, 1⟩ 3 2 0 now)) := by
        refine ⟨rfl, ⟨Int.le_refl _, by omega⟩, .inl ⟨rfl, rfl, ?_⟩⟩
        first | exact .inr (.inl rfl) | exact .inr (.inr rfl)
      generalize stepI (newI now) ⟨0, 0, 1, 1⟩ 3 2 0 now = y at *
      replace hstep : Hid (∀ W, Calls Try.prog 17 #[.agg #[.int .i64 1, .int .i64 now, .int .i64 (-1), .int .i64 (-1), .int .i64 now, .int .i64 2, .int .i64 0], .agg #[.int .i64 0, .int .i64 0, .int .i64 1, .int .i64 1], .int .i64 3, .agg #[.int .i64 2, .int .i64 0], .int .i64 now] W fun e w' => e = .returned (.agg #[.int .i64 y.st, .int .i64 y.since, .int .i64 y.fr, .int .i64 y.quiet, .int .i64 y.seen, .int .i64 y.vk, .int .i64 y.vn]) ∧ Below W.heap.size W w') := hstep
      go_enter Try.func4, Try.ntmps4
      go_wp2_with (first | (go_at_call 8; refine (hright.out _).mono ?_; rintro e w1 ⟨rfl, hb1⟩; have hJ1 : Hid (Below w.heap.size w w1 ∧ Blk w1 w.heap.size (.cells #[.int .i64 fo, .int .i64 keep, .int .i64 nd, .int .i64 oe] 27)) := ⟨hw0.out.1.trans (hb1.mono hw0.out.1.size), hw0.out.2.grow hb1⟩; clear hb1; have ch1 := hd_cell hJ1.out.2) | (go_at_call 13; refine (hnew.out _).mono ?_; rintro e w2 ⟨rfl, hb2⟩; have hJ2 : Hid (LpJ w (w2.alloc (.cells #[.int .i64 1, .int .i64 now, .int .i64 (-1), .int .i64 (-1), .int .i64 now, .int .i64 2, .int .i64 0] 25)) w.heap.size w2.heap.size fo keep nd oe (newI now)) := ⟨iNew w2 (newI now), (hJ1.out.2.grow hb2).grow (bW0 _ _), (hJ1.out.1.trans (hb2.mono hJ1.out.1.size)).alloc (Nat.le_trans hJ1.out.1.size hb2.size) _, Nat.le_refl _, (by have := (hJ1.out.2).lt; have := hb2.size; omega), Nat.le_trans hJ1.out.1.size hb2.size⟩; clear hb2))
      generalize w2.heap.size = g at *
      generalize w2.alloc (.cells #[.int .i64 1, .int .i64 now, .int .i64 (-1), .int .i64 (-1), .int .i64 now, .int .i64 2, .int .i64 0] 25) = wl at *
      clear hnew hJ1 ch1
      have cx0 : ∀ p : Bel wl, p.W.cell? ⟨g, 0, none⟩ = some (.int .i64 1) := fun p => (((hJ2.out.grow p.h).1).cells).1
      have cx1 : ∀ p : Bel wl, p.W.cell? ⟨g, 1, none⟩ = some (.int .i64 now) := fun p => (((hJ2.out.grow p.h).1).cells).2.1
      have cx2 : ∀ p : Bel wl, p.W.cell? ⟨g, 2, none⟩ = some (.int .i64 (-1)) := fun p => (((hJ2.out.grow p.h).1).cells).2.2.1
      have cx3 : ∀ p : Bel wl, p.W.cell? ⟨g, 3, none⟩ = some (.int .i64 (-1)) := fun p => (((hJ2.out.grow p.h).1).cells).2.2.2.1
      have cx4 : ∀ p : Bel wl, p.W.cell? ⟨g, 4, none⟩ = some (.int .i64 now) := fun p => (((hJ2.out.grow p.h).1).cells).2.2.2.2.1
      have cx5 : ∀ p : Bel wl, p.W.cell? ⟨g, 5, none⟩ = some (.int .i64 2) := fun p => (((hJ2.out.grow p.h).1).cells).2.2.2.2.2.1
      have cx6 : ∀ p : Bel wl, p.W.cell? ⟨g, 6, none⟩ = some (.int .i64 0) := fun p => (((hJ2.out.grow p.h).1).cells).2.2.2.2.2.2
      have ch0 : ∀ p : Bel wl, p.W.cell? ⟨w.heap.size, 0, none⟩ = some (.int .i64 fo) := fun p => (hd_cell (hJ2.out.grow p.h).2.1).1
      have ch1 : ∀ p : Bel wl, p.W.cell? ⟨w.heap.size, 1, none⟩ = some (.int .i64 keep) := fun p => (hd_cell (hJ2.out.grow p.h).2.1).2.1
      have ch2 : ∀ p : Bel wl, p.W.cell? ⟨w.heap.size, 2, none⟩ = some (.int .i64 nd) := fun p => (hd_cell (hJ2.out.grow p.h).2.1).2.2.1
      have ch3 : ∀ p : Bel wl, p.W.cell? ⟨w.heap.size, 3, none⟩ = some (.int .i64 oe) := fun p => (hd_cell (hJ2.out.grow p.h).2.1).2.2.2
      have k19 : ∀ p : Bel wl, Calls Try.prog 19 #[] p.W fun e w' => e = .returned (.agg #[.int .i64 2, .int .i64 0]) ∧ Below p.W.heap.size p.W w' := fun p => hnull.out p.W
      have k17 : ∀ p : Bel wl, Calls Try.prog 17 #[.agg #[.int .i64 1, .int .i64 now, .int .i64 (-1), .int .i64 (-1), .int .i64 now, .int .i64 2, .int .i64 0], .agg #[.int .i64 0, .int .i64 0, .int .i64 1, .int .i64 1], .int .i64 3, .agg #[.int .i64 2, .int .i64 0], .int .i64 now] p.W fun e w' => e = .returned (.agg #[.int .i64 y.st, .int .i64 y.since, .int .i64 y.fr, .int .i64 y.quiet, .int .i64 y.seen, .int .i64 y.vk, .int .i64 y.vn]) ∧ Below p.W.heap.size p.W w' := fun p => hstep.out p.W
      refine Yquiettail.region_tail (C := fun W => ∃ p : Bel wl, W = p.W) 6 (by kernel_rfl) (by kernel_rfl) ⟨⟨wl.drew, (Below.refl _ _).drew⟩, rfl⟩ ?_
      dsimp only [List.take, List.drop]
      repeat (go_big_quiet_step (first | (go_at_call 19; exact Calls.bel (k19 _)) | (go_at_call 17; exact Calls.bel (k17 _))))
      refine wpQuiet_nil ?_
      rintro w5 ⟨⟨wz, h5⟩, rfl⟩
      replace h5 : Below wl.heap.size wl w5 := h5
      clear cx0 cx1 cx2 cx3 cx4 cx5 cx6 ch0 ch1 ch2 ch3
      have hJ5 : Hid (LpJ w w5 w.heap.size g fo keep nd oe (newI now)) := hJ2.out.grow h5
      have hJ6 : Hid (LpJ w ((((((((w5.setCell ⟨g, 0, none⟩ (.int .i64 y.st)).setCell ⟨g, 1, none⟩ (.int .i64 y.since)).setCell ⟨g, 2, none⟩ (.int .i64 y.fr)).setCell ⟨g, 3, none⟩ (.int .i64 y.quiet)).setCell ⟨g, 4, none⟩ (.int .i64 y.seen)).setCell ⟨g, 5, none⟩ (.int .i64 y.vk)).setCell ⟨g, 6, none⟩ (.int .i64 y.vn))) w.heap.size g fo keep nd oe y) := LpJ.set (W := w5) (g := g) (Y := y) hJ5.out
      obtain ⟨f0, f1, f2, f3, f4, f5, f6⟩ := hJ5.out.1.frozen
      obtain ⟨p0, p1, p2, p3, p4, p5, p6⟩ := hJ5.out.1.cells
      clear h5
      go_wp2
      clear p0 p1 p2 p3 p4 p5 p6 f0 f1 f2 f3 f4 f5 f6 hJ5 hJ2 k19 k17 hstep hstart
      generalize (((((((w5.setCell ⟨g, 0, none⟩ (.int .i64 y.st)).setCell ⟨g, 1, none⟩ (.int .i64 y.since)).setCell ⟨g, 2, none⟩ (.int .i64 y.fr)).setCell ⟨g, 3, none⟩ (.int .i64 y.quiet)).setCell ⟨g, 4, none⟩ (.int .i64 y.seen)).setCell ⟨g, 5, none⟩ (.int .i64 y.vk)).setCell ⟨g, 6, none⟩ (.int .i64 y.vn)) = wl at *
      have hJ2 := hJ6
      have hX0 := hY2
      clear hJ6 hY2
      replace hJ2 : Hid (LpJ w wl w.heap.size g fo keep nd oe y) := hJ2
      clear hnull hw0 hright
      go_loopw [1, 11] (fun nwv i wr => ∃ k : Nat, ∃ nw : Int, ∃ X : Inst, k ≤ n ∧ nwv = .int .i64 nw ∧ i = .int .i64 k ∧ Hid (HoldI now fo k nw X) ∧ Hid (LpJ w wr w.heap.size g fo keep nd oe X)) (fun _ i _ => n - (intOf i).toNat)
      case atStart => exact ⟨0, now, y, Nat.zero_le _, rfl, rfl, hX0, hJ2⟩
      case round =>
        obtain ⟨k, nw, X, hk, rfl, rfl, hHo, hJ⟩ := hrel
        by_cases hlt : k < n
        · have hki : (k : Int) < (n : Int) := by omega
          have hB : Hid (Below w.heap.size w wr) := hJ.out.2.2.1
          obtain ⟨b, oo, rfl, x0⟩ := in_at (hgl.out wr hB.out) k (by rw [← hn.out]; exact hlt)
          generalize l.getD k 0 = d at *
          by_cases hd0 : d < 0
          · go_wp2_with (first | (go_at_call 9; refine (hlive _).mono ?_; rintro e w2 ⟨rfl, hb2⟩; have hE2 : Hid (Below w.heap.size w w2) := hB.out.trans (hb2.mono hB.out.size)))
            go_ret
            exact ⟨rfl, hE2.out⟩
          by_cases hd1 : 1000000 < d
          · go_wp2_with (first | (go_at_call 9; refine (hlive _).mono ?_; rintro e w2 ⟨rfl, hb2⟩; have hE2 : Hid (Below w.heap.size w w2) := hB.out.trans (hb2.mono hB.out.size)))
            go_ret
            exact ⟨rfl, hE2.out⟩
          have hHb := hHo.out.2.1
          have hfr2 : Hid (X.st = 2 → X.fr = now) := fun h => by
            rcases hHo.out.2.2 with ⟨-, -, h5⟩ | ⟨-, h5, -⟩
            · omega
            · exact h5
          have hq2 : Hid (X.quiet = -1) := hHo.out.1
          have hbig : 0 ≤ nw ∧ nw ≤ 700000000000 := by
            have : (k : Int) ≤ 100 := by omega
            omega
          clear hHb
          rcases Nat.eq_zero_or_pos k with hk0 | hk0
          · subst hk0
            have x0b : wr.cell? ⟨b, oo, none⟩ = some (.int .i64 d) := by simpa using x0
            have hNW : nw = if 0 < 0 then nw + d else nw := by simp
            have hfr : X.st = 2 → -9223372036854775808 ≤ nw - X.fr ∧ nw - X.fr ≤ 9223372036854775807 := fun h => by have := hfr2.out h; omega
            have hqq : X.quiet ≠ -1 → -9223372036854775808 ≤ nw - X.quiet ∧ nw - X.quiet ≤ 9223372036854775807 := fun h => absurd hq2.out h
            by_cases hle : fo ≤ nw - now
            · obtain ⟨hs1, hs2, hs3⟩ := hHo.out.step (keep := keep) (nd := nd) (oe := oe) d (by omega) (by omega) nw hNW
              rw [if_pos hle] at hs3
              have hstep : Hid (∀ W, Calls Try.prog 17 #[.agg #[.int .i64 X.st, .int .i64 X.since, .int .i64 X.fr, .int .i64 X.quiet, .int .i64 X.seen, .int .i64 X.vk, .int .i64 X.vn], .agg #[.int .i64 fo, .int .i64 keep, .int .i64 nd, .int .i64 oe], .int .i64 2, .agg #[.int .i64 1, .int .i64 1], .int .i64 nw] W fun e w' => e = .returned (encI (stepI X ⟨fo, keep, nd, oe⟩ 2 1 1 nw)) ∧ Below W.heap.size W w') := fun W => step17 X ⟨fo, keep, nd, oe⟩ 2 1 1 nw W hfr hqq
              have hy : ∃ ys, stepI X ⟨fo, keep, nd, oe⟩ 2 1 1 nw = (⟨3, ys, now, (-1), nw, 1, 1⟩ : Inst) := by
                have h7 := step_seen X ⟨fo, keep, nd, oe⟩ 2 1 1 nw
                have h8 := hs1.1
                generalize stepI X ⟨fo, keep, nd, oe⟩ 2 1 1 nw = z at *
                obtain ⟨z1, z2, z3, z4, z5, z6, z7⟩ := z
                simp only at hs2 hs3 h7 h8
                obtain ⟨h7, h9, h10⟩ := h7
                subst hs2 hs3 h7 h8 h9 h10
                exact ⟨z2, rfl⟩
              obtain ⟨ys, hy⟩ := hy
              rw [hy] at hstep hs1
              replace hstep : Hid (∀ W, Calls Try.prog 17 #[.agg #[.int .i64 X.st, .int .i64 X.since, .int .i64 X.fr, .int .i64 X.quiet, .int .i64 X.seen, .int .i64 X.vk, .int .i64 X.vn], .agg #[.int .i64 fo, .int .i64 keep, .int .i64 nd, .int .i64 oe], .int .i64 2, .agg #[.int .i64 1, .int .i64 1], .int .i64 nw] W fun e w' => e = .returned (.agg #[.int .i64 3, .int .i64 ys, .int .i64 now, .int .i64 (-1), .int .i64 nw, .int .i64 1, .int .i64 1]) ∧ Below W.heap.size W w') := hstep
              replace hs1 : Hid (HoldI now fo (0 + 1) nw (⟨3, ys, now, (-1), nw, 1, 1⟩ : Inst)) := hs1
              clear hy hs2 hs3 hfr hqq hNW
              go_wp2
              have cx0 : ∀ p : Bel wr, p.W.cell? ⟨g, 0, none⟩ = some (.int .i64 X.st) := fun p => (((hJ.out.grow p.h).1).cells).1
              have cx1 : ∀ p : Bel wr, p.W.cell? ⟨g, 1, none⟩ = some (.int .i64 X.since) := fun p => (((hJ.out.grow p.h).1).cells).2.1
              have cx2 : ∀ p : Bel wr, p.W.cell? ⟨g, 2, none⟩ = some (.int .i64 X.fr) := fun p => (((hJ.out.grow p.h).1).cells).2.2.1
              have cx3 : ∀ p : Bel wr, p.W.cell? ⟨g, 3, none⟩ = some (.int .i64 X.quiet) := fun p => (((hJ.out.grow p.h).1).cells).2.2.2.1
              have cx4 : ∀ p : Bel wr, p.W.cell? ⟨g, 4, none⟩ = some (.int .i64 X.seen) := fun p => (((hJ.out.grow p.h).1).cells).2.2.2.2.1
              have cx5 : ∀ p : Bel wr, p.W.cell? ⟨g, 5, none⟩ = some (.int .i64 X.vk) := fun p => (((hJ.out.grow p.h).1).cells).2.2.2.2.2.1
              have cx6 : ∀ p : Bel wr, p.W.cell? ⟨g, 6, none⟩ = some (.int .i64 X.vn) := fun p => (((hJ.out.grow p.h).1).cells).2.2.2.2.2.2
              have ch0 : ∀ p : Bel wr, p.W.cell? ⟨w.heap.size, 0, none⟩ = some (.int .i64 fo) := fun p => (hd_cell (hJ.out.grow p.h).2.1).1
              have ch1 : ∀ p : Bel wr, p.W.cell? ⟨w.heap.size, 1, none⟩ = some (.int .i64 keep) := fun p => (hd_cell (hJ.out.grow p.h).2.1).2.1
              have ch2 : ∀ p : Bel wr, p.W.cell? ⟨w.heap.size, 2, none⟩ = some (.int .i64 nd) := fun p => (hd_cell (hJ.out.grow p.h).2.1).2.2.1
              have ch3 : ∀ p : Bel wr, p.W.cell? ⟨w.heap.size, 3, none⟩ = some (.int .i64 oe) := fun p => (hd_cell (hJ.out.grow p.h).2.1).2.2.2
              have k20 : ∀ p : Bel wr, Calls Try.prog 20 #[.int .i64 1] p.W fun e w' => e = .returned (.agg #[.int .i64 1, .int .i64 1]) ∧ Below p.W.heap.size p.W w' := fun p => hnum.out p.W
              have k17 : ∀ p : Bel wr, Calls Try.prog 17 #[.agg #[.int .i64 X.st, .int .i64 X.since, .int .i64 X.fr, .int .i64 X.quiet, .int .i64 X.seen, .int .i64 X.vk, .int .i64 X.vn], .agg #[.int .i64 fo, .int .i64 keep, .int .i64 nd, .int .i64 oe], .int .i64 2, .agg #[.int .i64 1, .int .i64 1], .int .i64 nw] p.W fun e w' => e = .returned (.agg #[.int .i64 3, .int .i64 ys, .int .i64 now, .int .i64 (-1), .int .i64 nw, .int .i64 1, .int .i64 1]) ∧ Below p.W.heap.size p.W w' := fun p => hstep.out p.W
              refine Yquiettail.region_tail (C := fun W => ∃ p : Bel wr, W = p.W) 5 (by kernel_rfl) (by kernel_rfl) ⟨⟨wr.drew, (Below.refl _ _).drew⟩, rfl⟩ ?_
              dsimp only [List.take, List.drop]
              repeat (go_big_quiet_step (first | (go_at_call 20; exact Calls.bel (k20 _)) | (go_at_call 17; exact Calls.bel (k17 _))))
              refine wpQuiet_nil ?_
              rintro w5 ⟨⟨wz, h5⟩, rfl⟩
              replace h5 : Below wr.heap.size wr w5 := h5
              clear cx0 cx1 cx2 cx3 cx4 cx5 cx6 ch0 ch1 ch2 ch3 k20 k17
              have hJ5 : Hid (LpJ w w5 w.heap.size g fo keep nd oe X) := hJ.out.grow h5
              have hJ6 : Hid (LpJ w ((((((((w5.setCell ⟨g, 0, none⟩ (.int .i64 3)).setCell ⟨g, 1, none⟩ (.int .i64 ys)).setCell ⟨g, 2, none⟩ (.int .i64 now)).setCell ⟨g, 3, none⟩ (.int .i64 (-1))).setCell ⟨g, 4, none⟩ (.int .i64 nw)).setCell ⟨g, 5, none⟩ (.int .i64 1)).setCell ⟨g, 6, none⟩ (.int .i64 1))) w.heap.size g fo keep nd oe (⟨3, ys, now, (-1), nw, 1, 1⟩ : Inst)) := LpJ.set (W := w5) (g := g) (Y := (⟨3, ys, now, (-1), nw, 1, 1⟩ : Inst)) hJ5.out
              obtain ⟨f0, f1, f2, f3, f4, f5, f6⟩ := hJ5.out.1.frozen
              obtain ⟨p0, p1, p2, p3, p4, p5, p6⟩ := hJ5.out.1.cells
              have ch5 := hd_cell hJ5.out.2.1
              have ch6 := hd_cell hJ6.out.2.1
              have hgne : ¬ g = w.heap.size := fun e => hJ5.out.2.2.2.2.1 e.symm
              have q6 := hJ6.out.1.cells
              clear h5
              go_wp2
              go_roundw
              case rel => exact ⟨0 + 1, nw, (⟨3, ys, now, (-1), nw, 1, 1⟩ : Inst), by omega, rfl, by go_num, hs1, hJ6⟩
              case measure => simp [intOf]; omega
            · obtain ⟨hs1, hs2, hs3⟩ := hHo.out.step (keep := keep) (nd := nd) (oe := oe) d (by omega) (by omega) nw hNW
              rw [if_neg hle] at hs3
              have hstep : Hid (∀ W, Calls Try.prog 17 #[.agg #[.int .i64 X.st, .int .i64 X.since, .int .i64 X.fr, .int .i64 X.quiet, .int .i64 X.seen, .int .i64 X.vk, .int .i64 X.vn], .agg #[.int .i64 fo, .int .i64 keep, .int .i64 nd, .int .i64 oe], .int .i64 2, .agg #[.int .i64 1, .int .i64 1], .int .i64 nw] W fun e w' => e = .returned (encI (stepI X ⟨fo, keep, nd, oe⟩ 2 1 1 nw)) ∧ Below W.heap.size W w') := fun W => step17 X ⟨fo, keep, nd, oe⟩ 2 1 1 nw W hfr hqq
              have hy : ∃ ys, stepI X ⟨fo, keep, nd, oe⟩ 2 1 1 nw = (⟨2, ys, now, (-1), nw, 1, 1⟩ : Inst) := by
                have h7 := step_seen X ⟨fo, keep, nd, oe⟩ 2 1 1 nw
                have h8 := hs1.1
                generalize stepI X ⟨fo, keep, nd, oe⟩ 2 1 1 nw = z at *
                obtain ⟨z1, z2, z3, z4, z5, z6, z7⟩ := z
                simp only at hs2 hs3 h7 h8
                obtain ⟨h7, h9, h10⟩ := h7
                subst hs2 hs3 h7 h8 h9 h10
                exact ⟨z2, rfl⟩
              obtain ⟨ys, hy⟩ := hy
              rw [hy] at hstep hs1
              replace hstep : Hid (∀ W, Calls Try.prog 17 #[.agg #[.int .i64 X.st, .int .i64 X.since, .int .i64 X.fr, .int .i64 X.quiet, .int .i64 X.seen, .int .i64 X.vk, .int .i64 X.vn], .agg #[.int .i64 fo, .int .i64 keep, .int .i64 nd, .int .i64 oe], .int .i64 2, .agg #[.int .i64 1, .int .i64 1], .int .i64 nw] W fun e w' => e = .returned (.agg #[.int .i64 2, .int .i64 ys, .int .i64 now, .int .i64 (-1), .int .i64 nw, .int .i64 1, .int .i64 1]) ∧ Below W.heap.size W w') := hstep
              replace hs1 : Hid (HoldI now fo (0 + 1) nw (⟨2, ys, now, (-1), nw, 1, 1⟩ : Inst)) := hs1
              clear hy hs2 hs3 hfr hqq hNW
              go_wp2
              have cx0 : ∀ p : Bel wr, p.W.cell? ⟨g, 0, none⟩ = some (.int .i64 X.st) := fun p => (((hJ.out.grow p.h).1).cells).1
              have cx1 : ∀ p : Bel wr, p.W.cell? ⟨g, 1, none⟩ = some (.int .i64 X.since) := fun p => (((hJ.out.grow p.h).1).cells).2.1
              have cx2 : ∀ p : Bel wr, p.W.cell? ⟨g, 2, none⟩ = some (.int .i64 X.fr) := fun p => (((hJ.out.grow p.h).1).cells).2.2.1
              have cx3 : ∀ p : Bel wr, p.W.cell? ⟨g, 3, none⟩ = some (.int .i64 X.quiet) := fun p => (((hJ.out.grow p.h).1).cells).2.2.2.1
              have cx4 : ∀ p : Bel wr, p.W.cell? ⟨g, 4, none⟩ = some (.int .i64 X.seen) := fun p => (((hJ.out.grow p.h).1).cells).2.2.2.2.1
              have cx5 : ∀ p : Bel wr, p.W.cell? ⟨g, 5, none⟩ = some (.int .i64 X.vk) := fun p => (((hJ.out.grow p.h).1).cells).2.2.2.2.2.1
              have cx6 : ∀ p : Bel wr, p.W.cell? ⟨g, 6, none⟩ = some (.int .i64 X.vn) := fun p => (((hJ.out.grow p.h).1).cells).2.2.2.2.2.2
              have ch0 : ∀ p : Bel wr, p.W.cell? ⟨w.heap.size, 0, none⟩ = some (.int .i64 fo) := fun p => (hd_cell (hJ.out.grow p.h).2.1).1
              have ch1 : ∀ p : Bel wr, p.W.cell? ⟨w.heap.size, 1, none⟩ = some (.int .i64 keep) := fun p => (hd_cell (hJ.out.grow p.h).2.1).2.1
              have ch2 : ∀ p : Bel wr, p.W.cell? ⟨w.heap.size, 2, none⟩ = some (.int .i64 nd) := fun p => (hd_cell (hJ.out.grow p.h).2.1).2.2.1
              have ch3 : ∀ p : Bel wr, p.W.cell? ⟨w.heap.size, 3, none⟩ = some (.int .i64 oe) := fun p => (hd_cell (hJ.out.grow p.h).2.1).2.2.2
              have k20 : ∀ p : Bel wr, Calls Try.prog 20 #[.int .i64 1] p.W fun e w' => e = .returned (.agg #[.int .i64 1, .int .i64 1]) ∧ Below p.W.heap.size p.W w' := fun p => hnum.out p.W
              have k17 : ∀ p : Bel wr, Calls Try.prog 17 #[.agg #[.int .i64 X.st, .int .i64 X.since, .int .i64 X.fr, .int .i64 X.quiet, .int .i64 X.seen, .int .i64 X.vk, .int .i64 X.vn], .agg #[.int .i64 fo, .int .i64 keep, .int .i64 nd, .int .i64 oe], .int .i64 2, .agg #[.int .i64 1, .int .i64 1], .int .i64 nw] p.W fun e w' => e = .returned (.agg #[.int .i64 2, .int .i64 ys, .int .i64 now, .int .i64 (-1), .int .i64 nw, .int .i64 1, .int .i64 1]) ∧ Below p.W.heap.size p.W w' := fun p => hstep.out p.W
              refine Yquiettail.region_tail (C := fun W => ∃ p : Bel wr, W = p.W) 5 (by kernel_rfl) (by kernel_rfl) ⟨⟨wr.drew, (Below.refl _ _).drew⟩, rfl⟩ ?_
              dsimp only [List.take, List.drop]
              repeat (go_big_quiet_step (first | (go_at_call 20; exact Calls.bel (k20 _)) | (go_at_call 17; exact Calls.bel (k17 _))))
              refine wpQuiet_nil ?_
              rintro w5 ⟨⟨wz, h5⟩, rfl⟩
              replace h5 : Below wr.heap.size wr w5 := h5
              clear cx0 cx1 cx2 cx3 cx4 cx5 cx6 ch0 ch1 ch2 ch3 k20 k17
              have hJ5 : Hid (LpJ w w5 w.heap.size g fo keep nd oe X) := hJ.out.grow h5
              have hJ6 : Hid (LpJ w ((((((((w5.setCell ⟨g, 0, none⟩ (.int .i64 2)).setCell ⟨g, 1, none⟩ (.int .i64 ys)).setCell ⟨g, 2, none⟩ (.int .i64 now)).setCell ⟨g, 3, none⟩ (.int .i64 (-1))).setCell ⟨g, 4, none⟩ (.int .i64 nw)).setCell ⟨g, 5, none⟩ (.int .i64 1)).setCell ⟨g, 6, none⟩ (.int .i64 1))) w.heap.size g fo keep nd oe (⟨2, ys, now, (-1), nw, 1, 1⟩ : Inst)) := LpJ.set (W := w5) (g := g) (Y := (⟨2, ys, now, (-1), nw, 1, 1⟩ : Inst)) hJ5.out
              obtain ⟨f0, f1, f2, f3, f4, f5, f6⟩ := hJ5.out.1.frozen
              obtain ⟨p0, p1, p2, p3, p4, p5, p6⟩ := hJ5.out.1.cells
              have ch5 := hd_cell hJ5.out.2.1
              have ch6 := hd_cell hJ6.out.2.1
              have hgne : ¬ g = w.heap.size := fun e => hJ5.out.2.2.2.2.1 e.symm
              have q6 := hJ6.out.1.cells
              clear h5
              go_wp2
              go_roundw
              case rel => exact ⟨0 + 1, nw, (⟨2, ys, now, (-1), nw, 1, 1⟩ : Inst), by omega, rfl, by go_num, hs1, hJ6⟩
              case measure => simp [intOf]; omega
          · have hk1 : (0 : Int) < (k : Int) := by omega
            have hNW : nw + d = if 0 < k then nw + d else nw := by rw [if_pos hk0]
            have hfr : X.st = 2 → -9223372036854775808 ≤ (nw + d) - X.fr ∧ (nw + d) - X.fr ≤ 9223372036854775807 := fun h => by have := hfr2.out h; omega
            have hqq : X.quiet ≠ -1 → -9223372036854775808 ≤ (nw + d) - X.quiet ∧ (nw + d) - X.quiet ≤ 9223372036854775807 := fun h => absurd hq2.out h
            by_cases hle : fo ≤ (nw + d) - now
            · obtain ⟨hs1, hs2, hs3⟩ := hHo.out.step (keep := keep) (nd := nd) (oe := oe) d (by omega) (by omega) (nw + d) hNW
              rw [if_pos hle] at hs3
              have hstep : Hid (∀ W, Calls Try.prog 17 #[.agg #[.int .i64 X.st, .int .i64 X.since, .int .i64 X.fr, .int .i64 X.quiet, .int .i64 X.seen, .int .i64 X.vk, .int .i64 X.vn], .agg #[.int .i64 fo, .int .i64 keep, .int .i64 nd, .int .i64 oe], .int .i64 2, .agg #[.int .i64 1, .int .i64 1], .int .i64 (nw + d)] W fun e w' => e = .returned (encI (stepI X ⟨fo, keep, nd, oe⟩ 2 1 1 (nw + d))) ∧ Below W.heap.size W w') := fun W => step17 X ⟨fo, keep, nd, oe⟩ 2 1 1 (nw + d) W hfr hqq
              have hy : ∃ ys, stepI X ⟨fo, keep, nd, oe⟩ 2 1 1 (nw + d) = (⟨3, ys, now, (-1), (nw + d), 1, 1⟩ : Inst) := by
                have h7 := step_seen X ⟨fo, keep, nd, oe⟩ 2 1 1 (nw + d)
                have h8 := hs1.1
                generalize stepI X ⟨fo, keep, nd, oe⟩ 2 1 1 (nw + d) = z at *
                obtain ⟨z1, z2, z3, z4, z5, z6, z7⟩ := z
                simp only at hs2 hs3 h7 h8
                obtain ⟨h7, h9, h10⟩ := h7
                subst hs2 hs3 h7 h8 h9 h10
                exact ⟨z2, rfl⟩
              obtain ⟨ys, hy⟩ := hy
              rw [hy] at hstep hs1
              replace hstep : Hid (∀ W, Calls Try.prog 17 #[.agg #[.int .i64 X.st, .int .i64 X.since, .int .i64 X.fr, .int .i64 X.quiet, .int .i64 X.seen, .int .i64 X.vk, .int .i64 X.vn], .agg #[.int .i64 fo, .int .i64 keep, .int .i64 nd, .int .i64 oe], .int .i64 2, .agg #[.int .i64 1, .int .i64 1], .int .i64 (nw + d)] W fun e w' => e = .returned (.agg #[.int .i64 3, .int .i64 ys, .int .i64 now, .int .i64 (-1), .int .i64 (nw + d), .int .i64 1, .int .i64 1]) ∧ Below W.heap.size W w') := hstep
              replace hs1 : Hid (HoldI now fo (k + 1) (nw + d) (⟨3, ys, now, (-1), (nw + d), 1, 1⟩ : Inst)) := hs1
              clear hy hs2 hs3 hfr hqq hNW
              go_wp2
              have cx0 : ∀ p : Bel wr, p.W.cell? ⟨g, 0, none⟩ = some (.int .i64 X.st) := fun p => (((hJ.out.grow p.h).1).cells).1
              have cx1 : ∀ p : Bel wr, p.W.cell? ⟨g, 1, none⟩ = some (.int .i64 X.since) := fun p => (((hJ.out.grow p.h).1).cells).2.1
              have cx2 : ∀ p : Bel wr, p.W.cell? ⟨g, 2, none⟩ = some (.int .i64 X.fr) := fun p => (((hJ.out.grow p.h).1).cells).2.2.1
              have cx3 : ∀ p : Bel wr, p.W.cell? ⟨g, 3, none⟩ = some (.int .i64 X.quiet) := fun p => (((hJ.out.grow p.h).1).cells).2.2.2.1
              have cx4 : ∀ p : Bel wr, p.W.cell? ⟨g, 4, none⟩ = some (.int .i64 X.seen) := fun p => (((hJ.out.grow p.h).1).cells).2.2.2.2.1
              have cx5 : ∀ p : Bel wr, p.W.cell? ⟨g, 5, none⟩ = some (.int .i64 X.vk) := fun p => (((hJ.out.grow p.h).1).cells).2.2.2.2.2.1
              have cx6 : ∀ p : Bel wr, p.W.cell? ⟨g, 6, none⟩ = some (.int .i64 X.vn) := fun p => (((hJ.out.grow p.h).1).cells).2.2.2.2.2.2
              have ch0 : ∀ p : Bel wr, p.W.cell? ⟨w.heap.size, 0, none⟩ = some (.int .i64 fo) := fun p => (hd_cell (hJ.out.grow p.h).2.1).1
              have ch1 : ∀ p : Bel wr, p.W.cell? ⟨w.heap.size, 1, none⟩ = some (.int .i64 keep) := fun p => (hd_cell (hJ.out.grow p.h).2.1).2.1
              have ch2 : ∀ p : Bel wr, p.W.cell? ⟨w.heap.size, 2, none⟩ = some (.int .i64 nd) := fun p => (hd_cell (hJ.out.grow p.h).2.1).2.2.1
              have ch3 : ∀ p : Bel wr, p.W.cell? ⟨w.heap.size, 3, none⟩ = some (.int .i64 oe) := fun p => (hd_cell (hJ.out.grow p.h).2.1).2.2.2
              have k20 : ∀ p : Bel wr, Calls Try.prog 20 #[.int .i64 1] p.W fun e w' => e = .returned (.agg #[.int .i64 1, .int .i64 1]) ∧ Below p.W.heap.size p.W w' := fun p => hnum.out p.W
              have k17 : ∀ p : Bel wr, Calls Try.prog 17 #[.agg #[.int .i64 X.st, .int .i64 X.since, .int .i64 X.fr, .int .i64 X.quiet, .int .i64 X.seen, .int .i64 X.vk, .int .i64 X.vn], .agg #[.int .i64 fo, .int .i64 keep, .int .i64 nd, .int .i64 oe], .int .i64 2, .agg #[.int .i64 1, .int .i64 1], .int .i64 (nw + d)] p.W fun e w' => e = .returned (.agg #[.int .i64 3, .int .i64 ys, .int .i64 now, .int .i64 (-1), .int .i64 (nw + d), .int .i64 1, .int .i64 1]) ∧ Below p.W.heap.size p.W w' := fun p => hstep.out p.W
              refine Yquiettail.region_tail (C := fun W => ∃ p : Bel wr, W = p.W) 5 (by kernel_rfl) (by kernel_rfl) ⟨⟨wr.drew, (Below.refl _ _).drew⟩, rfl⟩ ?_
              dsimp only [List.take, List.drop]
              repeat (go_big_quiet_step (first | (go_at_call 20; exact Calls.bel (k20 _)) | (go_at_call 17; exact Calls.bel (k17 _))))
              refine wpQuiet_nil ?_
              rintro w5 ⟨⟨wz, h5⟩, rfl⟩
              replace h5 : Below wr.heap.size wr w5 := h5
              clear cx0 cx1 cx2 cx3 cx4 cx5 cx6 ch0 ch1 ch2 ch3 k20 k17
              have hJ5 : Hid (LpJ w w5 w.heap.size g fo keep nd oe X) := hJ.out.grow h5
              have hJ6 : Hid (LpJ w ((((((((w5.setCell ⟨g, 0, none⟩ (.int .i64 3)).setCell ⟨g, 1, none⟩ (.int .i64 ys)).setCell ⟨g, 2, none⟩ (.int .i64 now)).setCell ⟨g, 3, none⟩ (.int .i64 (-1))).setCell ⟨g, 4, none⟩ (.int .i64 (nw + d))).setCell ⟨g, 5, none⟩ (.int .i64 1)).setCell ⟨g, 6, none⟩ (.int .i64 1))) w.heap.size g fo keep nd oe (⟨3, ys, now, (-1), (nw + d), 1, 1⟩ : Inst)) := LpJ.set (W := w5) (g := g) (Y := (⟨3, ys, now, (-1), (nw + d), 1, 1⟩ : Inst)) hJ5.out
              obtain ⟨f0, f1, f2, f3, f4, f5, f6⟩ := hJ5.out.1.frozen
              obtain ⟨p0, p1, p2, p3, p4, p5, p6⟩ := hJ5.out.1.cells
              have ch5 := hd_cell hJ5.out.2.1
              have ch6 := hd_cell hJ6.out.2.1
              have hgne : ¬ g = w.heap.size := fun e => hJ5.out.2.2.2.2.1 e.symm
              have q6 := hJ6.out.1.cells
              clear h5
              go_wp2
              go_roundw
              case rel => exact ⟨k + 1, (nw + d), (⟨3, ys, now, (-1), (nw + d), 1, 1⟩ : Inst), by omega, rfl, by go_num, hs1, hJ6⟩
              case measure => simp [intOf]; omega
            · obtain ⟨hs1, hs2, hs3⟩ := hHo.out.step (keep := keep) (nd := nd) (oe := oe) d (by omega) (by omega) (nw + d) hNW
              rw [if_neg hle] at hs3
              have hstep : Hid (∀ W, Calls Try.prog 17 #[.agg #[.int .i64 X.st, .int .i64 X.since, .int .i64 X.fr, .int .i64 X.quiet, .int .i64 X.seen, .int .i64 X.vk, .int .i64 X.vn], .agg #[.int .i64 fo, .int .i64 keep, .int .i64 nd, .int .i64 oe], .int .i64 2, .agg #[.int .i64 1, .int .i64 1], .int .i64 (nw + d)] W fun e w' => e = .returned (encI (stepI X ⟨fo, keep, nd, oe⟩ 2 1 1 (nw + d))) ∧ Below W.heap.size W w') := fun W => step17 X ⟨fo, keep, nd, oe⟩ 2 1 1 (nw + d) W hfr hqq
              have hy : ∃ ys, stepI X ⟨fo, keep, nd, oe⟩ 2 1 1 (nw + d) = (⟨2, ys, now, (-1), (nw + d), 1, 1⟩ : Inst) := by
                have h7 := step_seen X ⟨fo, keep, nd, oe⟩ 2 1 1 (nw + d)
                have h8 := hs1.1
                generalize stepI X ⟨fo, keep, nd, oe⟩ 2 1 1 (nw + d) = z at *
                obtain ⟨z1, z2, z3, z4, z5, z6, z7⟩ := z
                simp only at hs2 hs3 h7 h8
                obtain ⟨h7, h9, h10⟩ := h7
                subst hs2 hs3 h7 h8 h9 h10
                exact ⟨z2, rfl⟩
              obtain ⟨ys, hy⟩ := hy
              rw [hy] at hstep hs1
              replace hstep : Hid (∀ W, Calls Try.prog 17 #[.agg #[.int .i64 X.st, .int .i64 X.since, .int .i64 X.fr, .int .i64 X.quiet, .int .i64 X.seen, .int .i64 X.vk, .int .i64 X.vn], .agg #[.int .i64 fo, .int .i64 keep, .int .i64 nd, .int .i64 oe], .int .i64 2, .agg #[.int .i64 1, .int .i64 1], .int .i64 (nw + d)] W fun e w' => e = .returned (.agg #[.int .i64 2, .int .i64 ys, .int .i64 now, .int .i64 (-1), .int .i64 (nw + d), .int .i64 1, .int .i64 1]) ∧ Below W.heap.size W w') := hstep
              replace hs1 : Hid (HoldI now fo (k + 1) (nw + d) (⟨2, ys, now, (-1), (nw + d), 1, 1⟩ : Inst)) := hs1
              clear hy hs2 hs3 hfr hqq hNW
              go_wp2
              have cx0 : ∀ p : Bel wr, p.W.cell? ⟨g, 0, none⟩ = some (.int .i64 X.st) := fun p => (((hJ.out.grow p.h).1).cells).1
              have cx1 : ∀ p : Bel wr, p.W.cell? ⟨g, 1, none⟩ = some (.int .i64 X.since) := fun p => (((hJ.out.grow p.h).1).cells).2.1
              have cx2 : ∀ p : Bel wr, p.W.cell? ⟨g, 2, none⟩ = some (.int .i64 X.fr) := fun p => (((hJ.out.grow p.h).1).cells).2.2.1
              have cx3 : ∀ p : Bel wr, p.W.cell? ⟨g, 3, none⟩ = some (.int .i64 X.quiet) := fun p => (((hJ.out.grow p.h).1).cells).2.2.2.1
              have cx4 : ∀ p : Bel wr, p.W.cell? ⟨g, 4, none⟩ = some (.int .i64 X.seen) := fun p => (((hJ.out.grow p.h).1).cells).2.2.2.2.1
              have cx5 : ∀ p : Bel wr, p.W.cell? ⟨g, 5, none⟩ = some (.int .i64 X.vk) := fun p => (((hJ.out.grow p.h).1).cells).2.2.2.2.2.1
              have cx6 : ∀ p : Bel wr, p.W.cell? ⟨g, 6, none⟩ = some (.int .i64 X.vn) := fun p => (((hJ.out.grow p.h).1).cells).2.2.2.2.2.2
              have ch0 : ∀ p : Bel wr, p.W.cell? ⟨w.heap.size, 0, none⟩ = some (.int .i64 fo) := fun p => (hd_cell (hJ.out.grow p.h).2.1).1
              have ch1 : ∀ p : Bel wr, p.W.cell? ⟨w.heap.size, 1, none⟩ = some (.int .i64 keep) := fun p => (hd_cell (hJ.out.grow p.h).2.1).2.1
              have ch2 : ∀ p : Bel wr, p.W.cell? ⟨w.heap.size, 2, none⟩ = some (.int .i64 nd) := fun p => (hd_cell (hJ.out.grow p.h).2.1).2.2.1
              have ch3 : ∀ p : Bel wr, p.W.cell? ⟨w.heap.size, 3, none⟩ = some (.int .i64 oe) := fun p => (hd_cell (hJ.out.grow p.h).2.1).2.2.2
              have k20 : ∀ p : Bel wr, Calls Try.prog 20 #[.int .i64 1] p.W fun e w' => e = .returned (.agg #[.int .i64 1, .int .i64 1]) ∧ Below p.W.heap.size p.W w' := fun p => hnum.out p.W
              have k17 : ∀ p : Bel wr, Calls Try.prog 17 #[.agg #[.int .i64 X.st, .int .i64 X.since, .int .i64 X.fr, .int .i64 X.quiet, .int .i64 X.seen, .int .i64 X.vk, .int .i64 X.vn], .agg #[.int .i64 fo, .int .i64 keep, .int .i64 nd, .int .i64 oe], .int .i64 2, .agg #[.int .i64 1, .int .i64 1], .int .i64 (nw + d)] p.W fun e w' => e = .returned (.agg #[.int .i64 2, .int .i64 ys, .int .i64 now, .int .i64 (-1), .int .i64 (nw + d), .int .i64 1, .int .i64 1]) ∧ Below p.W.heap.size p.W w' := fun p => hstep.out p.W
              refine Yquiettail.region_tail (C := fun W => ∃ p : Bel wr, W = p.W) 5 (by kernel_rfl) (by kernel_rfl) ⟨⟨wr.drew, (Below.refl _ _).drew⟩, rfl⟩ ?_
              dsimp only [List.take, List.drop]
              repeat (go_big_quiet_step (first | (go_at_call 20; exact Calls.bel (k20 _)) | (go_at_call 17; exact Calls.bel (k17 _))))
              refine wpQuiet_nil ?_
              rintro w5 ⟨⟨wz, h5⟩, rfl⟩
              replace h5 : Below wr.heap.size wr w5 := h5
              clear cx0 cx1 cx2 cx3 cx4 cx5 cx6 ch0 ch1 ch2 ch3 k20 k17
              have hJ5 : Hid (LpJ w w5 w.heap.size g fo keep nd oe X) := hJ.out.grow h5
              have hJ6 : Hid (LpJ w ((((((((w5.setCell ⟨g, 0, none⟩ (.int .i64 2)).setCell ⟨g, 1, none⟩ (.int .i64 ys)).setCell ⟨g, 2, none⟩ (.int .i64 now)).setCell ⟨g, 3, none⟩ (.int .i64 (-1))).setCell ⟨g, 4, none⟩ (.int .i64 (nw + d))).setCell ⟨g, 5, none⟩ (.int .i64 1)).setCell ⟨g, 6, none⟩ (.int .i64 1))) w.heap.size g fo keep nd oe (⟨2, ys, now, (-1), (nw + d), 1, 1⟩ : Inst)) := LpJ.set (W := w5) (g := g) (Y := (⟨2, ys, now, (-1), (nw + d), 1, 1⟩ : Inst)) hJ5.out
              obtain ⟨f0, f1, f2, f3, f4, f5, f6⟩ := hJ5.out.1.frozen
              obtain ⟨p0, p1, p2, p3, p4, p5, p6⟩ := hJ5.out.1.cells
              have ch5 := hd_cell hJ5.out.2.1
              have ch6 := hd_cell hJ6.out.2.1
              have hgne : ¬ g = w.heap.size := fun e => hJ5.out.2.2.2.2.1 e.symm
              have q6 := hJ6.out.1.cells
              clear h5
              go_wp2
              go_roundw
              case rel => exact ⟨k + 1, (nw + d), (⟨2, ys, now, (-1), (nw + d), 1, 1⟩ : Inst), by omega, rfl, by go_num, hs1, hJ6⟩
              case measure => simp [intOf]; omega
        · obtain rfl : k = n := by omega
          have hki : ¬ (k : Int) < (k : Int) := by omega
          have hB : Hid (Below w.heap.size w wr) := hJ.out.2.2.1
          go_wp2_with (first | (go_at_call 9; refine (hlive _).mono ?_; rintro e w2 ⟨rfl, hb2⟩; have hE2 : Hid (Below w.heap.size w w2) := hB.out.trans (hb2.mono hB.out.size)))
          go_ret
          exact ⟨rfl, hE2.out⟩
    · have hstep : Hid (∀ W, Calls Try.prog 17 #[.agg #[.int .i64 1, .int .i64 now, .int .i64 (-1), .int .i64 (-1), .int .i64 now, .int .i64 2, .int .i64 0], .agg #[.int .i64 0, .int .i64 0, .int .i64 1, .int .i64 1], .int .i64 4, .agg #[.int .i64 2, .int .i64 0], .int .i64 now] W fun e w' => e = .returned (encI (stepI (newI now) ⟨0, 0, 1, 1⟩ 4 2 0 now)) ∧ Below W.heap.size W w') := fun W => step17 (newI now) ⟨0, 0, 1, 1⟩ 4 2 0 now W (fun h => absurd (show (1 : Int) = 2 from h) (by decide)) (fun h => absurd rfl h)
      have hY2 : Hid (HoldI now fo 0 now (stepI (newI now) ⟨0, 0, 1, 1⟩ 4 2 0 now)) := by
        refine ⟨rfl, ⟨Int.le_refl _, by omega⟩, .inl ⟨rfl, rfl, ?_⟩⟩
        first | exact .inr (.inl rfl) | exact .inr (.inr rfl)
      generalize stepI (newI now) ⟨0, 0, 1, 1⟩ 4 2 0 now = y at *
      replace hstep : Hid (∀ W, Calls Try.prog 17 #[.agg #[.int .i64 1, .int .i64 now, .int .i64 (-1), .int .i64 (-1), .int .i64 now, .int .i64 2, .int .i64 0], .agg #[.int .i64 0, .int .i64 0, .int .i64 1, .int .i64 1], .int .i64 4, .agg #[.int .i64 2, .int .i64 0], .int .i64 now] W fun e w' => e = .returned (.agg #[.int .i64 y.st, .int .i64 y.since, .int .i64 y.fr, .int .i64 y.quiet, .int .i64 y.seen, .int .i64 y.vk, .int .i64 y.vn]) ∧ Below W.heap.size W w') := hstep
      go_enter Try.func4, Try.ntmps4
      go_wp2_with (first | (go_at_call 8; refine (hright.out _).mono ?_; rintro e w1 ⟨rfl, hb1⟩; have hJ1 : Hid (Below w.heap.size w w1 ∧ Blk w1 w.heap.size (.cells #[.int .i64 fo, .int .i64 keep, .int .i64 nd, .int .i64 oe] 27)) := ⟨hw0.out.1.trans (hb1.mono hw0.out.1.size), hw0.out.2.grow hb1⟩; clear hb1; have ch1 := hd_cell hJ1.out.2) | (go_at_call 13; refine (hnew.out _).mono ?_; rintro e w2 ⟨rfl, hb2⟩; have hJ2 : Hid (LpJ w (w2.alloc (.cells #[.int .i64 1, .int .i64 now, .int .i64 (-1), .int .i64 (-1), .int .i64 now, .int .i64 2, .int .i64 0] 25)) w.heap.size w2.heap.size fo keep nd oe (newI now)) := ⟨iNew w2 (newI now), (hJ1.out.2.grow hb2).grow (bW0 _ _), (hJ1.out.1.trans (hb2.mono hJ1.out.1.size)).alloc (Nat.le_trans hJ1.out.1.size hb2.size) _, Nat.le_refl _, (by have := (hJ1.out.2).lt; have := hb2.size; omega), Nat.le_trans hJ1.out.1.size hb2.size⟩; clear hb2))
      generalize w2.heap.size = g at *
      generalize w2.alloc (.cells #[.int .i64 1, .int .i64 now, .int .i64 (-1), .int .i64 (-1), .int .i64 now, .int .i64 2, .int .i64 0] 25) = wl at *
      clear hnew hJ1 ch1
      have cx0 : ∀ p : Bel wl, p.W.cell? ⟨g, 0, none⟩ = some (.int .i64 1) := fun p => (((hJ2.out.grow p.h).1).cells).1
      have cx1 : ∀ p : Bel wl, p.W.cell? ⟨g, 1, none⟩ = some (.int .i64 now) := fun p => (((hJ2.out.grow p.h).1).cells).2.1
      have cx2 : ∀ p : Bel wl, p.W.cell? ⟨g, 2, none⟩ = some (.int .i64 (-1)) := fun p => (((hJ2.out.grow p.h).1).cells).2.2.1
      have cx3 : ∀ p : Bel wl, p.W.cell? ⟨g, 3, none⟩ = some (.int .i64 (-1)) := fun p => (((hJ2.out.grow p.h).1).cells).2.2.2.1
      have cx4 : ∀ p : Bel wl, p.W.cell? ⟨g, 4, none⟩ = some (.int .i64 now) := fun p => (((hJ2.out.grow p.h).1).cells).2.2.2.2.1
      have cx5 : ∀ p : Bel wl, p.W.cell? ⟨g, 5, none⟩ = some (.int .i64 2) := fun p => (((hJ2.out.grow p.h).1).cells).2.2.2.2.2.1
      have cx6 : ∀ p : Bel wl, p.W.cell? ⟨g, 6, none⟩ = some (.int .i64 0) := fun p => (((hJ2.out.grow p.h).1).cells).2.2.2.2.2.2
      have ch0 : ∀ p : Bel wl, p.W.cell? ⟨w.heap.size, 0, none⟩ = some (.int .i64 fo) := fun p => (hd_cell (hJ2.out.grow p.h).2.1).1
      have ch1 : ∀ p : Bel wl, p.W.cell? ⟨w.heap.size, 1, none⟩ = some (.int .i64 keep) := fun p => (hd_cell (hJ2.out.grow p.h).2.1).2.1
      have ch2 : ∀ p : Bel wl, p.W.cell? ⟨w.heap.size, 2, none⟩ = some (.int .i64 nd) := fun p => (hd_cell (hJ2.out.grow p.h).2.1).2.2.1
      have ch3 : ∀ p : Bel wl, p.W.cell? ⟨w.heap.size, 3, none⟩ = some (.int .i64 oe) := fun p => (hd_cell (hJ2.out.grow p.h).2.1).2.2.2
      have k19 : ∀ p : Bel wl, Calls Try.prog 19 #[] p.W fun e w' => e = .returned (.agg #[.int .i64 2, .int .i64 0]) ∧ Below p.W.heap.size p.W w' := fun p => hnull.out p.W
      have k17 : ∀ p : Bel wl, Calls Try.prog 17 #[.agg #[.int .i64 1, .int .i64 now, .int .i64 (-1), .int .i64 (-1), .int .i64 now, .int .i64 2, .int .i64 0], .agg #[.int .i64 0, .int .i64 0, .int .i64 1, .int .i64 1], .int .i64 4, .agg #[.int .i64 2, .int .i64 0], .int .i64 now] p.W fun e w' => e = .returned (.agg #[.int .i64 y.st, .int .i64 y.since, .int .i64 y.fr, .int .i64 y.quiet, .int .i64 y.seen, .int .i64 y.vk, .int .i64 y.vn]) ∧ Below p.W.heap.size p.W w' := fun p => hstep.out p.W
      refine Yquiettail.region_tail (C := fun W => ∃ p : Bel wl, W = p.W) 6 (by kernel_rfl) (by kernel_rfl) ⟨⟨wl.drew, (Below.refl _ _).drew⟩, rfl⟩ ?_
      dsimp only [List.take, List.drop]
      repeat (go_big_quiet_step (first | (go_at_call 19; exact Calls.bel (k19 _)) | (go_at_call 17; exact Calls.bel (k17 _))))
      refine wpQuiet_nil ?_
      rintro w5 ⟨⟨wz, h5⟩, rfl⟩
      replace h5 : Below wl.heap.size wl w5 := h5
      clear cx0 cx1 cx2 cx3 cx4 cx5 cx6 ch0 ch1 ch2 ch3
      have hJ5 : Hid (LpJ w w5 w.heap.size g fo keep nd oe (newI now)) := hJ2.out.grow h5
      have hJ6 : Hid (LpJ w ((((((((w5.setCell ⟨g, 0, none⟩ (.int .i64 y.st)).setCell ⟨g, 1, none⟩ (.int .i64 y.since)).setCell ⟨g, 2, none⟩ (.int .i64 y.fr)).setCell ⟨g, 3, none⟩ (.int .i64 y.quiet)).setCell ⟨g, 4, none⟩ (.int .i64 y.seen)).setCell ⟨g, 5, none⟩ (.int .i64 y.vk)).setCell ⟨g, 6, none⟩ (.int .i64 y.vn))) w.heap.size g fo keep nd oe y) := LpJ.set (W := w5) (g := g) (Y := y) hJ5.out
      obtain ⟨f0, f1, f2, f3, f4, f5, f6⟩ := hJ5.out.1.frozen
      obtain ⟨p0, p1, p2, p3, p4, p5, p6⟩ := hJ5.out.1.cells
      clear h5
      go_wp2
      clear p0 p1 p2 p3 p4 p5 p6 f0 f1 f2 f3 f4 f5 f6 hJ5 hJ2 k19 k17 hstep hstart
      generalize (((((((w5.setCell ⟨g, 0, none⟩ (.int .i64 y.st)).setCell ⟨g, 1, none⟩ (.int .i64 y.since)).setCell ⟨g, 2, none⟩ (.int .i64 y.fr)).setCell ⟨g, 3, none⟩ (.int .i64 y.quiet)).setCell ⟨g, 4, none⟩ (.int .i64 y.seen)).setCell ⟨g, 5, none⟩ (.int .i64 y.vk)).setCell ⟨g, 6, none⟩ (.int .i64 y.vn)) = wl at *
      have hJ2 := hJ6
      have hX0 := hY2
      clear hJ6 hY2
      replace hJ2 : Hid (LpJ w wl w.heap.size g fo keep nd oe y) := hJ2
      clear hnull hw0 hright
      go_loopw [1, 11] (fun nwv i wr => ∃ k : Nat, ∃ nw : Int, ∃ X : Inst, k ≤ n ∧ nwv = .int .i64 nw ∧ i = .int .i64 k ∧ Hid (HoldI now fo k nw X) ∧ Hid (LpJ w wr w.heap.size g fo keep nd oe X)) (fun _ i _ => n - (intOf i).toNat)
      case atStart => exact ⟨0, now, y, Nat.zero_le _, rfl, rfl, hX0, hJ2⟩
      case round =>
        obtain ⟨k, nw, X, hk, rfl, rfl, hHo, hJ⟩ := hrel
        by_cases hlt : k < n
        · have hki : (k : Int) < (n : Int) := by omega
          have hB : Hid (Below w.heap.size w wr) := hJ.out.2.2.1
          obtain ⟨b, oo, rfl, x0⟩ := in_at (hgl.out wr hB.out) k (by rw [← hn.out]; exact hlt)
          generalize l.getD k 0 = d at *
          by_cases hd0 : d < 0
          · go_wp2_with (first | (go_at_call 9; refine (hlive _).mono ?_; rintro e w2 ⟨rfl, hb2⟩; have hE2 : Hid (Below w.heap.size w w2) := hB.out.trans (hb2.mono hB.out.size)))
            go_ret
            exact ⟨rfl, hE2.out⟩
          by_cases hd1 : 1000000 < d
          · go_wp2_with (first | (go_at_call 9; refine (hlive _).mono ?_; rintro e w2 ⟨rfl, hb2⟩; have hE2 : Hid (Below w.heap.size w w2) := hB.out.trans (hb2.mono hB.out.size)))
            go_ret
            exact ⟨rfl, hE2.out⟩
          have hHb := hHo.out.2.1
          have hfr2 : Hid (X.st = 2 → X.fr = now) := fun h => by
            rcases hHo.out.2.2 with ⟨-, -, h5⟩ | ⟨-, h5, -⟩
            · omega
            · exact h5
          have hq2 : Hid (X.quiet = -1) := hHo.out.1
          have hbig : 0 ≤ nw ∧ nw ≤ 700000000000 := by
            have : (k : Int) ≤ 100 := by omega
            omega
          clear hHb
          rcases Nat.eq_zero_or_pos k with hk0 | hk0
          · subst hk0
            have x0b : wr.cell? ⟨b, oo, none⟩ = some (.int .i64 d) := by simpa using x0
            have hNW : nw = if 0 < 0 then nw + d else nw := by simp
            have hfr : X.st = 2 → -9223372036854775808 ≤ nw - X.fr ∧ nw - X.fr ≤ 9223372036854775807 := fun h => by have := hfr2.out h; omega
            have hqq : X.quiet ≠ -1 → -9223372036854775808 ≤ nw - X.quiet ∧ nw - X.quiet ≤ 9223372036854775807 := fun h => absurd hq2.out h
            by_cases hle : fo ≤ nw - now
            · obtain ⟨hs1, hs2, hs3⟩ := hHo.out.step (keep := keep) (nd := nd) (oe := oe) d (by omega) (by omega) nw hNW
              rw [if_pos hle] at hs3
              have hstep : Hid (∀ W, Calls Try.prog 17 #[.agg #[.int .i64 X.st, .int .i64 X.since, .int .i64 X.fr, .int .i64 X.quiet, .int .i64 X.seen, .int .i64 X.vk, .int .i64 X.vn], .agg #[.int .i64 fo, .int .i64 keep, .int .i64 nd, .int .i64 oe], .int .i64 2, .agg #[.int .i64 1, .int .i64 1], .int .i64 nw] W fun e w' => e = .returned (encI (stepI X ⟨fo, keep, nd, oe⟩ 2 1 1 nw)) ∧ Below W.heap.size W w') := fun W => step17 X ⟨fo, keep, nd, oe⟩ 2 1 1 nw W hfr hqq
              have hy : ∃ ys, stepI X ⟨fo, keep, nd, oe⟩ 2 1 1 nw = (⟨3, ys, now, (-1), nw, 1, 1⟩ : Inst) := by
                have h7 := step_seen X ⟨fo, keep, nd, oe⟩ 2 1 1 nw
                have h8 := hs1.1
                generalize stepI X ⟨fo, keep, nd, oe⟩ 2 1 1 nw = z at *
                obtain ⟨z1, z2, z3, z4, z5, z6, z7⟩ := z
                simp only at hs2 hs3 h7 h8
                obtain ⟨h7, h9, h10⟩ := h7
                subst hs2 hs3 h7 h8 h9 h10
                exact ⟨z2, rfl⟩
              obtain ⟨ys, hy⟩ := hy
              rw [hy] at hstep hs1
              replace hstep : Hid (∀ W, Calls Try.prog 17 #[.agg #[.int .i64 X.st, .int .i64 X.since, .int .i64 X.fr, .int .i64 X.quiet, .int .i64 X.seen, .int .i64 X.vk, .int .i64 X.vn], .agg #[.int .i64 fo, .int .i64 keep, .int .i64 nd, .int .i64 oe], .int .i64 2, .agg #[.int .i64 1, .int .i64 1], .int .i64 nw] W fun e w' => e = .returned (.agg #[.int .i64 3, .int .i64 ys, .int .i64 now, .int .i64 (-1), .int .i64 nw, .int .i64 1, .int .i64 1]) ∧ Below W.heap.size W w') := hstep
              replace hs1 : Hid (HoldI now fo (0 + 1) nw (⟨3, ys, now, (-1), nw, 1, 1⟩ : Inst)) := hs1
              clear hy hs2 hs3 hfr hqq hNW
              go_wp2
              have cx0 : ∀ p : Bel wr, p.W.cell? ⟨g, 0, none⟩ = some (.int .i64 X.st) := fun p => (((hJ.out.grow p.h).1).cells).1
              have cx1 : ∀ p : Bel wr, p.W.cell? ⟨g, 1, none⟩ = some (.int .i64 X.since) := fun p => (((hJ.out.grow p.h).1).cells).2.1
              have cx2 : ∀ p : Bel wr, p.W.cell? ⟨g, 2, none⟩ = some (.int .i64 X.fr) := fun p => (((hJ.out.grow p.h).1).cells).2.2.1
              have cx3 : ∀ p : Bel wr, p.W.cell? ⟨g, 3, none⟩ = some (.int .i64 X.quiet) := fun p => (((hJ.out.grow p.h).1).cells).2.2.2.1
              have cx4 : ∀ p : Bel wr, p.W.cell? ⟨g, 4, none⟩ = some (.int .i64 X.seen) := fun p => (((hJ.out.grow p.h).1).cells).2.2.2.2.1
              have cx5 : ∀ p : Bel wr, p.W.cell? ⟨g, 5, none⟩ = some (.int .i64 X.vk) := fun p => (((hJ.out.grow p.h).1).cells).2.2.2.2.2.1
              have cx6 : ∀ p : Bel wr, p.W.cell? ⟨g, 6, none⟩ = some (.int .i64 X.vn) := fun p => (((hJ.out.grow p.h).1).cells).2.2.2.2.2.2
              have ch0 : ∀ p : Bel wr, p.W.cell? ⟨w.heap.size, 0, none⟩ = some (.int .i64 fo) := fun p => (hd_cell (hJ.out.grow p.h).2.1).1
              have ch1 : ∀ p : Bel wr, p.W.cell? ⟨w.heap.size, 1, none⟩ = some (.int .i64 keep) := fun p => (hd_cell (hJ.out.grow p.h).2.1).2.1
              have ch2 : ∀ p : Bel wr, p.W.cell? ⟨w.heap.size, 2, none⟩ = some (.int .i64 nd) := fun p => (hd_cell (hJ.out.grow p.h).2.1).2.2.1
              have ch3 : ∀ p : Bel wr, p.W.cell? ⟨w.heap.size, 3, none⟩ = some (.int .i64 oe) := fun p => (hd_cell (hJ.out.grow p.h).2.1).2.2.2
              have k20 : ∀ p : Bel wr, Calls Try.prog 20 #[.int .i64 1] p.W fun e w' => e = .returned (.agg #[.int .i64 1, .int .i64 1]) ∧ Below p.W.heap.size p.W w' := fun p => hnum.out p.W
              have k17 : ∀ p : Bel wr, Calls Try.prog 17 #[.agg #[.int .i64 X.st, .int .i64 X.since, .int .i64 X.fr, .int .i64 X.quiet, .int .i64 X.seen, .int .i64 X.vk, .int .i64 X.vn], .agg #[.int .i64 fo, .int .i64 keep, .int .i64 nd, .int .i64 oe], .int .i64 2, .agg #[.int .i64 1, .int .i64 1], .int .i64 nw] p.W fun e w' => e = .returned (.agg #[.int .i64 3, .int .i64 ys, .int .i64 now, .int .i64 (-1), .int .i64 nw, .int .i64 1, .int .i64 1]) ∧ Below p.W.heap.size p.W w' := fun p => hstep.out p.W
              refine Yquiettail.region_tail (C := fun W => ∃ p : Bel wr, W = p.W) 5 (by kernel_rfl) (by kernel_rfl) ⟨⟨wr.drew, (Below.refl _ _).drew⟩, rfl⟩ ?_
              dsimp only [List.take, List.drop]
              repeat (go_big_quiet_step (first | (go_at_call 20; exact Calls.bel (k20 _)) | (go_at_call 17; exact Calls.bel (k17 _))))
              refine wpQuiet_nil ?_
              rintro w5 ⟨⟨wz, h5⟩, rfl⟩
              replace h5 : Below wr.heap.size wr w5 := h5
              clear cx0 cx1 cx2 cx3 cx4 cx5 cx6 ch0 ch1 ch2 ch3 k20 k17
              have hJ5 : Hid (LpJ w w5 w.heap.size g fo keep nd oe X) := hJ.out.grow h5
              have hJ6 : Hid (LpJ w ((((((((w5.setCell ⟨g, 0, none⟩ (.int .i64 3)).setCell ⟨g, 1, none⟩ (.int .i64 ys)).setCell ⟨g, 2, none⟩ (.int .i64 now)).setCell ⟨g, 3, none⟩ (.int .i64 (-1))).setCell ⟨g, 4, none⟩ (.int .i64 nw)).setCell ⟨g, 5, none⟩ (.int .i64 1)).setCell ⟨g, 6, none⟩ (.int .i64 1))) w.heap.size g fo keep nd oe (⟨3, ys, now, (-1), nw, 1, 1⟩ : Inst)) := LpJ.set (W := w5) (g := g) (Y := (⟨3, ys, now, (-1), nw, 1, 1⟩ : Inst)) hJ5.out
              obtain ⟨f0, f1, f2, f3, f4, f5, f6⟩ := hJ5.out.1.frozen
              obtain ⟨p0, p1, p2, p3, p4, p5, p6⟩ := hJ5.out.1.cells
              have ch5 := hd_cell hJ5.out.2.1
              have ch6 := hd_cell hJ6.out.2.1
              have hgne : ¬ g = w.heap.size := fun e => hJ5.out.2.2.2.2.1 e.symm
              have q6 := hJ6.out.1.cells
              clear h5
              go_wp2
              go_roundw
              case rel => exact ⟨0 + 1, nw, (⟨3, ys, now, (-1), nw, 1, 1⟩ : Inst), by omega, rfl, by go_num, hs1, hJ6⟩
              case measure => simp [intOf]; omega
            · obtain ⟨hs1, hs2, hs3⟩ := hHo.out.step (keep := keep) (nd := nd) (oe := oe) d (by omega) (by omega) nw hNW
              rw [if_neg hle] at hs3
              have hstep : Hid (∀ W, Calls Try.prog 17 #[.agg #[.int .i64 X.st, .int .i64 X.since, .int .i64 X.fr, .int .i64 X.quiet, .int .i64 X.seen, .int .i64 X.vk, .int .i64 X.vn], .agg #[.int .i64 fo, .int .i64 keep, .int .i64 nd, .int .i64 oe], .int .i64 2, .agg #[.int .i64 1, .int .i64 1], .int .i64 nw] W fun e w' => e = .returned (encI (stepI X ⟨fo, keep, nd, oe⟩ 2 1 1 nw)) ∧ Below W.heap.size W w') := fun W => step17 X ⟨fo, keep, nd, oe⟩ 2 1 1 nw W hfr hqq
              have hy : ∃ ys, stepI X ⟨fo, keep, nd, oe⟩ 2 1 1 nw = (⟨2, ys, now, (-1), nw, 1, 1⟩ : Inst) := by
                have h7 := step_seen X ⟨fo, keep, nd, oe⟩ 2 1 1 nw
                have h8 := hs1.1
                generalize stepI X ⟨fo, keep, nd, oe⟩ 2 1 1 nw = z at *
                obtain ⟨z1, z2, z3, z4, z5, z6, z7⟩ := z
                simp only at hs2 hs3 h7 h8
                obtain ⟨h7, h9, h10⟩ := h7
                subst hs2 hs3 h7 h8 h9 h10
                exact ⟨z2, rfl⟩
              obtain ⟨ys, hy⟩ := hy
              rw [hy] at hstep hs1
              replace hstep : Hid (∀ W, Calls Try.prog 17 #[.agg #[.int .i64 X.st, .int .i64 X.since, .int .i64 X.fr, .int .i64 X.quiet, .int .i64 X.seen, .int .i64 X.vk, .int .i64 X.vn], .agg #[.int .i64 fo, .int .i64 keep, .int .i64 nd, .int .i64 oe], .int .i64 2, .agg #[.int .i64 1, .int .i64 1], .int .i64 nw] W fun e w' => e = .returned (.agg #[.int .i64 2, .int .i64 ys, .int .i64 now, .int .i64 (-1), .int .i64 nw, .int .i64 1, .int .i64 1]) ∧ Below W.heap.size W w') := hstep
              replace hs1 : Hid (HoldI now fo (0 + 1) nw (⟨2, ys, now, (-1), nw, 1, 1⟩ : Inst)) := hs1
              clear hy hs2 hs3 hfr hqq hNW
              go_wp2
              have cx0 : ∀ p : Bel wr, p.W.cell? ⟨g, 0, none⟩ = some (.int .i64 X.st) := fun p => (((hJ.out.grow p.h).1).cells).1
              have cx1 : ∀ p : Bel wr, p.W.cell? ⟨g, 1, none⟩ = some (.int .i64 X.since) := fun p => (((hJ.out.grow p.h).1).cells).2.1
              have cx2 : ∀ p : Bel wr, p.W.cell? ⟨g, 2, none⟩ = some (.int .i64 X.fr) := fun p => (((hJ.out.grow p.h).1).cells).2.2.1
              have cx3 : ∀ p : Bel wr, p.W.cell? ⟨g, 3, none⟩ = some (.int .i64 X.quiet) := fun p => (((hJ.out.grow p.h).1).cells).2.2.2.1
              have cx4 : ∀ p : Bel wr, p.W.cell? ⟨g, 4, none⟩ = some (.int .i64 X.seen) := fun p => (((hJ.out.grow p.h).1).cells).2.2.2.2.1
              have cx5 : ∀ p : Bel wr, p.W.cell? ⟨g, 5, none⟩ = some (.int .i64 X.vk) := fun p => (((hJ.out.grow p.h).1).cells).2.2.2.2.2.1
              have cx6 : ∀ p : Bel wr, p.W.cell? ⟨g, 6, none⟩ = some (.int .i64 X.vn) := fun p => (((hJ.out.grow p.h).1).cells).2.2.2.2.2.2
              have ch0 : ∀ p : Bel wr, p.W.cell? ⟨w.heap.size, 0, none⟩ = some (.int .i64 fo) := fun p => (hd_cell (hJ.out.grow p.h).2.1).1
              have ch1 : ∀ p : Bel wr, p.W.cell? ⟨w.heap.size, 1, none⟩ = some (.int .i64 keep) := fun p => (hd_cell (hJ.out.grow p.h).2.1).2.1
              have ch2 : ∀ p : Bel wr, p.W.cell? ⟨w.heap.size, 2, none⟩ = some (.int .i64 nd) := fun p => (hd_cell (hJ.out.grow p.h).2.1).2.2.1
              have ch3 : ∀ p : Bel wr, p.W.cell? ⟨w.heap.size, 3, none⟩ = some (.int .i64 oe) := fun p => (hd_cell (hJ.out.grow p.h).2.1).2.2.2
              have k20 : ∀ p : Bel wr, Calls Try.prog 20 #[.int .i64 1] p.W fun e w' => e = .returned (.agg #[.int .i64 1, .int .i64 1]) ∧ Below p.W.heap.size p.W w' := fun p => hnum.out p.W
              have k17 : ∀ p : Bel wr, Calls Try.prog 17 #[.agg #[.int .i64 X.st, .int .i64 X.since, .int .i64 X.fr, .int .i64 X.quiet, .int .i64 X.seen, .int .i64 X.vk, .int .i64 X.vn], .agg #[.int .i64 fo, .int .i64 keep, .int .i64 nd, .int .i64 oe], .int .i64 2, .agg #[.int .i64 1, .int .i64 1], .int .i64 nw] p.W fun e w' => e = .returned (.agg #[.int .i64 2, .int .i64 ys, .int .i64 now, .int .i64 (-1), .int .i64 nw, .int .i64 1, .int .i64 1]) ∧ Below p.W.heap.size p.W w' := fun p => hstep.out p.W
              refine Yquiettail.region_tail (C := fun W => ∃ p : Bel wr, W = p.W) 5 (by kernel_rfl) (by kernel_rfl) ⟨⟨wr.drew, (Below.refl _ _).drew⟩, rfl⟩ ?_
              dsimp only [List.take, List.drop]
              repeat (go_big_quiet_step (first | (go_at_call 20; exact Calls.bel (k20 _)) | (go_at_call 17; exact Calls.bel (k17 _))))
              refine wpQuiet_nil ?_
              rintro w5 ⟨⟨wz, h5⟩, rfl⟩
              replace h5 : Below wr.heap.size wr w5 := h5
              clear cx0 cx1 cx2 cx3 cx4 cx5 cx6 ch0 ch1 ch2 ch3 k20 k17
              have hJ5 : Hid (LpJ w w5 w.heap.size g fo keep nd oe X) := hJ.out.grow h5
              have hJ6 : Hid (LpJ w ((((((((w5.setCell ⟨g, 0, none⟩ (.int .i64 2)).setCell ⟨g, 1, none⟩ (.int .i64 ys)).setCell ⟨g, 2, none⟩ (.int .i64 now)).setCell ⟨g, 3, none⟩ (.int .i64 (-1))).setCell ⟨g, 4, none⟩ (.int .i64 nw)).setCell ⟨g, 5, none⟩ (.int .i64 1)).setCell ⟨g, 6, none⟩ (.int .i64 1))) w.heap.size g fo keep nd oe (⟨2, ys, now, (-1), nw, 1, 1⟩ : Inst)) := LpJ.set (W := w5) (g := g) (Y := (⟨2, ys, now, (-1), nw, 1, 1⟩ : Inst)) hJ5.out
              obtain ⟨f0, f1, f2, f3, f4, f5, f6⟩ := hJ5.out.1.frozen
              obtain ⟨p0, p1, p2, p3, p4, p5, p6⟩ := hJ5.out.1.cells
              have ch5 := hd_cell hJ5.out.2.1
              have ch6 := hd_cell hJ6.out.2.1
              have hgne : ¬ g = w.heap.size := fun e => hJ5.out.2.2.2.2.1 e.symm
              have q6 := hJ6.out.1.cells
              clear h5
              go_wp2
              go_roundw
              case rel => exact ⟨0 + 1, nw, (⟨2, ys, now, (-1), nw, 1, 1⟩ : Inst), by omega, rfl, by go_num, hs1, hJ6⟩
              case measure => simp [intOf]; omega
          · have hk1 : (0 : Int) < (k : Int) := by omega
            have hNW : nw + d = if 0 < k then nw + d else nw := by rw [if_pos hk0]
            have hfr : X.st = 2 → -9223372036854775808 ≤ (nw + d) - X.fr ∧ (nw + d) - X.fr ≤ 9223372036854775807 := fun h => by have := hfr2.out h; omega
            have hqq : X.quiet ≠ -1 → -9223372036854775808 ≤ (nw + d) - X.quiet ∧ (nw + d) - X.quiet ≤ 9223372036854775807 := fun h => absurd hq2.out h
            by_cases hle : fo ≤ (nw + d) - now
            · obtain ⟨hs1, hs2, hs3⟩ := hHo.out.step (keep := keep) (nd := nd) (oe := oe) d (by omega) (by omega) (nw + d) hNW
              rw [if_pos hle] at hs3
              have hstep : Hid (∀ W, Calls Try.prog 17 #[.agg #[.int .i64 X.st, .int .i64 X.since, .int .i64 X.fr, .int .i64 X.quiet, .int .i64 X.seen, .int .i64 X.vk, .int .i64 X.vn], .agg #[.int .i64 fo, .int .i64 keep, .int .i64 nd, .int .i64 oe], .int .i64 2, .agg #[.int .i64 1, .int .i64 1], .int .i64 (nw + d)] W fun e w' => e = .returned (encI (stepI X ⟨fo, keep, nd, oe⟩ 2 1 1 (nw + d))) ∧ Below W.heap.size W w') := fun W => step17 X ⟨fo, keep, nd, oe⟩ 2 1 1 (nw + d) W hfr hqq
              have hy : ∃ ys, stepI X ⟨fo, keep, nd, oe⟩ 2 1 1 (nw + d) = (⟨3, ys, now, (-1), (nw + d), 1, 1⟩ : Inst) := by
                have h7 := step_seen X ⟨fo, keep, nd, oe⟩ 2 1 1 (nw + d)
                have h8 := hs1.1
                generalize stepI X ⟨fo, keep, nd, oe⟩ 2 1 1 (nw + d) = z at *
                obtain ⟨z1, z2, z3, z4, z5, z6, z7⟩ := z
                simp only at hs2 hs3 h7 h8
                obtain ⟨h7, h9, h10⟩ := h7
                subst hs2 hs3 h7 h8 h9 h10
                exact ⟨z2, rfl⟩
              obtain ⟨ys, hy⟩ := hy
              rw [hy] at hstep hs1
              replace hstep : Hid (∀ W, Calls Try.prog 17 #[.agg #[.int .i64 X.st, .int .i64 X.since, .int .i64 X.fr, .int .i64 X.quiet, .int .i64 X.seen, .int .i64 X.vk, .int .i64 X.vn], .agg #[.int .i64 fo, .int .i64 keep, .int .i64 nd, .int .i64 oe], .int .i64 2, .agg #[.int .i64 1, .int .i64 1], .int .i64 (nw + d)] W fun e w' => e = .returned (.agg #[.int .i64 3, .int .i64 ys, .int .i64 now, .int .i64 (-1), .int .i64 (nw + d), .int .i64 1, .int .i64 1]) ∧ Below W.heap.size W w') := hstep
              replace hs1 : Hid (HoldI now fo (k + 1) (nw + d) (⟨3, ys, now, (-1), (nw + d), 1, 1⟩ : Inst)) := hs1
              clear hy hs2 hs3 hfr hqq hNW
              go_wp2
              have cx0 : ∀ p : Bel wr, p.W.cell? ⟨g, 0, none⟩ = some (.int .i64 X.st) := fun p => (((hJ.out.grow p.h).1).cells).1
              have cx1 : ∀ p : Bel wr, p.W.cell? ⟨g, 1, none⟩ = some (.int .i64 X.since) := fun p => (((hJ.out.grow p.h).1).cells).2.1
              have cx2 : ∀ p : Bel wr, p.W.cell? ⟨g, 2, none⟩ = some (.int .i64 X.fr) := fun p => (((hJ.out.grow p.h).1).cells).2.2.1
              have cx3 : ∀ p : Bel wr, p.W.cell? ⟨g, 3, none⟩ = some (.int .i64 X.quiet) := fun p => (((hJ.out.grow p.h).1).cells).2.2.2.1
              have cx4 : ∀ p : Bel wr, p.W.cell? ⟨g, 4, none⟩ = some (.int .i64 X.seen) := fun p => (((hJ.out.grow p.h).1).cells).2.2.2.2.1
              have cx5 : ∀ p : Bel wr, p.W.cell? ⟨g, 5, none⟩ = some (.int .i64 X.vk) := fun p => (((hJ.out.grow p.h).1).cells).2.2.2.2.2.1
              have cx6 : ∀ p : Bel wr, p.W.cell? ⟨g, 6, none⟩ = some (.int .i64 X.vn) := fun p => (((hJ.out.grow p.h).1).cells).2.2.2.2.2.2
              have ch0 : ∀ p : Bel wr, p.W.cell? ⟨w.heap.size, 0, none⟩ = some (.int .i64 fo) := fun p => (hd_cell (hJ.out.grow p.h).2.1).1
              have ch1 : ∀ p : Bel wr, p.W.cell? ⟨w.heap.size, 1, none⟩ = some (.int .i64 keep) := fun p => (hd_cell (hJ.out.grow p.h).2.1).2.1
              have ch2 : ∀ p : Bel wr, p.W.cell? ⟨w.heap.size, 2, none⟩ = some (.int .i64 nd) := fun p => (hd_cell (hJ.out.grow p.h).2.1).2.2.1
              have ch3 : ∀ p : Bel wr, p.W.cell? ⟨w.heap.size, 3, none⟩ = some (.int .i64 oe) := fun p => (hd_cell (hJ.out.grow p.h).2.1).2.2.2
              have k20 : ∀ p : Bel wr, Calls Try.prog 20 #[.int .i64 1] p.W fun e w' => e = .returned (.agg #[.int .i64 1, .int .i64 1]) ∧ Below p.W.heap.size p.W w' := fun p => hnum.out p.W
              have k17 : ∀ p : Bel wr, Calls Try.prog 17 #[.agg #[.int .i64 X.st, .int .i64 X.since, .int .i64 X.fr, .int .i64 X.quiet, .int .i64 X.seen, .int .i64 X.vk, .int .i64 X.vn], .agg #[.int .i64 fo, .int .i64 keep, .int .i64 nd, .int .i64 oe], .int .i64 2, .agg #[.int .i64 1, .int .i64 1], .int .i64 (nw + d)] p.W fun e w' => e = .returned (.agg #[.int .i64 3, .int .i64 ys, .int .i64 now, .int .i64 (-1), .int .i64 (nw + d), .int .i64 1, .int .i64 1]) ∧ Below p.W.heap.size p.W w' := fun p => hstep.out p.W
              refine Yquiettail.region_tail (C := fun W => ∃ p : Bel wr, W = p.W) 5 (by kernel_rfl) (by kernel_rfl) ⟨⟨wr.drew, (Below.refl _ _).drew⟩, rfl⟩ ?_
              dsimp only [List.take, List.drop]
              repeat (go_big_quiet_step (first | (go_at_call 20; exact Calls.bel (k20 _)) | (go_at_call 17; exact Calls.bel (k17 _))))
              refine wpQuiet_nil ?_
              rintro w5 ⟨⟨wz, h5⟩, rfl⟩
              replace h5 : Below wr.heap.size wr w5 := h5
              clear cx0 cx1 cx2 cx3 cx4 cx5 cx6 ch0 ch1 ch2 ch3 k20 k17
              have hJ5 : Hid (LpJ w w5 w.heap.size g fo keep nd oe X) := hJ.out.grow h5
              have hJ6 : Hid (LpJ w ((((((((w5.setCell ⟨g, 0, none⟩ (.int .i64 3)).setCell ⟨g, 1, none⟩ (.int .i64 ys)).setCell ⟨g, 2, none⟩ (.int .i64 now)).setCell ⟨g, 3, none⟩ (.int .i64 (-1))).setCell ⟨g, 4, none⟩ (.int .i64 (nw + d))).setCell ⟨g, 5, none⟩ (.int .i64 1)).setCell ⟨g, 6, none⟩ (.int .i64 1))) w.heap.size g fo keep nd oe (⟨3, ys, now, (-1), (nw + d), 1, 1⟩ : Inst)) := LpJ.set (W := w5) (g := g) (Y := (⟨3, ys, now, (-1), (nw + d), 1, 1⟩ : Inst)) hJ5.out
              obtain ⟨f0, f1, f2, f3, f4, f5, f6⟩ := hJ5.out.1.frozen
              obtain ⟨p0, p1, p2, p3, p4, p5, p6⟩ := hJ5.out.1.cells
              have ch5 := hd_cell hJ5.out.2.1
              have ch6 := hd_cell hJ6.out.2.1
              have hgne : ¬ g = w.heap.size := fun e => hJ5.out.2.2.2.2.1 e.symm
              have q6 := hJ6.out.1.cells
              clear h5
              go_wp2
              go_roundw
              case rel => exact ⟨k + 1, (nw + d), (⟨3, ys, now, (-1), (nw + d), 1, 1⟩ : Inst), by omega, rfl, by go_num, hs1, hJ6⟩
              case measure => simp [intOf]; omega
            · obtain ⟨hs1, hs2, hs3⟩ := hHo.out.step (keep := keep) (nd := nd) (oe := oe) d (by omega) (by omega) (nw + d) hNW
              rw [if_neg hle] at hs3
              have hstep : Hid (∀ W, Calls Try.prog 17 #[.agg #[.int .i64 X.st, .int .i64 X.since, .int .i64 X.fr, .int .i64 X.quiet, .int .i64 X.seen, .int .i64 X.vk, .int .i64 X.vn], .agg #[.int .i64 fo, .int .i64 keep, .int .i64 nd, .int .i64 oe], .int .i64 2, .agg #[.int .i64 1, .int .i64 1], .int .i64 (nw + d)] W fun e w' => e = .returned (encI (stepI X ⟨fo, keep, nd, oe⟩ 2 1 1 (nw + d))) ∧ Below W.heap.size W w') := fun W => step17 X ⟨fo, keep, nd, oe⟩ 2 1 1 (nw + d) W hfr hqq
              have hy : ∃ ys, stepI X ⟨fo, keep, nd, oe⟩ 2 1 1 (nw + d) = (⟨2, ys, now, (-1), (nw + d), 1, 1⟩ : Inst) := by
                have h7 := step_seen X ⟨fo, keep, nd, oe⟩ 2 1 1 (nw + d)
                have h8 := hs1.1
                generalize stepI X ⟨fo, keep, nd, oe⟩ 2 1 1 (nw + d) = z at *
                obtain ⟨z1, z2, z3, z4, z5, z6, z7⟩ := z
                simp only at hs2 hs3 h7 h8
                obtain ⟨h7, h9, h10⟩ := h7
                subst hs2 hs3 h7 h8 h9 h10
                exact ⟨z2, rfl⟩
              obtain ⟨ys, hy⟩ := hy
              rw [hy] at hstep hs1
              replace hstep : Hid (∀ W, Calls Try.prog 17 #[.agg #[.int .i64 X.st, .int .i64 X.since, .int .i64 X.fr, .int .i64 X.quiet, .int .i64 X.seen, .int .i64 X.vk, .int .i64 X.vn], .agg #[.int .i64 fo, .int .i64 keep, .int .i64 nd, .int .i64 oe], .int .i64 2, .agg #[.int .i64 1, .int .i64 1], .int .i64 (nw + d)] W fun e w' => e = .returned (.agg #[.int .i64 2, .int .i64 ys, .int .i64 now, .int .i64 (-1), .int .i64 (nw + d), .int .i64 1, .int .i64 1]) ∧ Below W.heap.size W w') := hstep
              replace hs1 : Hid (HoldI now fo (k + 1) (nw + d) (⟨2, ys, now, (-1), (nw + d), 1, 1⟩ : Inst)) := hs1
              clear hy hs2 hs3 hfr hqq hNW
              go_wp2
              have cx0 : ∀ p : Bel wr, p.W.cell? ⟨g, 0, none⟩ = some (.int .i64 X.st) := fun p => (((hJ.out.grow p.h).1).cells).1
              have cx1 : ∀ p : Bel wr, p.W.cell? ⟨g, 1, none⟩ = some (.int .i64 X.since) := fun p => (((hJ.out.grow p.h).1).cells).2.1
              have cx2 : ∀ p : Bel wr, p.W.cell? ⟨g, 2, none⟩ = some (.int .i64 X.fr) := fun p => (((hJ.out.grow p.h).1).cells).2.2.1
              have cx3 : ∀ p : Bel wr, p.W.cell? ⟨g, 3, none⟩ = some (.int .i64 X.quiet) := fun p => (((hJ.out.grow p.h).1).cells).2.2.2.1
              have cx4 : ∀ p : Bel wr, p.W.cell? ⟨g, 4, none⟩ = some (.int .i64 X.seen) := fun p => (((hJ.out.grow p.h).1).cells).2.2.2.2.1
              have cx5 : ∀ p : Bel wr, p.W.cell? ⟨g, 5, none⟩ = some (.int .i64 X.vk) := fun p => (((hJ.out.grow p.h).1).cells).2.2.2.2.2.1
              have cx6 : ∀ p : Bel wr, p.W.cell? ⟨g, 6, none⟩ = some (.int .i64 X.vn) := fun p => (((hJ.out.grow p.h).1).cells).2.2.2.2.2.2
              have ch0 : ∀ p : Bel wr, p.W.cell? ⟨w.heap.size, 0, none⟩ = some (.int .i64 fo) := fun p => (hd_cell (hJ.out.grow p.h).2.1).1
              have ch1 : ∀ p : Bel wr, p.W.cell? ⟨w.heap.size, 1, none⟩ = some (.int .i64 keep) := fun p => (hd_cell (hJ.out.grow p.h).2.1).2.1
              have ch2 : ∀ p : Bel wr, p.W.cell? ⟨w.heap.size, 2, none⟩ = some (.int .i64 nd) := fun p => (hd_cell (hJ.out.grow p.h).2.1).2.2.1
              have ch3 : ∀ p : Bel wr, p.W.cell? ⟨w.heap.size, 3, none⟩ = some (.int .i64 oe) := fun p => (hd_cell (hJ.out.grow p.h).2.1).2.2.2
              have k20 : ∀ p : Bel wr, Calls Try.prog 20 #[.int .i64 1] p.W fun e w' => e = .returned (.agg #[.int .i64 1, .int .i64 1]) ∧ Below p.W.heap.size p.W w' := fun p => hnum.out p.W
              have k17 : ∀ p : Bel wr, Calls Try.prog 17 #[.agg #[.int .i64 X.st, .int .i64 X.since, .int .i64 X.fr, .int .i64 X.quiet, .int .i64 X.seen, .int .i64 X.vk, .int .i64 X.vn], .agg #[.int .i64 fo, .int .i64 keep, .int .i64 nd, .int .i64 oe], .int .i64 2, .agg #[.int .i64 1, .int .i64 1], .int .i64 (nw + d)] p.W fun e w' => e = .returned (.agg #[.int .i64 2, .int .i64 ys, .int .i64 now, .int .i64 (-1), .int .i64 (nw + d), .int .i64 1, .int .i64 1]) ∧ Below p.W.heap.size p.W w' := fun p => hstep.out p.W
              refine Yquiettail.region_tail (C := fun W => ∃ p : Bel wr, W = p.W) 5 (by kernel_rfl) (by kernel_rfl) ⟨⟨wr.drew, (Below.refl _ _).drew⟩, rfl⟩ ?_
              dsimp only [List.take, List.drop]
              repeat (go_big_quiet_step (first | (go_at_call 20; exact Calls.bel (k20 _)) | (go_at_call 17; exact Calls.bel (k17 _))))
              refine wpQuiet_nil ?_
              rintro w5 ⟨⟨wz, h5⟩, rfl⟩
              replace h5 : Below wr.heap.size wr w5 := h5
              clear cx0 cx1 cx2 cx3 cx4 cx5 cx6 ch0 ch1 ch2 ch3 k20 k17
              have hJ5 : Hid (LpJ w w5 w.heap.size g fo keep nd oe X) := hJ.out.grow h5
              have hJ6 : Hid (LpJ w ((((((((w5.setCell ⟨g, 0, none⟩ (.int .i64 2)).setCell ⟨g, 1, none⟩ (.int .i64 ys)).setCell ⟨g, 2, none⟩ (.int .i64 now)).setCell ⟨g, 3, none⟩ (.int .i64 (-1))).setCell ⟨g, 4, none⟩ (.int .i64 (nw + d))).setCell ⟨g, 5, none⟩ (.int .i64 1)).setCell ⟨g, 6, none⟩ (.int .i64 1))) w.heap.size g fo keep nd oe (⟨2, ys, now, (-1), (nw + d), 1, 1⟩ : Inst)) := LpJ.set (W := w5) (g := g) (Y := (⟨2, ys, now, (-1), (nw + d), 1, 1⟩ : Inst)) hJ5.out
              obtain ⟨f0, f1, f2, f3, f4, f5, f6⟩ := hJ5.out.1.frozen
              obtain ⟨p0, p1, p2, p3, p4, p5, p6⟩ := hJ5.out.1.cells
              have ch5 := hd_cell hJ5.out.2.1
              have ch6 := hd_cell hJ6.out.2.1
              have hgne : ¬ g = w.heap.size := fun e => hJ5.out.2.2.2.2.1 e.symm
              have q6 := hJ6.out.1.cells
              clear h5
              go_wp2
              go_roundw
              case rel => exact ⟨k + 1, (nw + d), (⟨2, ys, now, (-1), (nw + d), 1, 1⟩ : Inst), by omega, rfl, by go_num, hs1, hJ6⟩
              case measure => simp [intOf]; omega
        · obtain rfl : k = n := by omega
          have hki : ¬ (k : Int) < (k : Int) := by omega
          have hB : Hid (Below w.heap.size w wr) := hJ.out.2.2.1
          go_wp2_with (first | (go_at_call 9; refine (hlive _).mono ?_; rintro e w2 ⟨rfl, hb2⟩; have hE2 : Hid (Below w.heap.size w w2) := hB.out.trans (hb2.mono hB.out.size)))
          go_ret
          exact ⟨rfl, hE2.out⟩
  · have h3b : (ahead == 3) = false := by simp; omega
    have h4b : (ahead == 4) = false := by simp; omega
    go_enter Try.func4, Try.ntmps4
    go_wp2_with (first | (go_at_call 8; refine (hright.out _).mono ?_; rintro e w1 ⟨rfl, hb1⟩; have hJ1 : Hid (Below w.heap.size w w1 ∧ Blk w1 w.heap.size (.cells #[.int .i64 fo, .int .i64 keep, .int .i64 nd, .int .i64 oe] 27)) := ⟨hw0.out.1.trans (hb1.mono hw0.out.1.size), hw0.out.2.grow hb1⟩; clear hb1; have ch1 := hd_cell hJ1.out.2) | (go_at_call 13; refine (hnew.out _).mono ?_; rintro e w2 ⟨rfl, hb2⟩; have hJ2 : Hid (LpJ w (w2.alloc (.cells #[.int .i64 1, .int .i64 now, .int .i64 (-1), .int .i64 (-1), .int .i64 now, .int .i64 2, .int .i64 0] 25)) w.heap.size w2.heap.size fo keep nd oe (newI now)) := ⟨iNew w2 (newI now), (hJ1.out.2.grow hb2).grow (bW0 _ _), (hJ1.out.1.trans (hb2.mono hJ1.out.1.size)).alloc (Nat.le_trans hJ1.out.1.size hb2.size) _, Nat.le_refl _, (by have := (hJ1.out.2).lt; have := hb2.size; omega), Nat.le_trans hJ1.out.1.size hb2.size⟩; clear hb2))
    generalize w2.heap.size = g at *
    generalize w2.alloc (.cells #[.int .i64 1, .int .i64 now, .int .i64 (-1), .int .i64 (-1), .int .i64 now, .int .i64 2, .int .i64 0] 25) = wl at *
    clear hnew hJ1 ch1
    have hX0 := hstart
    replace hJ2 : Hid (LpJ w wl w.heap.size g fo keep nd oe (newI now)) := hJ2
    clear hnull hw0 hright
    go_loopw [1, 11] (fun nwv i wr => ∃ k : Nat, ∃ nw : Int, ∃ X : Inst, k ≤ n ∧ nwv = .int .i64 nw ∧ i = .int .i64 k ∧ Hid (HoldI now fo k nw X) ∧ Hid (LpJ w wr w.heap.size g fo keep nd oe X)) (fun _ i _ => n - (intOf i).toNat)
    case atStart => exact ⟨0, now, (newI now), Nat.zero_le _, rfl, rfl, hX0, hJ2⟩
    case round =>
      obtain ⟨k, nw, X, hk, rfl, rfl, hHo, hJ⟩ := hrel
      by_cases hlt : k < n
      · have hki : (k : Int) < (n : Int) := by omega
        have hB : Hid (Below w.heap.size w wr) := hJ.out.2.2.1
        obtain ⟨b, oo, rfl, x0⟩ := in_at (hgl.out wr hB.out) k (by rw [← hn.out]; exact hlt)
        generalize l.getD k 0 = d at *
        by_cases hd0 : d < 0
        · go_wp2_with (first | (go_at_call 9; refine (hlive _).mono ?_; rintro e w2 ⟨rfl, hb2⟩; have hE2 : Hid (Below w.heap.size w w2) := hB.out.trans (hb2.mono hB.out.size)))
          go_ret
          exact ⟨rfl, hE2.out⟩
        by_cases hd1 : 1000000 < d
        · go_wp2_with (first | (go_at_call 9; refine (hlive _).mono ?_; rintro e w2 ⟨rfl, hb2⟩; have hE2 : Hid (Below w.heap.size w w2) := hB.out.trans (hb2.mono hB.out.size)))
          go_ret
          exact ⟨rfl, hE2.out⟩
        have hHb := hHo.out.2.1
        have hfr2 : Hid (X.st = 2 → X.fr = now) := fun h => by
          rcases hHo.out.2.2 with ⟨-, -, h5⟩ | ⟨-, h5, -⟩
          · omega
          · exact h5
        have hq2 : Hid (X.quiet = -1) := hHo.out.1
        have hbig : 0 ≤ nw ∧ nw ≤ 700000000000 := by
          have : (k : Int) ≤ 100 := by omega
          omega
        clear hHb
        rcases Nat.eq_zero_or_pos k with hk0 | hk0
        · subst hk0
          have x0b : wr.cell? ⟨b, oo, none⟩ = some (.int .i64 d) := by simpa using x0
          have hNW : nw = if 0 < 0 then nw + d else nw := by simp
          have hfr : X.st = 2 → -9223372036854775808 ≤ nw - X.fr ∧ nw - X.fr ≤ 9223372036854775807 := fun h => by have := hfr2.out h; omega
          have hqq : X.quiet ≠ -1 → -9223372036854775808 ≤ nw - X.quiet ∧ nw - X.quiet ≤ 9223372036854775807 := fun h => absurd hq2.out h
          by_cases hle : fo ≤ nw - now
          · obtain ⟨hs1, hs2, hs3⟩ := hHo.out.step (keep := keep) (nd := nd) (oe := oe) d (by omega) (by omega) nw hNW
            rw [if_pos hle] at hs3
            have hstep : Hid (∀ W, Calls Try.prog 17 #[.agg #[.int .i64 X.st, .int .i64 X.since, .int .i64 X.fr, .int .i64 X.quiet, .int .i64 X.seen, .int .i64 X.vk, .int .i64 X.vn], .agg #[.int .i64 fo, .int .i64 keep, .int .i64 nd, .int .i64 oe], .int .i64 2, .agg #[.int .i64 1, .int .i64 1], .int .i64 nw] W fun e w' => e = .returned (encI (stepI X ⟨fo, keep, nd, oe⟩ 2 1 1 nw)) ∧ Below W.heap.size W w') := fun W => step17 X ⟨fo, keep, nd, oe⟩ 2 1 1 nw W hfr hqq
            have hy : ∃ ys, stepI X ⟨fo, keep, nd, oe⟩ 2 1 1 nw = (⟨3, ys, now, (-1), nw, 1, 1⟩ : Inst) := by
              have h7 := step_seen X ⟨fo, keep, nd, oe⟩ 2 1 1 nw
              have h8 := hs1.1
              generalize stepI X ⟨fo, keep, nd, oe⟩ 2 1 1 nw = z at *
              obtain ⟨z1, z2, z3, z4, z5, z6, z7⟩ := z
              simp only at hs2 hs3 h7 h8
              obtain ⟨h7, h9, h10⟩ := h7
              subst hs2 hs3 h7 h8 h9 h10
              exact ⟨z2, rfl⟩
            obtain ⟨ys, hy⟩ := hy
            rw [hy] at hstep hs1
            replace hstep : Hid (∀ W, Calls Try.prog 17 #[.agg #[.int .i64 X.st, .int .i64 X.since, .int .i64 X.fr, .int .i64 X.quiet, .int .i64 X.seen, .int .i64 X.vk, .int .i64 X.vn], .agg #[.int .i64 fo, .int .i64 keep, .int .i64 nd, .int .i64 oe], .int .i64 2, .agg #[.int .i64 1, .int .i64 1], .int .i64 nw] W fun e w' => e = .returned (.agg #[.int .i64 3, .int .i64 ys, .int .i64 now, .int .i64 (-1), .int .i64 nw, .int .i64 1, .int .i64 1]) ∧ Below W.heap.size W w') := hstep
            replace hs1 : Hid (HoldI now fo (0 + 1) nw (⟨3, ys, now, (-1), nw, 1, 1⟩ : Inst)) := hs1
            clear hy hs2 hs3 hfr hqq hNW
            go_wp2
            have cx0 : ∀ p : Bel wr, p.W.cell? ⟨g, 0, none⟩ = some (.int .i64 X.st) := fun p => (((hJ.out.grow p.h).1).cells).1
            have cx1 : ∀ p : Bel wr, p.W.cell? ⟨g, 1, none⟩ = some (.int .i64 X.since) := fun p => (((hJ.out.grow p.h).1).cells).2.1
            have cx2 : ∀ p : Bel wr, p.W.cell? ⟨g, 2, none⟩ = some (.int .i64 X.fr) := fun p => (((hJ.out.grow p.h).1).cells).2.2.1
            have cx3 : ∀ p : Bel wr, p.W.cell? ⟨g, 3, none⟩ = some (.int .i64 X.quiet) := fun p => (((hJ.out.grow p.h).1).cells).2.2.2.1
            have cx4 : ∀ p : Bel wr, p.W.cell? ⟨g, 4, none⟩ = some (.int .i64 X.seen) := fun p => (((hJ.out.grow p.h).1).cells).2.2.2.2.1
            have cx5 : ∀ p : Bel wr, p.W.cell? ⟨g, 5, none⟩ = some (.int .i64 X.vk) := fun p => (((hJ.out.grow p.h).1).cells).2.2.2.2.2.1
            have cx6 : ∀ p : Bel wr, p.W.cell? ⟨g, 6, none⟩ = some (.int .i64 X.vn) := fun p => (((hJ.out.grow p.h).1).cells).2.2.2.2.2.2
            have ch0 : ∀ p : Bel wr, p.W.cell? ⟨w.heap.size, 0, none⟩ = some (.int .i64 fo) := fun p => (hd_cell (hJ.out.grow p.h).2.1).1
            have ch1 : ∀ p : Bel wr, p.W.cell? ⟨w.heap.size, 1, none⟩ = some (.int .i64 keep) := fun p => (hd_cell (hJ.out.grow p.h).2.1).2.1
            have ch2 : ∀ p : Bel wr, p.W.cell? ⟨w.heap.size, 2, none⟩ = some (.int .i64 nd) := fun p => (hd_cell (hJ.out.grow p.h).2.1).2.2.1
            have ch3 : ∀ p : Bel wr, p.W.cell? ⟨w.heap.size, 3, none⟩ = some (.int .i64 oe) := fun p => (hd_cell (hJ.out.grow p.h).2.1).2.2.2
            have k20 : ∀ p : Bel wr, Calls Try.prog 20 #[.int .i64 1] p.W fun e w' => e = .returned (.agg #[.int .i64 1, .int .i64 1]) ∧ Below p.W.heap.size p.W w' := fun p => hnum.out p.W
            have k17 : ∀ p : Bel wr, Calls Try.prog 17 #[.agg #[.int .i64 X.st, .int .i64 X.since, .int .i64 X.fr, .int .i64 X.quiet, .int .i64 X.seen, .int .i64 X.vk, .int .i64 X.vn], .agg #[.int .i64 fo, .int .i64 keep, .int .i64 nd, .int .i64 oe], .int .i64 2, .agg #[.int .i64 1, .int .i64 1], .int .i64 nw] p.W fun e w' => e = .returned (.agg #[.int .i64 3, .int .i64 ys, .int .i64 now, .int .i64 (-1), .int .i64 nw, .int .i64 1, .int .i64 1]) ∧ Below p.W.heap.size p.W w' := fun p => hstep.out p.W
            refine Yquiettail.region_tail (C := fun W => ∃ p : Bel wr, W = p.W) 5 (by kernel_rfl) (by kernel_rfl) ⟨⟨wr.drew, (Below.refl _ _).drew⟩, rfl⟩ ?_
            dsimp only [List.take, List.drop]
            repeat (go_big_quiet_step (first | (go_at_call 20; exact Calls.bel (k20 _)) | (go_at_call 17; exact Calls.bel (k17 _))))
            refine wpQuiet_nil ?_
            rintro w5 ⟨⟨wz, h5⟩, rfl⟩
            replace h5 : Below wr.heap.size wr w5 := h5
            clear cx0 cx1 cx2 cx3 cx4 cx5 cx6 ch0 ch1 ch2 ch3 k20 k17
            have hJ5 : Hid (LpJ w w5 w.heap.size g fo keep nd oe X) := hJ.out.grow h5
            have hJ6 : Hid (LpJ w ((((((((w5.setCell ⟨g, 0, none⟩ (.int .i64 3)).setCell ⟨g, 1, none⟩ (.int .i64 ys)).setCell ⟨g, 2, none⟩ (.int .i64 now)).setCell ⟨g, 3, none⟩ (.int .i64 (-1))).setCell ⟨g, 4, none⟩ (.int .i64 nw)).setCell ⟨g, 5, none⟩ (.int .i64 1)).setCell ⟨g, 6, none⟩ (.int .i64 1))) w.heap.size g fo keep nd oe (⟨3, ys, now, (-1), nw, 1, 1⟩ : Inst)) := LpJ.set (W := w5) (g := g) (Y := (⟨3, ys, now, (-1), nw, 1, 1⟩ : Inst)) hJ5.out
            obtain ⟨f0, f1, f2, f3, f4, f5, f6⟩ := hJ5.out.1.frozen
            obtain ⟨p0, p1, p2, p3, p4, p5, p6⟩ := hJ5.out.1.cells
            have ch5 := hd_cell hJ5.out.2.1
            have ch6 := hd_cell hJ6.out.2.1
            have hgne : ¬ g = w.heap.size := fun e => hJ5.out.2.2.2.2.1 e.symm
            have q6 := hJ6.out.1.cells
            clear h5
            go_wp2
            go_roundw
            case rel => exact ⟨0 + 1, nw, (⟨3, ys, now, (-1), nw, 1, 1⟩ : Inst), by omega, rfl, by go_num, hs1, hJ6⟩
            case measure => simp [intOf]; omega
          · obtain ⟨hs1, hs2, hs3⟩ := hHo.out.step (keep := keep) (nd := nd) (oe := oe) d (by omega) (by omega) nw hNW
            rw [if_neg hle] at hs3
            have hstep : Hid (∀ W, Calls Try.prog 17 #[.agg #[.int .i64 X.st, .int .i64 X.since, .int .i64 X.fr, .int .i64 X.quiet, .int .i64 X.seen, .int .i64 X.vk, .int .i64 X.vn], .agg #[.int .i64 fo, .int .i64 keep, .int .i64 nd, .int .i64 oe], .int .i64 2, .agg #[.int .i64 1, .int .i64 1], .int .i64 nw] W fun e w' => e = .returned (encI (stepI X ⟨fo, keep, nd, oe⟩ 2 1 1 nw)) ∧ Below W.heap.size W w') := fun W => step17 X ⟨fo, keep, nd, oe⟩ 2 1 1 nw W hfr hqq
            have hy : ∃ ys, stepI X ⟨fo, keep, nd, oe⟩ 2 1 1 nw = (⟨2, ys, now, (-1), nw, 1, 1⟩ : Inst) := by
              have h7 := step_seen X ⟨fo, keep, nd, oe⟩ 2 1 1 nw
              have h8 := hs1.1
              generalize stepI X ⟨fo, keep, nd, oe⟩ 2 1 1 nw = z at *
              obtain ⟨z1, z2, z3, z4, z5, z6, z7⟩ := z
              simp only at hs2 hs3 h7 h8
              obtain ⟨h7, h9, h10⟩ := h7
              subst hs2 hs3 h7 h8 h9 h10
              exact ⟨z2, rfl⟩
            obtain ⟨ys, hy⟩ := hy
            rw [hy] at hstep hs1
            replace hstep : Hid (∀ W, Calls Try.prog 17 #[.agg #[.int .i64 X.st, .int .i64 X.since, .int .i64 X.fr, .int .i64 X.quiet, .int .i64 X.seen, .int .i64 X.vk, .int .i64 X.vn], .agg #[.int .i64 fo, .int .i64 keep, .int .i64 nd, .int .i64 oe], .int .i64 2, .agg #[.int .i64 1, .int .i64 1], .int .i64 nw] W fun e w' => e = .returned (.agg #[.int .i64 2, .int .i64 ys, .int .i64 now, .int .i64 (-1), .int .i64 nw, .int .i64 1, .int .i64 1]) ∧ Below W.heap.size W w') := hstep
            replace hs1 : Hid (HoldI now fo (0 + 1) nw (⟨2, ys, now, (-1), nw, 1, 1⟩ : Inst)) := hs1
            clear hy hs2 hs3 hfr hqq hNW
            go_wp2
            have cx0 : ∀ p : Bel wr, p.W.cell? ⟨g, 0, none⟩ = some (.int .i64 X.st) := fun p => (((hJ.out.grow p.h).1).cells).1
            have cx1 : ∀ p : Bel wr, p.W.cell? ⟨g, 1, none⟩ = some (.int .i64 X.since) := fun p => (((hJ.out.grow p.h).1).cells).2.1
            have cx2 : ∀ p : Bel wr, p.W.cell? ⟨g, 2, none⟩ = some (.int .i64 X.fr) := fun p => (((hJ.out.grow p.h).1).cells).2.2.1
            have cx3 : ∀ p : Bel wr, p.W.cell? ⟨g, 3, none⟩ = some (.int .i64 X.quiet) := fun p => (((hJ.out.grow p.h).1).cells).2.2.2.1
            have cx4 : ∀ p : Bel wr, p.W.cell? ⟨g, 4, none⟩ = some (.int .i64 X.seen) := fun p => (((hJ.out.grow p.h).1).cells).2.2.2.2.1
            have cx5 : ∀ p : Bel wr, p.W.cell? ⟨g, 5, none⟩ = some (.int .i64 X.vk) := fun p => (((hJ.out.grow p.h).1).cells).2.2.2.2.2.1
            have cx6 : ∀ p : Bel wr, p.W.cell? ⟨g, 6, none⟩ = some (.int .i64 X.vn) := fun p => (((hJ.out.grow p.h).1).cells).2.2.2.2.2.2
            have ch0 : ∀ p : Bel wr, p.W.cell? ⟨w.heap.size, 0, none⟩ = some (.int .i64 fo) := fun p => (hd_cell (hJ.out.grow p.h).2.1).1
            have ch1 : ∀ p : Bel wr, p.W.cell? ⟨w.heap.size, 1, none⟩ = some (.int .i64 keep) := fun p => (hd_cell (hJ.out.grow p.h).2.1).2.1
            have ch2 : ∀ p : Bel wr, p.W.cell? ⟨w.heap.size, 2, none⟩ = some (.int .i64 nd) := fun p => (hd_cell (hJ.out.grow p.h).2.1).2.2.1
            have ch3 : ∀ p : Bel wr, p.W.cell? ⟨w.heap.size, 3, none⟩ = some (.int .i64 oe) := fun p => (hd_cell (hJ.out.grow p.h).2.1).2.2.2
            have k20 : ∀ p : Bel wr, Calls Try.prog 20 #[.int .i64 1] p.W fun e w' => e = .returned (.agg #[.int .i64 1, .int .i64 1]) ∧ Below p.W.heap.size p.W w' := fun p => hnum.out p.W
            have k17 : ∀ p : Bel wr, Calls Try.prog 17 #[.agg #[.int .i64 X.st, .int .i64 X.since, .int .i64 X.fr, .int .i64 X.quiet, .int .i64 X.seen, .int .i64 X.vk, .int .i64 X.vn], .agg #[.int .i64 fo, .int .i64 keep, .int .i64 nd, .int .i64 oe], .int .i64 2, .agg #[.int .i64 1, .int .i64 1], .int .i64 nw] p.W fun e w' => e = .returned (.agg #[.int .i64 2, .int .i64 ys, .int .i64 now, .int .i64 (-1), .int .i64 nw, .int .i64 1, .int .i64 1]) ∧ Below p.W.heap.size p.W w' := fun p => hstep.out p.W
            refine Yquiettail.region_tail (C := fun W => ∃ p : Bel wr, W = p.W) 5 (by kernel_rfl) (by kernel_rfl) ⟨⟨wr.drew, (Below.refl _ _).drew⟩, rfl⟩ ?_
            dsimp only [List.take, List.drop]
            repeat (go_big_quiet_step (first | (go_at_call 20; exact Calls.bel (k20 _)) | (go_at_call 17; exact Calls.bel (k17 _))))
            refine wpQuiet_nil ?_
            rintro w5 ⟨⟨wz, h5⟩, rfl⟩
            replace h5 : Below wr.heap.size wr w5 := h5
            clear cx0 cx1 cx2 cx3 cx4 cx5 cx6 ch0 ch1 ch2 ch3 k20 k17
            have hJ5 : Hid (LpJ w w5 w.heap.size g fo keep nd oe X) := hJ.out.grow h5
            have hJ6 : Hid (LpJ w ((((((((w5.setCell ⟨g, 0, none⟩ (.int .i64 2)).setCell ⟨g, 1, none⟩ (.int .i64 ys)).setCell ⟨g, 2, none⟩ (.int .i64 now)).setCell ⟨g, 3, none⟩ (.int .i64 (-1))).setCell ⟨g, 4, none⟩ (.int .i64 nw)).setCell ⟨g, 5, none⟩ (.int .i64 1)).setCell ⟨g, 6, none⟩ (.int .i64 1))) w.heap.size g fo keep nd oe (⟨2, ys, now, (-1), nw, 1, 1⟩ : Inst)) := LpJ.set (W := w5) (g := g) (Y := (⟨2, ys, now, (-1), nw, 1, 1⟩ : Inst)) hJ5.out
            obtain ⟨f0, f1, f2, f3, f4, f5, f6⟩ := hJ5.out.1.frozen
            obtain ⟨p0, p1, p2, p3, p4, p5, p6⟩ := hJ5.out.1.cells
            have ch5 := hd_cell hJ5.out.2.1
            have ch6 := hd_cell hJ6.out.2.1
            have hgne : ¬ g = w.heap.size := fun e => hJ5.out.2.2.2.2.1 e.symm
            have q6 := hJ6.out.1.cells
            clear h5
            go_wp2
            go_roundw
            case rel => exact ⟨0 + 1, nw, (⟨2, ys, now, (-1), nw, 1, 1⟩ : Inst), by omega, rfl, by go_num, hs1, hJ6⟩
            case measure => simp [intOf]; omega
        · have hk1 : (0 : Int) < (k : Int) := by omega
          have hNW : nw + d = if 0 < k then nw + d else nw := by rw [if_pos hk0]
          have hfr : X.st = 2 → -9223372036854775808 ≤ (nw + d) - X.fr ∧ (nw + d) - X.fr ≤ 9223372036854775807 := fun h => by have := hfr2.out h; omega
          have hqq : X.quiet ≠ -1 → -9223372036854775808 ≤ (nw + d) - X.quiet ∧ (nw + d) - X.quiet ≤ 9223372036854775807 := fun h => absurd hq2.out h
          by_cases hle : fo ≤ (nw + d) - now
          · obtain ⟨hs1, hs2, hs3⟩ := hHo.out.step (keep := keep) (nd := nd) (oe := oe) d (by omega) (by omega) (nw + d) hNW
            rw [if_pos hle] at hs3
            have hstep : Hid (∀ W, Calls Try.prog 17 #[.agg #[.int .i64 X.st, .int .i64 X.since, .int .i64 X.fr, .int .i64 X.quiet, .int .i64 X.seen, .int .i64 X.vk, .int .i64 X.vn], .agg #[.int .i64 fo, .int .i64 keep, .int .i64 nd, .int .i64 oe], .int .i64 2, .agg #[.int .i64 1, .int .i64 1], .int .i64 (nw + d)] W fun e w' => e = .returned (encI (stepI X ⟨fo, keep, nd, oe⟩ 2 1 1 (nw + d))) ∧ Below W.heap.size W w') := fun W => step17 X ⟨fo, keep, nd, oe⟩ 2 1 1 (nw + d) W hfr hqq
            have hy : ∃ ys, stepI X ⟨fo, keep, nd, oe⟩ 2 1 1 (nw + d) = (⟨3, ys, now, (-1), (nw + d), 1, 1⟩ : Inst) := by
              have h7 := step_seen X ⟨fo, keep, nd, oe⟩ 2 1 1 (nw + d)
              have h8 := hs1.1
              generalize stepI X ⟨fo, keep, nd, oe⟩ 2 1 1 (nw + d) = z at *
              obtain ⟨z1, z2, z3, z4, z5, z6, z7⟩ := z
              simp only at hs2 hs3 h7 h8
              obtain ⟨h7, h9, h10⟩ := h7
              subst hs2 hs3 h7 h8 h9 h10
              exact ⟨z2, rfl⟩
            obtain ⟨ys, hy⟩ := hy
            rw [hy] at hstep hs1
            replace hstep : Hid (∀ W, Calls Try.prog 17 #[.agg #[.int .i64 X.st, .int .i64 X.since, .int .i64 X.fr, .int .i64 X.quiet, .int .i64 X.seen, .int .i64 X.vk, .int .i64 X.vn], .agg #[.int .i64 fo, .int .i64 keep, .int .i64 nd, .int .i64 oe], .int .i64 2, .agg #[.int .i64 1, .int .i64 1], .int .i64 (nw + d)] W fun e w' => e = .returned (.agg #[.int .i64 3, .int .i64 ys, .int .i64 now, .int .i64 (-1), .int .i64 (nw + d), .int .i64 1, .int .i64 1]) ∧ Below W.heap.size W w') := hstep
            replace hs1 : Hid (HoldI now fo (k + 1) (nw + d) (⟨3, ys, now, (-1), (nw + d), 1, 1⟩ : Inst)) := hs1
            clear hy hs2 hs3 hfr hqq hNW
            go_wp2
            have cx0 : ∀ p : Bel wr, p.W.cell? ⟨g, 0, none⟩ = some (.int .i64 X.st) := fun p => (((hJ.out.grow p.h).1).cells).1
            have cx1 : ∀ p : Bel wr, p.W.cell? ⟨g, 1, none⟩ = some (.int .i64 X.since) := fun p => (((hJ.out.grow p.h).1).cells).2.1
            have cx2 : ∀ p : Bel wr, p.W.cell? ⟨g, 2, none⟩ = some (.int .i64 X.fr) := fun p => (((hJ.out.grow p.h).1).cells).2.2.1
            have cx3 : ∀ p : Bel wr, p.W.cell? ⟨g, 3, none⟩ = some (.int .i64 X.quiet) := fun p => (((hJ.out.grow p.h).1).cells).2.2.2.1
            have cx4 : ∀ p : Bel wr, p.W.cell? ⟨g, 4, none⟩ = some (.int .i64 X.seen) := fun p => (((hJ.out.grow p.h).1).cells).2.2.2.2.1
            have cx5 : ∀ p : Bel wr, p.W.cell? ⟨g, 5, none⟩ = some (.int .i64 X.vk) := fun p => (((hJ.out.grow p.h).1).cells).2.2.2.2.2.1
            have cx6 : ∀ p : Bel wr, p.W.cell? ⟨g, 6, none⟩ = some (.int .i64 X.vn) := fun p => (((hJ.out.grow p.h).1).cells).2.2.2.2.2.2
            have ch0 : ∀ p : Bel wr, p.W.cell? ⟨w.heap.size, 0, none⟩ = some (.int .i64 fo) := fun p => (hd_cell (hJ.out.grow p.h).2.1).1
            have ch1 : ∀ p : Bel wr, p.W.cell? ⟨w.heap.size, 1, none⟩ = some (.int .i64 keep) := fun p => (hd_cell (hJ.out.grow p.h).2.1).2.1
            have ch2 : ∀ p : Bel wr, p.W.cell? ⟨w.heap.size, 2, none⟩ = some (.int .i64 nd) := fun p => (hd_cell (hJ.out.grow p.h).2.1).2.2.1
            have ch3 : ∀ p : Bel wr, p.W.cell? ⟨w.heap.size, 3, none⟩ = some (.int .i64 oe) := fun p => (hd_cell (hJ.out.grow p.h).2.1).2.2.2
            have k20 : ∀ p : Bel wr, Calls Try.prog 20 #[.int .i64 1] p.W fun e w' => e = .returned (.agg #[.int .i64 1, .int .i64 1]) ∧ Below p.W.heap.size p.W w' := fun p => hnum.out p.W
            have k17 : ∀ p : Bel wr, Calls Try.prog 17 #[.agg #[.int .i64 X.st, .int .i64 X.since, .int .i64 X.fr, .int .i64 X.quiet, .int .i64 X.seen, .int .i64 X.vk, .int .i64 X.vn], .agg #[.int .i64 fo, .int .i64 keep, .int .i64 nd, .int .i64 oe], .int .i64 2, .agg #[.int .i64 1, .int .i64 1], .int .i64 (nw + d)] p.W fun e w' => e = .returned (.agg #[.int .i64 3, .int .i64 ys, .int .i64 now, .int .i64 (-1), .int .i64 (nw + d), .int .i64 1, .int .i64 1]) ∧ Below p.W.heap.size p.W w' := fun p => hstep.out p.W
            refine Yquiettail.region_tail (C := fun W => ∃ p : Bel wr, W = p.W) 5 (by kernel_rfl) (by kernel_rfl) ⟨⟨wr.drew, (Below.refl _ _).drew⟩, rfl⟩ ?_
            dsimp only [List.take, List.drop]
            repeat (go_big_quiet_step (first | (go_at_call 20; exact Calls.bel (k20 _)) | (go_at_call 17; exact Calls.bel (k17 _))))
            refine wpQuiet_nil ?_
            rintro w5 ⟨⟨wz, h5⟩, rfl⟩
            replace h5 : Below wr.heap.size wr w5 := h5
            clear cx0 cx1 cx2 cx3 cx4 cx5 cx6 ch0 ch1 ch2 ch3 k20 k17
            have hJ5 : Hid (LpJ w w5 w.heap.size g fo keep nd oe X) := hJ.out.grow h5
            have hJ6 : Hid (LpJ w ((((((((w5.setCell ⟨g, 0, none⟩ (.int .i64 3)).setCell ⟨g, 1, none⟩ (.int .i64 ys)).setCell ⟨g, 2, none⟩ (.int .i64 now)).setCell ⟨g, 3, none⟩ (.int .i64 (-1))).setCell ⟨g, 4, none⟩ (.int .i64 (nw + d))).setCell ⟨g, 5, none⟩ (.int .i64 1)).setCell ⟨g, 6, none⟩ (.int .i64 1))) w.heap.size g fo keep nd oe (⟨3, ys, now, (-1), (nw + d), 1, 1⟩ : Inst)) := LpJ.set (W := w5) (g := g) (Y := (⟨3, ys, now, (-1), (nw + d), 1, 1⟩ : Inst)) hJ5.out
            obtain ⟨f0, f1, f2, f3, f4, f5, f6⟩ := hJ5.out.1.frozen
            obtain ⟨p0, p1, p2, p3, p4, p5, p6⟩ := hJ5.out.1.cells
            have ch5 := hd_cell hJ5.out.2.1
            have ch6 := hd_cell hJ6.out.2.1
            have hgne : ¬ g = w.heap.size := fun e => hJ5.out.2.2.2.2.1 e.symm
            have q6 := hJ6.out.1.cells
            clear h5
            go_wp2
            go_roundw
            case rel => exact ⟨k + 1, (nw + d), (⟨3, ys, now, (-1), (nw + d), 1, 1⟩ : Inst), by omega, rfl, by go_num, hs1, hJ6⟩
            case measure => simp [intOf]; omega
          · obtain ⟨hs1, hs2, hs3⟩ := hHo.out.step (keep := keep) (nd := nd) (oe := oe) d (by omega) (by omega) (nw + d) hNW
            rw [if_neg hle] at hs3
            have hstep : Hid (∀ W, Calls Try.prog 17 #[.agg #[.int .i64 X.st, .int .i64 X.since, .int .i64 X.fr, .int .i64 X.quiet, .int .i64 X.seen, .int .i64 X.vk, .int .i64 X.vn], .agg #[.int .i64 fo, .int .i64 keep, .int .i64 nd, .int .i64 oe], .int .i64 2, .agg #[.int .i64 1, .int .i64 1], .int .i64 (nw + d)] W fun e w' => e = .returned (encI (stepI X ⟨fo, keep, nd, oe⟩ 2 1 1 (nw + d))) ∧ Below W.heap.size W w') := fun W => step17 X ⟨fo, keep, nd, oe⟩ 2 1 1 (nw + d) W hfr hqq
            have hy : ∃ ys, stepI X ⟨fo, keep, nd, oe⟩ 2 1 1 (nw + d) = (⟨2, ys, now, (-1), (nw + d), 1, 1⟩ : Inst) := by
              have h7 := step_seen X ⟨fo, keep, nd, oe⟩ 2 1 1 (nw + d)
              have h8 := hs1.1
              generalize stepI X ⟨fo, keep, nd, oe⟩ 2 1 1 (nw + d) = z at *
              obtain ⟨z1, z2, z3, z4, z5, z6, z7⟩ := z
              simp only at hs2 hs3 h7 h8
              obtain ⟨h7, h9, h10⟩ := h7
              subst hs2 hs3 h7 h8 h9 h10
              exact ⟨z2, rfl⟩
            obtain ⟨ys, hy⟩ := hy
            rw [hy] at hstep hs1
            replace hstep : Hid (∀ W, Calls Try.prog 17 #[.agg #[.int .i64 X.st, .int .i64 X.since, .int .i64 X.fr, .int .i64 X.quiet, .int .i64 X.seen, .int .i64 X.vk, .int .i64 X.vn], .agg #[.int .i64 fo, .int .i64 keep, .int .i64 nd, .int .i64 oe], .int .i64 2, .agg #[.int .i64 1, .int .i64 1], .int .i64 (nw + d)] W fun e w' => e = .returned (.agg #[.int .i64 2, .int .i64 ys, .int .i64 now, .int .i64 (-1), .int .i64 (nw + d), .int .i64 1, .int .i64 1]) ∧ Below W.heap.size W w') := hstep
            replace hs1 : Hid (HoldI now fo (k + 1) (nw + d) (⟨2, ys, now, (-1), (nw + d), 1, 1⟩ : Inst)) := hs1
            clear hy hs2 hs3 hfr hqq hNW
            go_wp2
            have cx0 : ∀ p : Bel wr, p.W.cell? ⟨g, 0, none⟩ = some (.int .i64 X.st) := fun p => (((hJ.out.grow p.h).1).cells).1
            have cx1 : ∀ p : Bel wr, p.W.cell? ⟨g, 1, none⟩ = some (.int .i64 X.since) := fun p => (((hJ.out.grow p.h).1).cells).2.1
            have cx2 : ∀ p : Bel wr, p.W.cell? ⟨g, 2, none⟩ = some (.int .i64 X.fr) := fun p => (((hJ.out.grow p.h).1).cells).2.2.1
            have cx3 : ∀ p : Bel wr, p.W.cell? ⟨g, 3, none⟩ = some (.int .i64 X.quiet) := fun p => (((hJ.out.grow p.h).1).cells).2.2.2.1
            have cx4 : ∀ p : Bel wr, p.W.cell? ⟨g, 4, none⟩ = some (.int .i64 X.seen) := fun p => (((hJ.out.grow p.h).1).cells).2.2.2.2.1
            have cx5 : ∀ p : Bel wr, p.W.cell? ⟨g, 5, none⟩ = some (.int .i64 X.vk) := fun p => (((hJ.out.grow p.h).1).cells).2.2.2.2.2.1
            have cx6 : ∀ p : Bel wr, p.W.cell? ⟨g, 6, none⟩ = some (.int .i64 X.vn) := fun p => (((hJ.out.grow p.h).1).cells).2.2.2.2.2.2
            have ch0 : ∀ p : Bel wr, p.W.cell? ⟨w.heap.size, 0, none⟩ = some (.int .i64 fo) := fun p => (hd_cell (hJ.out.grow p.h).2.1).1
            have ch1 : ∀ p : Bel wr, p.W.cell? ⟨w.heap.size, 1, none⟩ = some (.int .i64 keep) := fun p => (hd_cell (hJ.out.grow p.h).2.1).2.1
            have ch2 : ∀ p : Bel wr, p.W.cell? ⟨w.heap.size, 2, none⟩ = some (.int .i64 nd) := fun p => (hd_cell (hJ.out.grow p.h).2.1).2.2.1
            have ch3 : ∀ p : Bel wr, p.W.cell? ⟨w.heap.size, 3, none⟩ = some (.int .i64 oe) := fun p => (hd_cell (hJ.out.grow p.h).2.1).2.2.2
            have k20 : ∀ p : Bel wr, Calls Try.prog 20 #[.int .i64 1] p.W fun e w' => e = .returned (.agg #[.int .i64 1, .int .i64 1]) ∧ Below p.W.heap.size p.W w' := fun p => hnum.out p.W
            have k17 : ∀ p : Bel wr, Calls Try.prog 17 #[.agg #[.int .i64 X.st, .int .i64 X.since, .int .i64 X.fr, .int .i64 X.quiet, .int .i64 X.seen, .int .i64 X.vk, .int .i64 X.vn], .agg #[.int .i64 fo, .int .i64 keep, .int .i64 nd, .int .i64 oe], .int .i64 2, .agg #[.int .i64 1, .int .i64 1], .int .i64 (nw + d)] p.W fun e w' => e = .returned (.agg #[.int .i64 2, .int .i64 ys, .int .i64 now, .int .i64 (-1), .int .i64 (nw + d), .int .i64 1, .int .i64 1]) ∧ Below p.W.heap.size p.W w' := fun p => hstep.out p.W
            refine Yquiettail.region_tail (C := fun W => ∃ p : Bel wr, W = p.W) 5 (by kernel_rfl) (by kernel_rfl) ⟨⟨wr.drew, (Below.refl _ _).drew⟩, rfl⟩ ?_
            dsimp only [List.take, List.drop]
            repeat (go_big_quiet_step (first | (go_at_call 20; exact Calls.bel (k20 _)) | (go_at_call 17; exact Calls.bel (k17 _))))
            refine wpQuiet_nil ?_
            rintro w5 ⟨⟨wz, h5⟩, rfl⟩
            replace h5 : Below wr.heap.size wr w5 := h5
            clear cx0 cx1 cx2 cx3 cx4 cx5 cx6 ch0 ch1 ch2 ch3 k20 k17
            have hJ5 : Hid (LpJ w w5 w.heap.size g fo keep nd oe X) := hJ.out.grow h5
            have hJ6 : Hid (LpJ w ((((((((w5.setCell ⟨g, 0, none⟩ (.int .i64 2)).setCell ⟨g, 1, none⟩ (.int .i64 ys)).setCell ⟨g, 2, none⟩ (.int .i64 now)).setCell ⟨g, 3, none⟩ (.int .i64 (-1))).setCell ⟨g, 4, none⟩ (.int .i64 (nw + d))).setCell ⟨g, 5, none⟩ (.int .i64 1)).setCell ⟨g, 6, none⟩ (.int .i64 1))) w.heap.size g fo keep nd oe (⟨2, ys, now, (-1), (nw + d), 1, 1⟩ : Inst)) := LpJ.set (W := w5) (g := g) (Y := (⟨2, ys, now, (-1), (nw + d), 1, 1⟩ : Inst)) hJ5.out
            obtain ⟨f0, f1, f2, f3, f4, f5, f6⟩ := hJ5.out.1.frozen
            obtain ⟨p0, p1, p2, p3, p4, p5, p6⟩ := hJ5.out.1.cells
            have ch5 := hd_cell hJ5.out.2.1
            have ch6 := hd_cell hJ6.out.2.1
            have hgne : ¬ g = w.heap.size := fun e => hJ5.out.2.2.2.2.1 e.symm
            have q6 := hJ6.out.1.cells
            clear h5
            go_wp2
            go_roundw
            case rel => exact ⟨k + 1, (nw + d), (⟨2, ys, now, (-1), (nw + d), 1, 1⟩ : Inst), by omega, rfl, by go_num, hs1, hJ6⟩
            case measure => simp [intOf]; omega
      · obtain rfl : k = n := by omega
        have hki : ¬ (k : Int) < (k : Int) := by omega
        have hB : Hid (Below w.heap.size w wr) := hJ.out.2.2.1
        go_wp2_with (first | (go_at_call 9; refine (hlive _).mono ?_; rintro e w2 ⟨rfl, hb2⟩; have hE2 : Hid (Below w.heap.size w w2) := hB.out.trans (hb2.mono hB.out.size)))
        go_ret
        exact ⟨rfl, hE2.out⟩
/-! ### THE ROW's STEP -/
set_option maxRecDepth 100000 in
theorem lifted (os : Os) (started : os.Started) (H : Type) (enc : TypeId × Value → H) :
    ReturnsInHanded {} Try.checked os 4 .any (Rows.stateHoldSpec.pre6 enc Try.prog Try.f4 Rows.stateHoldRow.domain false) (Rows.stateHoldSpec.post enc Try.prog Try.f4 false true false false) := by
  refine returnsInHanded_of_change_sized (C := Try.checked) own started (by kernel_rfl) Try.func4
    (ChangeSpec.witness6 (enc := enc) (C := Try.checked) false ⟨#[], #[.agg #[.int .i64 0, .int .i64 0, .int .i64 0, .int .i64 0], .int .i64 0, .slice none 0 0, .int .i64 0], []⟩ 8 (by kernel_rfl) (by kernel_rfl) (by kernel_rfl) (by kernel_rfl)) ?_
  intro W base args ds gs before hval0 hW hcnd hsz0 _
  have hsz : (DataW.weightsEach Try.prog (Try.f4.params.toList ++ Rows.stateHoldSpec.plain.varTypes Try.prog) (ds ++ gs)).all (· ≤ reachBytes) = true := hsz0
  have hval : ∀ (j : Nat) t v, Try.f4.params[j]? = some t → args[j]? = some v → Value.okWide Try.prog W .any base t v := hval0
  have hW' := hW
  obtain ⟨p, q, hA0, hV, rfl, hfz, hnd⟩ := hW
  have hA : DataW.TrodAll enc Try.prog W 0 (fun _ => true) true Try.f4.params.toList args.toList ds p := hA0
  rw [Try.params4] at hA hval hsz
  obtain ⟨v0, vs0, d0, ds0, p0, q0, hargs, rfl, rfl, h0, r0⟩ := trodAll_cons hA
  obtain ⟨v1, vs1, d1, ds1, p1, q1, rfl, rfl, rfl, h1, r1⟩ := trodAll_cons r0
  obtain ⟨v2, vs2, d2, ds2, p2, q2, rfl, rfl, rfl, h2, r2⟩ := trodAll_cons r1
  obtain ⟨v3, vs3, d3, ds3, p3, q3, rfl, rfl, rfl, h3, r3⟩ := trodAll_cons r2
  obtain ⟨rfl, rfl, rfl⟩ := trodAll_nil r3
  obtain rfl : args = #[v0, v1, v2, v3] := by cases args; simp_all
  obtain ⟨rfl, rfl⟩ := trodVars_none hV
  have k0 := h0
  have lt0 : ∀ x ∈ p0, x.block < W.heap.size := by obtain ⟨m, hm⟩ := k0; exact DataW.trod_lt m _ _ _ hm
  obtain ⟨m0, rfl, hR0⟩ : ∃ x : Hd, v0 = encH x ∧ HolIn x := by
    obtain ⟨fuel, hf⟩ := h0
    exact hol_arg (hval 0 27 v0 rfl rfl) hf
  obtain ⟨x1, rfl, rfl, rfl, w1⟩ := open_int Try.underlying2 (hval 1 2 v1 rfl rfl) h1
  have k2 := h2
  have lt2 : ∀ x ∈ p2, x.block < W.heap.size := by obtain ⟨m, hm⟩ := k2; exact DataW.trod_lt m _ _ _ hm
  obtain ⟨a2, n2, c2, rfl⟩ := okWide_slice Try.underlying41 (hval 2 41 v2 rfl rfl)
  obtain ⟨l2, hP2, hR2, hL2⟩ : ∃ l, Ins W (.slice a2 n2 c2) l ∧ (∀ p ∈ l, I64 p) ∧ l.length ≤ 17592186043904 := by
    obtain ⟨fuel, hf⟩ := h2
    refine ints_of_trod hf (fun q hq => ?_)
    have := List.all_eq_true.1 hsz _ (DataW.weights_mem_each (j := 2) (t := 41) rfl rfl q hq)
    simpa using this
  obtain ⟨x3, rfl, rfl, rfl, w3⟩ := open_int Try.underlying3 (hval 3 3 v3 rfl rfl) h3
  clear hA0 hval0
  refine (walk m0 x1 (.slice a2 n2 c2) l2 x3 W hR0 (in64_of w1) hP2 hR2 hL2 (in64_of w3)).mono fun e W' ⟨he, bel⟩ => ?_
  subst he
  exact ⟨_, rfl, _, _, _, [], _, [], hW', trodAll_mk1 (shut_bool Try.underlying4 _), (trodAll_cons_mk (Below.trod laidOut (by kernel_rfl) (of_decide_eq_true (by kernel_rfl)) k0 bel lt0) (trodAll_cons_mk (shut_int Try.underlying2 w1) (trodAll_cons_mk (Below.trod laidOut (by kernel_rfl) (of_decide_eq_true (by kernel_rfl)) k2 bel lt2) (trodAll_cons_mk (shut_int Try.underlying3 w3) trodAll_mk0)))), rfl, bel.frame _, fun h => by cases h⟩
theorem over : Rows.stateHoldRow.holds Try.pinned (OpenSpec.ofChange Rows.stateHoldSpec) :=
  OpenClaim.holds_of_wide 4 Try.f4 rfl rfl rfl rfl rfl rfl rfl ⟨rfl, rfl, rfl, rfl, rfl⟩ rfl rfl rfl rfl rfl (by kernel_rfl) Try.func4 (by kernel_rfl)
    (of_decide_eq_true (by kernel_rfl)) (by unfold Func.isWrapper; first | (rw [if_pos (by decide +kernel)]; kernel_rfl) | (rw [if_neg (by decide +kernel)]; exact ⟨rfl, rfl⟩))
    (fun os started H enc _ => lifted os started H enc)
end Go.Proofs.Ytcfhpndoaiknhaa.stateHold
namespace Go.Proofs.Ytcfhpndoaiknhaa
/-- The statement. -/
theorem stateHold_holds : Rows.StateHoldSaid := stateHold.over
#print axioms stateHold_holds
end Go.Proofs.Ytcfhpndoaiknhaa
