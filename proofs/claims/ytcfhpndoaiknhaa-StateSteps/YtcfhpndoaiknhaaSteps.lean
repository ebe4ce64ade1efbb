/-
  Every evaluations, one behind the other: New, Check, Means and Step answer as the document has it, whatever instance, hold, moment and evaluations are handed in: StateSteps returns true and changes no argument.
-/
import Derived.Test.YtcfhpndoaiknhaaRows
import Derived.WalkKit
import Derived.ProofKit
import Derived.OpenShut
import Derived.ShutString
import Derived.ChangeOld
import Derived.Below
import Derived.SizedLaws
import Derived.Test.YtcfhpndoaiknhaaEq
import Derived.Test.YtcfhpndoaiknhaaQt
import Derived.Test.YtcfhpndoaiknhaaQm
namespace Go.Proofs.Ytcfhpndoaiknhaa.stateSteps
open Go.ChangeShapes Go.WideShapes Go.ChangeAt Go.RowKit
open Go.ChangeMaps (open_string shut_string)
set_option linter.unusedVariables false
theorem own : ownKnob Try.prog.godebug = none := by kernel_rfl
theorem laidOut : laidOutB Try.prog = true := by kernel_rfl
/-- What stands between two rounds: two blocks that hold instances, one that holds the hold. -/
def TwJ (w wr : World) (g0 h0 g : Nat) (fo keep nd oe : Int) (X0 X1 : Inst) : Prop := IAt wr g0 X0 ∧ IAt wr g X1 ∧ Blk wr h0 (.cells #[.int .i64 fo, .int .i64 keep, .int .i64 nd, .int .i64 oe] 27) ∧ Below w.heap.size w wr ∧ w.heap.size ≤ g0 ∧ w.heap.size ≤ g ∧ g0 ≠ h0 ∧ g ≠ h0 ∧ g0 ≠ g
theorem TwJ.grow {w wr W : World} {g0 h0 g : Nat} {fo keep nd oe : Int} {X0 X1 : Inst} (h : TwJ w wr g0 h0 g fo keep nd oe X0 X1) (hb : Below wr.heap.size wr W) : TwJ w W g0 h0 g fo keep nd oe X0 X1 :=
  ⟨h.1.grow hb, h.2.1.grow hb, h.2.2.1.grow hb, h.2.2.2.1.trans (hb.mono h.2.2.2.1.size), h.2.2.2.2⟩
theorem IAt.set7o {W : World} {g g' : Nat} {X Y : Inst} (h : IAt W g' X) (hg : g ≠ g') : IAt (set7 W g Y) g' X := Blk.set7 (o := .cells #[.int .i64 X.st, .int .i64 X.since, .int .i64 X.fr, .int .i64 X.quiet, .int .i64 X.seen, .int .i64 X.vk, .int .i64 X.vn] 25) h hg
theorem TwJ.set0 {w W : World} {g0 h0 g : Nat} {fo keep nd oe : Int} {X0 X1 Y : Inst} (h : TwJ w W g0 h0 g fo keep nd oe X0 X1) : TwJ w (set7 W g0 Y) g0 h0 g fo keep nd oe Y X1 :=
  ⟨iSet h.1, IAt.set7o h.2.1 h.2.2.2.2.2.2.2.2, Blk.set7 h.2.2.1 h.2.2.2.2.2.2.1, belSet7 h.2.2.2.1 h.2.2.2.2.1, h.2.2.2.2⟩
theorem TwJ.set1 {w W : World} {g0 h0 g : Nat} {fo keep nd oe : Int} {X0 X1 Y : Inst} (h : TwJ w W g0 h0 g fo keep nd oe X0 X1) : TwJ w (set7 W g Y) g0 h0 g fo keep nd oe X0 Y :=
  ⟨IAt.set7o h.1 (Ne.symm h.2.2.2.2.2.2.2.2), iSet h.2.1, Blk.set7 h.2.2.1 h.2.2.2.2.2.2.2.1, belSet7 h.2.2.2.1 h.2.2.2.2.2.1, h.2.2.2.2⟩
set_option maxRecDepth 100000 in
set_option maxHeartbeats 8000000 in
theorem walk (x : Inst) (h : Hd) (now : Int) (v : Value) (l : List Ac) (w : World) (hX : InsIn x) (hH : HolIn h) (hN : I64 now) (hP : Acs w v l) (hE : ∀ p ∈ l, AcIn p) (hL : l.length ≤ 4398046510976) :
    Calls Try.prog 3 #[encI x, encH h, .int .i64 now, v] w fun e w' => e = .returned (.bool true) ∧ Below w.heap.size w w' := by
  obtain ⟨a, c, rfl⟩ := hP.shape
  obtain ⟨fo, keep, nd, oe⟩ := h
  have hok0 : ∀ W, Calls Try.prog 11 #[encI x] W fun e w' => e = .returned (.int .i64 (chE x)) ∧ Below W.heap.size W w' := fun W => check11 x W
  have hok1 : ∀ W, Calls Try.prog 12 #[encI x] W fun e w' => e = .returned (.int .i64 (chE x)) ∧ Below W.heap.size W w' := fun W => rcheck12 x W
  have hce : chE x = if okB x then 0 else 2 := rfl
  unfold encI at hok0 hok1 ⊢
  unfold encH
  simp only
  have hlive := live9
  have hn10 := num10
  have hright : Hid (∀ W, Calls Try.prog 8 #[.agg #[.int .i64 fo, .int .i64 keep, .int .i64 nd, .int .i64 oe], .int .i64 now] W fun e w' => e = .returned (.bool (rB ⟨fo, keep, nd, oe⟩ now)) ∧ Below W.heap.size W w') := fun W => right8 ⟨fo, keep, nd, oe⟩ now W
  have hgl : Hid (∀ W, Below w.heap.size w W → Acs W (.slice a l.length c) l) := fun W h => hP.grow h
  have hw0 : Hid (Below w.heap.size w ((w.alloc (.cells #[.int .i64 x.st, .int .i64 x.since, .int .i64 x.fr, .int .i64 x.quiet, .int .i64 x.seen, .int .i64 x.vk, .int .i64 x.vn] 25)).alloc (.cells #[.int .i64 fo, .int .i64 keep, .int .i64 nd, .int .i64 oe] 27)) ∧ IAt ((w.alloc (.cells #[.int .i64 x.st, .int .i64 x.since, .int .i64 x.fr, .int .i64 x.quiet, .int .i64 x.seen, .int .i64 x.vk, .int .i64 x.vn] 25)).alloc (.cells #[.int .i64 fo, .int .i64 keep, .int .i64 nd, .int .i64 oe] 27)) w.heap.size x ∧ Blk ((w.alloc (.cells #[.int .i64 x.st, .int .i64 x.since, .int .i64 x.fr, .int .i64 x.quiet, .int .i64 x.seen, .int .i64 x.vk, .int .i64 x.vn] 25)).alloc (.cells #[.int .i64 fo, .int .i64 keep, .int .i64 nd, .int .i64 oe] 27)) (w.heap.size + 1) (.cells #[.int .i64 fo, .int .i64 keep, .int .i64 nd, .int .i64 oe] 27)) := ⟨bW1 w _ _, (iNew w x).alloc _, by have := heap_new (w.alloc (.cells #[.int .i64 x.st, .int .i64 x.since, .int .i64 x.fr, .int .i64 x.quiet, .int .i64 x.seen, .int .i64 x.vk, .int .i64 x.vn] 25)) (.cells #[.int .i64 fo, .int .i64 keep, .int .i64 nd, .int .i64 oe] 27); rwa [World.size_alloc] at this⟩
  obtain ⟨n, hn⟩ : ∃ n, Hid (n = l.length) := ⟨_, rfl⟩
  rw [← hn.out] at hL hgl ⊢
  clear hP hH hX
  replace hE : Hid (∀ p ∈ l, AcIn p) := hE
  replace hok0 : Hid (∀ W, Calls Try.prog 11 #[.agg #[.int .i64 x.st, .int .i64 x.since, .int .i64 x.fr, .int .i64 x.quiet, .int .i64 x.seen, .int .i64 x.vk, .int .i64 x.vn]] W fun e w' => e = .returned (.int .i64 (chE x)) ∧ Below W.heap.size W w') := hok0
  replace hok1 : Hid (∀ W, Calls Try.prog 12 #[.agg #[.int .i64 x.st, .int .i64 x.since, .int .i64 x.fr, .int .i64 x.quiet, .int .i64 x.seen, .int .i64 x.vk, .int .i64 x.vn]] W fun e w' => e = .returned (.int .i64 (chE x)) ∧ Below W.heap.size W w') := hok1
  replace hce : Hid (chE x = if okB x then 0 else 2) := hce
  by_cases h100 : 100 < n
  · have h100b : (100 : Int) < (n : Int) := by omega
    clear hright hE hgl hN hok0 hok1
    go_enter Try.func3, Try.ntmps3
    go_wp2_with (first | (go_at_call 9; refine (hlive _).mono ?_; rintro e wz ⟨rfl, hb⟩; have hE2 : Hid (Below w.heap.size w wz) := hw0.out.1.trans (hb.mono hw0.out.1.size)))
    go_ret
    exact ⟨rfl, hE2.out⟩
  have h100b : ¬ (100 : Int) < (n : Int) := by omega
  cases hr : rB ⟨fo, keep, nd, oe⟩ now with
  | false =>
    rw [hr] at hright
    clear hr hE hgl hN hok0 hok1
    go_enter Try.func3, Try.ntmps3
    go_wp2_with (first | (go_at_call 8; refine (hright.out _).mono ?_; rintro e w1 ⟨rfl, hb⟩; have hJ1 : Hid (Below w.heap.size w w1 ∧ IAt w1 w.heap.size x ∧ Blk w1 (w.heap.size + 1) (.cells #[.int .i64 fo, .int .i64 keep, .int .i64 nd, .int .i64 oe] 27)) := ⟨hw0.out.1.trans (hb.mono hw0.out.1.size), hw0.out.2.1.grow hb, hw0.out.2.2.grow hb⟩; clear hb; obtain ⟨p0, p1, p2, p3, p4, p5, p6⟩ := hJ1.out.2.1.cells; have ch1 := hd_cell hJ1.out.2.2) | (go_at_call 9; refine (hlive _).mono ?_; rintro e wz ⟨rfl, hb⟩; have hE2 : Hid (Below w.heap.size w wz) := hJ1.out.1.trans (hb.mono hJ1.out.1.size)))
    go_ret
    exact ⟨rfl, hE2.out⟩
  | true =>
  have hr2 : (0 ≤ now ∧ now ≤ 1099511627776) ∧ (0 ≤ fo ∧ fo ≤ 1000000) ∧ 0 ≤ keep ∧ keep ≤ 1000000 := of_decide_eq_true hr
  rw [hr] at hright
  clear hr hN
  obtain ⟨⟨hn0, hn1⟩, -, -⟩ := hr2
  cases hb : okB x with
  | false =>
    have hce2 : chE x = 2 := by rw [hce.out, hb]; rfl
    rw [hce2] at hok0 hok1
    clear hce hb hE hgl
    go_enter Try.func3, Try.ntmps3
    go_wp2_with (first | (go_at_call 8; refine (hright.out _).mono ?_; rintro e w1 ⟨rfl, hb⟩; have hJ1 : Hid (Below w.heap.size w w1 ∧ IAt w1 w.heap.size x ∧ Blk w1 (w.heap.size + 1) (.cells #[.int .i64 fo, .int .i64 keep, .int .i64 nd, .int .i64 oe] 27)) := ⟨hw0.out.1.trans (hb.mono hw0.out.1.size), hw0.out.2.1.grow hb, hw0.out.2.2.grow hb⟩; clear hb; obtain ⟨p0, p1, p2, p3, p4, p5, p6⟩ := hJ1.out.2.1.cells; have ch1 := hd_cell hJ1.out.2.2))
    have k11 : ∀ p : Bel w1, Calls Try.prog 11 #[.agg #[.int .i64 x.st, .int .i64 x.since, .int .i64 x.fr, .int .i64 x.quiet, .int .i64 x.seen, .int .i64 x.vk, .int .i64 x.vn]] p.W fun e w' => e = .returned (.int .i64 2) ∧ Below p.W.heap.size p.W w' := fun p => hok0.out p.W
    have k12 : ∀ p : Bel w1, Calls Try.prog 12 #[.agg #[.int .i64 x.st, .int .i64 x.since, .int .i64 x.fr, .int .i64 x.quiet, .int .i64 x.seen, .int .i64 x.vk, .int .i64 x.vn]] p.W fun e w' => e = .returned (.int .i64 2) ∧ Below p.W.heap.size p.W w' := fun p => hok1.out p.W
    have k10 : ∀ p : Bel w1, Calls Try.prog 10 #[.int .i64 2] p.W fun e w' => e = .returned (.int .i64 2) ∧ Below p.W.heap.size p.W w' := fun p => calls_same (num10 2 p.W)
    have cx0 : ∀ p : Bel w1, p.W.cell? ⟨w.heap.size, 0, none⟩ = some (.int .i64 x.st) := fun p => ((hJ1.out.2.1.grow p.h).cells).1
    have cx1 : ∀ p : Bel w1, p.W.cell? ⟨w.heap.size, 1, none⟩ = some (.int .i64 x.since) := fun p => ((hJ1.out.2.1.grow p.h).cells).2.1
    have cx2 : ∀ p : Bel w1, p.W.cell? ⟨w.heap.size, 2, none⟩ = some (.int .i64 x.fr) := fun p => ((hJ1.out.2.1.grow p.h).cells).2.2.1
    have cx3 : ∀ p : Bel w1, p.W.cell? ⟨w.heap.size, 3, none⟩ = some (.int .i64 x.quiet) := fun p => ((hJ1.out.2.1.grow p.h).cells).2.2.2.1
    have cx4 : ∀ p : Bel w1, p.W.cell? ⟨w.heap.size, 4, none⟩ = some (.int .i64 x.seen) := fun p => ((hJ1.out.2.1.grow p.h).cells).2.2.2.2.1
    have cx5 : ∀ p : Bel w1, p.W.cell? ⟨w.heap.size, 5, none⟩ = some (.int .i64 x.vk) := fun p => ((hJ1.out.2.1.grow p.h).cells).2.2.2.2.2.1
    have cx6 : ∀ p : Bel w1, p.W.cell? ⟨w.heap.size, 6, none⟩ = some (.int .i64 x.vn) := fun p => ((hJ1.out.2.1.grow p.h).cells).2.2.2.2.2.2
    refine wp_region_bel (by kernel_rfl) (by kernel_rfl) ?_
    repeat (go_big_quiet_step (first | (go_at_call 11; exact Calls.bel (k11 _)) | (go_at_call 12; exact Calls.bel (k12 _)) | (go_at_call 10; exact Calls.bel (k10 _))))
    refine wpQuiet_nil ?_
    rintro w2 ⟨⟨wz, hq⟩, rfl⟩
    have hJ2 : Hid (Below w.heap.size w w2 ∧ IAt w2 w.heap.size x ∧ Blk w2 (w.heap.size + 1) (.cells #[.int .i64 fo, .int .i64 keep, .int .i64 nd, .int .i64 oe] 27)) := ⟨hJ1.out.1.trans ((show Below w1.heap.size w1 w2 from hq).mono hJ1.out.1.size), hJ1.out.2.1.grow hq, hJ1.out.2.2.grow hq⟩
    clear hq cx0 cx1 cx2 cx3 cx4 cx5 cx6 k11 k12 k10 p0 p1 p2 p3 p4 p5 p6
    obtain ⟨p0, p1, p2, p3, p4, p5, p6⟩ := hJ2.out.2.1.cells; have ch1 := hd_cell hJ2.out.2.2
    go_wp2_with (first | (go_at_call 12; refine (hok1.out _).mono ?_; rintro e w3 ⟨rfl, hb⟩; have hJ3 : Hid (Below w.heap.size w w3 ∧ IAt w3 w.heap.size x ∧ Blk w3 (w.heap.size + 1) (.cells #[.int .i64 fo, .int .i64 keep, .int .i64 nd, .int .i64 oe] 27)) := ⟨hJ2.out.1.trans (hb.mono hJ2.out.1.size), hJ2.out.2.1.grow hb, hJ2.out.2.2.grow hb⟩; clear hb; obtain ⟨p0, p1, p2, p3, p4, p5, p6⟩ := hJ3.out.2.1.cells; have ch1 := hd_cell hJ3.out.2.2) | (go_at_call 9; refine (hlive _).mono ?_; rintro e wz ⟨rfl, hb⟩; have hE2 : Hid (Below w.heap.size w wz) := hJ3.out.1.trans (hb.mono hJ3.out.1.size)))
    go_ret
    exact ⟨rfl, hE2.out⟩
  | true =>
  have hce2 : chE x = 0 := by rw [hce.out, hb]; rfl
  rw [hce2] at hok0 hok1
  clear hce hce2
  replace hb : Hid (okB x = true) := hb
  have hm4 : ∀ W, (Builtin.max_ #[2, 2, 2, 2] 2 #[.int .i64 x.since, .int .i64 x.seen, .int .i64 x.fr, .int .i64 x.quiet]).run Try.prog W = .ok (.int .i64 (max4 x.since x.seen x.fr x.quiet)) W := fun W => run_max4 _ _ _ _ W
  have hm5 : Hid (¬ now < max4 x.since x.seen x.fr x.quiet → x.since ≤ now ∧ x.seen ≤ now ∧ x.fr ≤ now ∧ x.quiet ≤ now) := fun h => (max4_le _ _ _ _ _).1 h
  generalize max4 x.since x.seen x.fr x.quiet = M4 at *
  by_cases hmx : now < M4
  · clear hE hgl hb
    go_enter Try.func3, Try.ntmps3
    go_wp2_with (first | (go_at_call 8; refine (hright.out _).mono ?_; rintro e w1 ⟨rfl, hb⟩; have hJ1 : Hid (Below w.heap.size w w1 ∧ IAt w1 w.heap.size x ∧ Blk w1 (w.heap.size + 1) (.cells #[.int .i64 fo, .int .i64 keep, .int .i64 nd, .int .i64 oe] 27)) := ⟨hw0.out.1.trans (hb.mono hw0.out.1.size), hw0.out.2.1.grow hb, hw0.out.2.2.grow hb⟩; clear hb; obtain ⟨p0, p1, p2, p3, p4, p5, p6⟩ := hJ1.out.2.1.cells; have ch1 := hd_cell hJ1.out.2.2))
    have k11 : ∀ p : Bel w1, Calls Try.prog 11 #[.agg #[.int .i64 x.st, .int .i64 x.since, .int .i64 x.fr, .int .i64 x.quiet, .int .i64 x.seen, .int .i64 x.vk, .int .i64 x.vn]] p.W fun e w' => e = .returned (.int .i64 0) ∧ Below p.W.heap.size p.W w' := fun p => hok0.out p.W
    have k12 : ∀ p : Bel w1, Calls Try.prog 12 #[.agg #[.int .i64 x.st, .int .i64 x.since, .int .i64 x.fr, .int .i64 x.quiet, .int .i64 x.seen, .int .i64 x.vk, .int .i64 x.vn]] p.W fun e w' => e = .returned (.int .i64 0) ∧ Below p.W.heap.size p.W w' := fun p => hok1.out p.W
    have k10 : ∀ p : Bel w1, Calls Try.prog 10 #[.int .i64 0] p.W fun e w' => e = .returned (.int .i64 0) ∧ Below p.W.heap.size p.W w' := fun p => calls_same (num10 0 p.W)
    have cx0 : ∀ p : Bel w1, p.W.cell? ⟨w.heap.size, 0, none⟩ = some (.int .i64 x.st) := fun p => ((hJ1.out.2.1.grow p.h).cells).1
    have cx1 : ∀ p : Bel w1, p.W.cell? ⟨w.heap.size, 1, none⟩ = some (.int .i64 x.since) := fun p => ((hJ1.out.2.1.grow p.h).cells).2.1
    have cx2 : ∀ p : Bel w1, p.W.cell? ⟨w.heap.size, 2, none⟩ = some (.int .i64 x.fr) := fun p => ((hJ1.out.2.1.grow p.h).cells).2.2.1
    have cx3 : ∀ p : Bel w1, p.W.cell? ⟨w.heap.size, 3, none⟩ = some (.int .i64 x.quiet) := fun p => ((hJ1.out.2.1.grow p.h).cells).2.2.2.1
    have cx4 : ∀ p : Bel w1, p.W.cell? ⟨w.heap.size, 4, none⟩ = some (.int .i64 x.seen) := fun p => ((hJ1.out.2.1.grow p.h).cells).2.2.2.2.1
    have cx5 : ∀ p : Bel w1, p.W.cell? ⟨w.heap.size, 5, none⟩ = some (.int .i64 x.vk) := fun p => ((hJ1.out.2.1.grow p.h).cells).2.2.2.2.2.1
    have cx6 : ∀ p : Bel w1, p.W.cell? ⟨w.heap.size, 6, none⟩ = some (.int .i64 x.vn) := fun p => ((hJ1.out.2.1.grow p.h).cells).2.2.2.2.2.2
    refine wp_region_bel (by kernel_rfl) (by kernel_rfl) ?_
    repeat (go_big_quiet_step (first | (go_at_call 11; exact Calls.bel (k11 _)) | (go_at_call 12; exact Calls.bel (k12 _)) | (go_at_call 10; exact Calls.bel (k10 _))))
    refine wpQuiet_nil ?_
    rintro w2 ⟨⟨wz, hq⟩, rfl⟩
    have hJ2 : Hid (Below w.heap.size w w2 ∧ IAt w2 w.heap.size x ∧ Blk w2 (w.heap.size + 1) (.cells #[.int .i64 fo, .int .i64 keep, .int .i64 nd, .int .i64 oe] 27)) := ⟨hJ1.out.1.trans ((show Below w1.heap.size w1 w2 from hq).mono hJ1.out.1.size), hJ1.out.2.1.grow hq, hJ1.out.2.2.grow hq⟩
    clear hq cx0 cx1 cx2 cx3 cx4 cx5 cx6 k11 k12 k10 p0 p1 p2 p3 p4 p5 p6
    obtain ⟨p0, p1, p2, p3, p4, p5, p6⟩ := hJ2.out.2.1.cells; have ch1 := hd_cell hJ2.out.2.2
    go_wp2_with (first | (go_at_call 12; refine (hok1.out _).mono ?_; rintro e w3 ⟨rfl, hb⟩; have hJ3 : Hid (Below w.heap.size w w3 ∧ IAt w3 w.heap.size x ∧ Blk w3 (w.heap.size + 1) (.cells #[.int .i64 fo, .int .i64 keep, .int .i64 nd, .int .i64 oe] 27)) := ⟨hJ2.out.1.trans (hb.mono hJ2.out.1.size), hJ2.out.2.1.grow hb, hJ2.out.2.2.grow hb⟩; clear hb; obtain ⟨p0, p1, p2, p3, p4, p5, p6⟩ := hJ3.out.2.1.cells; have ch1 := hd_cell hJ3.out.2.2) | (go_at_call 9; refine (hlive _).mono ?_; rintro e wz ⟨rfl, hb⟩; have hE2 : Hid (Below w.heap.size w wz) := hJ3.out.1.trans (hb.mono hJ3.out.1.size)))
    go_ret
    exact ⟨rfl, hE2.out⟩
  obtain ⟨m1, m2, m3, m4⟩ := hm5.out hmx
  have hI : Hid (Inv x now) := Inv.of_ok hb.out m1 m2 m3 m4
  clear hm5 m1 m2 m3 m4
  clear hb
  have hnew : Hid (∀ W, Calls Try.prog 13 #[.int .i64 now] W fun e w' => e = .returned (.agg #[.int .i64 1, .int .i64 now, .int .i64 (-1), .int .i64 (-1), .int .i64 now, .int .i64 2, .int .i64 0]) ∧ Below W.heap.size W w') := fun W => new13 now W
  have hrnew : Hid (∀ W, Calls Try.prog 14 #[.int .i64 now] W fun e w' => e = .returned (.agg #[.int .i64 1, .int .i64 now, .int .i64 (-1), .int .i64 (-1), .int .i64 now, .int .i64 2, .int .i64 0]) ∧ Below W.heap.size W w') := fun W => rnew14 now W
  have hne : ∀ W, (binOp .neq 25 (.agg #[.int .i64 1, .int .i64 now, .int .i64 (-1), .int .i64 (-1), .int .i64 now, .int .i64 2, .int .i64 0]) (.agg #[.int .i64 1, .int .i64 now, .int .i64 (-1), .int .i64 (-1), .int .i64 now, .int .i64 2, .int .i64 0])).run Try.prog W = .ok (.bool false) W := fun W => neqI (newI now) W
  go_enter Try.func3, Try.ntmps3
  go_wp2_with (first | (go_at_call 8; refine (hright.out _).mono ?_; rintro e w1 ⟨rfl, hb⟩; have hJ1 : Hid (Below w.heap.size w w1 ∧ IAt w1 w.heap.size x ∧ Blk w1 (w.heap.size + 1) (.cells #[.int .i64 fo, .int .i64 keep, .int .i64 nd, .int .i64 oe] 27)) := ⟨hw0.out.1.trans (hb.mono hw0.out.1.size), hw0.out.2.1.grow hb, hw0.out.2.2.grow hb⟩; clear hb; obtain ⟨p0, p1, p2, p3, p4, p5, p6⟩ := hJ1.out.2.1.cells; have ch1 := hd_cell hJ1.out.2.2))
  have k11 : ∀ p : Bel w1, Calls Try.prog 11 #[.agg #[.int .i64 x.st, .int .i64 x.since, .int .i64 x.fr, .int .i64 x.quiet, .int .i64 x.seen, .int .i64 x.vk, .int .i64 x.vn]] p.W fun e w' => e = .returned (.int .i64 0) ∧ Below p.W.heap.size p.W w' := fun p => hok0.out p.W
  have k12 : ∀ p : Bel w1, Calls Try.prog 12 #[.agg #[.int .i64 x.st, .int .i64 x.since, .int .i64 x.fr, .int .i64 x.quiet, .int .i64 x.seen, .int .i64 x.vk, .int .i64 x.vn]] p.W fun e w' => e = .returned (.int .i64 0) ∧ Below p.W.heap.size p.W w' := fun p => hok1.out p.W
  have k10 : ∀ p : Bel w1, Calls Try.prog 10 #[.int .i64 0] p.W fun e w' => e = .returned (.int .i64 0) ∧ Below p.W.heap.size p.W w' := fun p => calls_same (num10 0 p.W)
  have cx0 : ∀ p : Bel w1, p.W.cell? ⟨w.heap.size, 0, none⟩ = some (.int .i64 x.st) := fun p => ((hJ1.out.2.1.grow p.h).cells).1
  have cx1 : ∀ p : Bel w1, p.W.cell? ⟨w.heap.size, 1, none⟩ = some (.int .i64 x.since) := fun p => ((hJ1.out.2.1.grow p.h).cells).2.1
  have cx2 : ∀ p : Bel w1, p.W.cell? ⟨w.heap.size, 2, none⟩ = some (.int .i64 x.fr) := fun p => ((hJ1.out.2.1.grow p.h).cells).2.2.1
  have cx3 : ∀ p : Bel w1, p.W.cell? ⟨w.heap.size, 3, none⟩ = some (.int .i64 x.quiet) := fun p => ((hJ1.out.2.1.grow p.h).cells).2.2.2.1
  have cx4 : ∀ p : Bel w1, p.W.cell? ⟨w.heap.size, 4, none⟩ = some (.int .i64 x.seen) := fun p => ((hJ1.out.2.1.grow p.h).cells).2.2.2.2.1
  have cx5 : ∀ p : Bel w1, p.W.cell? ⟨w.heap.size, 5, none⟩ = some (.int .i64 x.vk) := fun p => ((hJ1.out.2.1.grow p.h).cells).2.2.2.2.2.1
  have cx6 : ∀ p : Bel w1, p.W.cell? ⟨w.heap.size, 6, none⟩ = some (.int .i64 x.vn) := fun p => ((hJ1.out.2.1.grow p.h).cells).2.2.2.2.2.2
  refine wp_region_bel (by kernel_rfl) (by kernel_rfl) ?_
  repeat (go_big_quiet_step (first | (go_at_call 11; exact Calls.bel (k11 _)) | (go_at_call 12; exact Calls.bel (k12 _)) | (go_at_call 10; exact Calls.bel (k10 _))))
  refine wpQuiet_nil ?_
  rintro w2 ⟨⟨wz, hq⟩, rfl⟩
  have hJ2 : Hid (Below w.heap.size w w2 ∧ IAt w2 w.heap.size x ∧ Blk w2 (w.heap.size + 1) (.cells #[.int .i64 fo, .int .i64 keep, .int .i64 nd, .int .i64 oe] 27)) := ⟨hJ1.out.1.trans ((show Below w1.heap.size w1 w2 from hq).mono hJ1.out.1.size), hJ1.out.2.1.grow hq, hJ1.out.2.2.grow hq⟩
  clear hq cx0 cx1 cx2 cx3 cx4 cx5 cx6 k11 k12 k10 p0 p1 p2 p3 p4 p5 p6
  obtain ⟨p0, p1, p2, p3, p4, p5, p6⟩ := hJ2.out.2.1.cells; have ch1 := hd_cell hJ2.out.2.2
  go_wp2_with (first | (go_at_call 12; refine (hok1.out _).mono ?_; rintro e w3 ⟨rfl, hb⟩; have hJ3 : Hid (Below w.heap.size w w3 ∧ IAt w3 w.heap.size x ∧ Blk w3 (w.heap.size + 1) (.cells #[.int .i64 fo, .int .i64 keep, .int .i64 nd, .int .i64 oe] 27)) := ⟨hJ2.out.1.trans (hb.mono hJ2.out.1.size), hJ2.out.2.1.grow hb, hJ2.out.2.2.grow hb⟩; clear hb; obtain ⟨p0, p1, p2, p3, p4, p5, p6⟩ := hJ3.out.2.1.cells; have ch1 := hd_cell hJ3.out.2.2) | (go_at_call 13; refine (hnew.out _).mono ?_; rintro e w4 ⟨rfl, hb⟩; have hJ4 : Hid (Below w.heap.size w w4 ∧ IAt w4 w.heap.size x ∧ Blk w4 (w.heap.size + 1) (.cells #[.int .i64 fo, .int .i64 keep, .int .i64 nd, .int .i64 oe] 27)) := ⟨hJ3.out.1.trans (hb.mono hJ3.out.1.size), hJ3.out.2.1.grow hb, hJ3.out.2.2.grow hb⟩; clear hb; ) | (go_at_call 14; refine (hrnew.out _).mono ?_; rintro e w5 ⟨rfl, hb⟩; have hJ5 : Hid (Below w.heap.size w w5 ∧ IAt w5 w.heap.size x ∧ Blk w5 (w.heap.size + 1) (.cells #[.int .i64 fo, .int .i64 keep, .int .i64 nd, .int .i64 oe] 27)) := ⟨hJ4.out.1.trans (hb.mono hJ4.out.1.size), hJ4.out.2.1.grow hb, hJ4.out.2.2.grow hb⟩; clear hb; obtain ⟨p0, p1, p2, p3, p4, p5, p6⟩ := hJ5.out.2.1.cells))
  have hT0 : Hid (TwJ w (w5.alloc (.cells #[.int .i64 x.st, .int .i64 x.since, .int .i64 x.fr, .int .i64 x.quiet, .int .i64 x.seen, .int .i64 x.vk, .int .i64 x.vn] 25)) w.heap.size (w.heap.size + 1) w5.heap.size fo keep nd oe x x) := ⟨hJ5.out.2.1.alloc _, iNew w5 x, hJ5.out.2.2.grow (bW0 _ _), hJ5.out.1.alloc hJ5.out.1.size _, Nat.le_refl _, hJ5.out.1.size, Nat.ne_of_lt (Nat.lt_succ_self _), Nat.ne_of_gt hJ5.out.2.2.lt, Nat.ne_of_lt hJ5.out.2.1.lt⟩
  generalize w5.heap.size = g at *
  generalize w5.alloc (.cells #[.int .i64 x.st, .int .i64 x.since, .int .i64 x.fr, .int .i64 x.quiet, .int .i64 x.seen, .int .i64 x.vk, .int .i64 x.vn] 25) = wl at *
  clear hJ1 hJ2 hJ3 hJ4 hJ5 hw0 p0 p1 p2 p3 p4 p5 p6 ch1 hnew hrnew hne hok0 hok1 hright
  go_loopw [2, 10] (fun nwv i wr => ∃ k : Nat, ∃ nw : Int, ∃ X : Inst, k ≤ n ∧ nwv = .int .i64 nw ∧ i = .int .i64 k ∧ (0 ≤ nw ∧ nw ≤ 1099511627776) ∧ Hid (Inv X nw) ∧ Hid (TwJ w wr w.heap.size (w.heap.size + 1) g fo keep nd oe X X)) (fun _ i _ => n - (intOf i).toNat)
  case atStart => exact ⟨0, now, x, Nat.zero_le _, rfl, rfl, ⟨hn0, hn1⟩, hI, hT0⟩
  case round =>
    obtain ⟨k, nw, X, hk, rfl, rfl, ⟨hw1, hw2⟩, hI2, hJ⟩ := hrel
    clear hT0 hI
    have hB : Hid (Below w.heap.size w wr) := hJ.out.2.2.2.1
    by_cases hlt : k < n
    · have hki : (k : Int) < (n : Int) := by omega
      have hE3 : Hid (AcIn (l.getD k ac0)) := hE.out _ (by rw [List.getD_eq_getElem?_getD, List.getElem?_eq_getElem (by rw [← hn.out]; exact hlt)]; simp)
      obtain ⟨b, oo, rfl, x0, x1, x2, x3⟩ := ac_at (hgl.out wr hB.out) k (by rw [← hn.out]; exact hlt)
      have hac : Hid (∀ W, Below wr.heap.size wr W → W.cell? ⟨b, oo + k * 4, none⟩ = some (.int .i64 (l.getD k ac0).later) ∧ W.cell? ⟨b, oo + k * 4 + 1, none⟩ = some (.int .i64 (l.getD k ac0).res) ∧ W.cell? ⟨b, oo + k * 4 + 2, none⟩ = some (.int .i64 (l.getD k ac0).vk) ∧ W.cell? ⟨b, oo + k * 4 + 3, none⟩ = some (.int .i64 (l.getD k ac0).vn)) := fun W h => ⟨(h.cell (p := ⟨b, oo + k * 4, none⟩) (World.block_lt_of_cell? wr _ x0)).trans x0, (h.cell (p := ⟨b, oo + k * 4 + 1, none⟩) (World.block_lt_of_cell? wr _ x1)).trans x1, (h.cell (p := ⟨b, oo + k * 4 + 2, none⟩) (World.block_lt_of_cell? wr _ x2)).trans x2, (h.cell (p := ⟨b, oo + k * 4 + 3, none⟩) (World.block_lt_of_cell? wr _ x3)).trans x3⟩
      have hbb : Hid (b < w.heap.size) := by
        have hq := ac_at (hgl.out w (Below.refl _ _)) k (by rw [← hn.out]; exact hlt)
        obtain ⟨b', o', e, y0, -⟩ := hq
        have := World.block_lt_of_cell? w _ y0
        cases e
        exact this
      generalize l.getD k ac0 = ac at *
      obtain ⟨d, r, vk, vn⟩ := ac
      simp only at x0 x1 x2 x3 hac
      by_cases hd0 : d < 0
      · go_wp2_with (first | (go_at_call 9; refine (hlive _).mono ?_; rintro e w2 ⟨rfl, hb2⟩; have hE2 : Hid (Below w.heap.size w w2) := hB.out.trans (hb2.mono hB.out.size)))
        go_ret
        exact ⟨rfl, hE2.out⟩
      by_cases hd1 : 1000000 < d
      · go_wp2_with (first | (go_at_call 9; refine (hlive _).mono ?_; rintro e w2 ⟨rfl, hb2⟩; have hE2 : Hid (Below w.heap.size w w2) := hB.out.trans (hb2.mono hB.out.size)))
        go_ret
        exact ⟨rfl, hE2.out⟩
      have hdb : -9223372036854775808 ≤ 1099511627776 - d ∧ 1099511627776 - d ≤ 9223372036854775807 := by omega
      by_cases hd2 : 1099511627776 - d < nw
      · go_wp2_with (first | (go_at_call 9; refine (hlive _).mono ?_; rintro e w2 ⟨rfl, hb2⟩; have hE2 : Hid (Below w.heap.size w w2) := hB.out.trans (hb2.mono hB.out.size)))
        go_ret
        exact ⟨rfl, hE2.out⟩
      have hnb : 0 ≤ nw + d ∧ nw + d ≤ 1099511627776 := by omega
      have hI3 : Hid (Inv (stepI X ⟨fo, keep, nd, oe⟩ r vk vn (nw + d)) (nw + d)) := hI2.out.step (by omega) _ _ _ _
      have hst : Hid (∀ W, Calls Try.prog 17 #[.agg #[.int .i64 X.st, .int .i64 X.since, .int .i64 X.fr, .int .i64 X.quiet, .int .i64 X.seen, .int .i64 X.vk, .int .i64 X.vn], .agg #[.int .i64 fo, .int .i64 keep, .int .i64 nd, .int .i64 oe], .int .i64 r, .agg #[.int .i64 vk, .int .i64 vn], .int .i64 (nw + d)] W fun e w' => e = .returned (encI (stepI X ⟨fo, keep, nd, oe⟩ r vk vn (nw + d))) ∧ Below W.heap.size W w') := fun W => step17 X ⟨fo, keep, nd, oe⟩ r vk vn (nw + d) W (hI2.out.hf (by omega) hnb.2) (hI2.out.hq (by omega) hnb.2)
      have hrs : Hid (∀ W, Calls Try.prog 18 #[.agg #[.int .i64 X.st, .int .i64 X.since, .int .i64 X.fr, .int .i64 X.quiet, .int .i64 X.seen, .int .i64 X.vk, .int .i64 X.vn], .agg #[.int .i64 fo, .int .i64 keep, .int .i64 nd, .int .i64 oe], .int .i64 r, .agg #[.int .i64 vk, .int .i64 vn], .int .i64 (nw + d)] W fun e w' => e = .returned (encI (stepI X ⟨fo, keep, nd, oe⟩ r vk vn (nw + d))) ∧ Below W.heap.size W w') := fun W => rstep18 X ⟨fo, keep, nd, oe⟩ r vk vn (nw + d) W (hI2.out.hf (by omega) hnb.2) (hI2.out.hq (by omega) hnb.2) hI2.out.qk
      have hm1 : Hid (∀ W, Calls Try.prog 15 #[.agg #[.int .i64 fo, .int .i64 keep, .int .i64 nd, .int .i64 oe], .int .i64 r] W fun e w' => e = .returned (.int .i64 (meansI ⟨fo, keep, nd, oe⟩ r)) ∧ Below W.heap.size W w') := fun W => means15 ⟨fo, keep, nd, oe⟩ r W
      have hm2 : Hid (∀ W, Calls Try.prog 16 #[.agg #[.int .i64 fo, .int .i64 keep, .int .i64 nd, .int .i64 oe], .int .i64 r] W fun e w' => e = .returned (.int .i64 (meansI ⟨fo, keep, nd, oe⟩ r)) ∧ Below W.heap.size W w') := fun W => rmeans16 ⟨fo, keep, nd, oe⟩ r W
      generalize stepI X ⟨fo, keep, nd, oe⟩ r vk vn (nw + d) = y at *
      generalize meansI ⟨fo, keep, nd, oe⟩ r = m at *
      replace hst : Hid (∀ W, Calls Try.prog 17 #[.agg #[.int .i64 X.st, .int .i64 X.since, .int .i64 X.fr, .int .i64 X.quiet, .int .i64 X.seen, .int .i64 X.vk, .int .i64 X.vn], .agg #[.int .i64 fo, .int .i64 keep, .int .i64 nd, .int .i64 oe], .int .i64 r, .agg #[.int .i64 vk, .int .i64 vn], .int .i64 (nw + d)] W fun e w' => e = .returned (.agg #[.int .i64 y.st, .int .i64 y.since, .int .i64 y.fr, .int .i64 y.quiet, .int .i64 y.seen, .int .i64 y.vk, .int .i64 y.vn]) ∧ Below W.heap.size W w') := hst
      replace hrs : Hid (∀ W, Calls Try.prog 18 #[.agg #[.int .i64 X.st, .int .i64 X.since, .int .i64 X.fr, .int .i64 X.quiet, .int .i64 X.seen, .int .i64 X.vk, .int .i64 X.vn], .agg #[.int .i64 fo, .int .i64 keep, .int .i64 nd, .int .i64 oe], .int .i64 r, .agg #[.int .i64 vk, .int .i64 vn], .int .i64 (nw + d)] W fun e w' => e = .returned (.agg #[.int .i64 y.st, .int .i64 y.since, .int .i64 y.fr, .int .i64 y.quiet, .int .i64 y.seen, .int .i64 y.vk, .int .i64 y.vn]) ∧ Below W.heap.size W w') := hrs
      clear hI2 hE3
      go_wp2
      clear x0 x1 x2 x3
      have hbk : Hid (∀ W, Below w.heap.size w W → W.cell? ⟨b, oo + k * 4, none⟩ = some (.int .i64 d) ∧ W.cell? ⟨b, oo + k * 4 + 1, none⟩ = some (.int .i64 r) ∧ W.cell? ⟨b, oo + k * 4 + 2, none⟩ = some (.int .i64 vk) ∧ W.cell? ⟨b, oo + k * 4 + 3, none⟩ = some (.int .i64 vn)) := fun W h => by
        have e : ∀ o, W.cell? ⟨b, o, none⟩ = wr.cell? ⟨b, o, none⟩ := fun o => (h.cell (p := ⟨b, o, none⟩) hbb.out).trans (hB.out.cell (p := ⟨b, o, none⟩) hbb.out).symm
        have := hac.out wr (Below.refl _ _)
        exact ⟨(e _).trans this.1, (e _).trans this.2.1, (e _).trans this.2.2.1, (e _).trans this.2.2.2⟩
      clear hac
      have ch0 : ∀ p : Bel wr, p.W.cell? ⟨w.heap.size + 1, 0, none⟩ = some (.int .i64 fo) := fun p => (hd_cell (hJ.out.grow p.h).2.2.1).1
      have ch1 : ∀ p : Bel wr, p.W.cell? ⟨w.heap.size + 1, 1, none⟩ = some (.int .i64 keep) := fun p => (hd_cell (hJ.out.grow p.h).2.2.1).2.1
      have ch2 : ∀ p : Bel wr, p.W.cell? ⟨w.heap.size + 1, 2, none⟩ = some (.int .i64 nd) := fun p => (hd_cell (hJ.out.grow p.h).2.2.1).2.2.1
      have ch3 : ∀ p : Bel wr, p.W.cell? ⟨w.heap.size + 1, 3, none⟩ = some (.int .i64 oe) := fun p => (hd_cell (hJ.out.grow p.h).2.2.1).2.2.2
      have ca0 : ∀ p : Bel wr, p.W.cell? ⟨b, oo + k * 4, none⟩ = some (.int .i64 d) := fun p => (hbk.out p.W (hJ.out.grow p.h).2.2.2.1).1
      have ca1 : ∀ p : Bel wr, p.W.cell? ⟨b, oo + k * 4 + 1, none⟩ = some (.int .i64 r) := fun p => (hbk.out p.W (hJ.out.grow p.h).2.2.2.1).2.1
      have ca2 : ∀ p : Bel wr, p.W.cell? ⟨b, oo + k * 4 + 2, none⟩ = some (.int .i64 vk) := fun p => (hbk.out p.W (hJ.out.grow p.h).2.2.2.1).2.2.1
      have ca3 : ∀ p : Bel wr, p.W.cell? ⟨b, oo + k * 4 + 3, none⟩ = some (.int .i64 vn) := fun p => (hbk.out p.W (hJ.out.grow p.h).2.2.2.1).2.2.2
      have k15 : ∀ p : Bel wr, Calls Try.prog 15 #[.agg #[.int .i64 fo, .int .i64 keep, .int .i64 nd, .int .i64 oe], .int .i64 r] p.W fun e w' => e = .returned (.int .i64 m) ∧ Below p.W.heap.size p.W w' := fun p => hm1.out p.W
      have k16 : ∀ p : Bel wr, Calls Try.prog 16 #[.agg #[.int .i64 fo, .int .i64 keep, .int .i64 nd, .int .i64 oe], .int .i64 r] p.W fun e w' => e = .returned (.int .i64 m) ∧ Below p.W.heap.size p.W w' := fun p => hm2.out p.W
      have en : (m != m) = false := by simp
      refine wp_region_bel (by kernel_rfl) (by kernel_rfl) ?_
      repeat (go_big_quiet_step (first | (go_at_call 15; exact Calls.bel (k15 _)) | (go_at_call 16; exact Calls.bel (k16 _))))
      refine wpQuiet_nil ?_
      rintro wa ⟨⟨wz, hq⟩, rfl⟩
      have hJa : Hid (TwJ w wa w.heap.size (w.heap.size + 1) g fo keep nd oe X X) := hJ.out.grow hq
      clear hq ch0 ch1 ch2 ch3 ca0 ca1 ca2 ca3 k15 k16 hm1 hm2
      go_wp2
      clear en
      have ch0 : ∀ p : Bel wa, p.W.cell? ⟨w.heap.size + 1, 0, none⟩ = some (.int .i64 fo) := fun p => (hd_cell (hJa.out.grow p.h).2.2.1).1
      have ch1 : ∀ p : Bel wa, p.W.cell? ⟨w.heap.size + 1, 1, none⟩ = some (.int .i64 keep) := fun p => (hd_cell (hJa.out.grow p.h).2.2.1).2.1
      have ch2 : ∀ p : Bel wa, p.W.cell? ⟨w.heap.size + 1, 2, none⟩ = some (.int .i64 nd) := fun p => (hd_cell (hJa.out.grow p.h).2.2.1).2.2.1
      have ch3 : ∀ p : Bel wa, p.W.cell? ⟨w.heap.size + 1, 3, none⟩ = some (.int .i64 oe) := fun p => (hd_cell (hJa.out.grow p.h).2.2.1).2.2.2
      have ca0 : ∀ p : Bel wa, p.W.cell? ⟨b, oo + k * 4, none⟩ = some (.int .i64 d) := fun p => (hbk.out p.W (hJa.out.grow p.h).2.2.2.1).1
      have ca1 : ∀ p : Bel wa, p.W.cell? ⟨b, oo + k * 4 + 1, none⟩ = some (.int .i64 r) := fun p => (hbk.out p.W (hJa.out.grow p.h).2.2.2.1).2.1
      have ca2 : ∀ p : Bel wa, p.W.cell? ⟨b, oo + k * 4 + 2, none⟩ = some (.int .i64 vk) := fun p => (hbk.out p.W (hJa.out.grow p.h).2.2.2.1).2.2.1
      have ca3 : ∀ p : Bel wa, p.W.cell? ⟨b, oo + k * 4 + 3, none⟩ = some (.int .i64 vn) := fun p => (hbk.out p.W (hJa.out.grow p.h).2.2.2.1).2.2.2
      have cx0 : ∀ p : Bel wa, p.W.cell? ⟨w.heap.size, 0, none⟩ = some (.int .i64 X.st) := fun p => (((hJa.out.grow p.h).1).cells).1
      have cx1 : ∀ p : Bel wa, p.W.cell? ⟨w.heap.size, 1, none⟩ = some (.int .i64 X.since) := fun p => (((hJa.out.grow p.h).1).cells).2.1
      have cx2 : ∀ p : Bel wa, p.W.cell? ⟨w.heap.size, 2, none⟩ = some (.int .i64 X.fr) := fun p => (((hJa.out.grow p.h).1).cells).2.2.1
      have cx3 : ∀ p : Bel wa, p.W.cell? ⟨w.heap.size, 3, none⟩ = some (.int .i64 X.quiet) := fun p => (((hJa.out.grow p.h).1).cells).2.2.2.1
      have cx4 : ∀ p : Bel wa, p.W.cell? ⟨w.heap.size, 4, none⟩ = some (.int .i64 X.seen) := fun p => (((hJa.out.grow p.h).1).cells).2.2.2.2.1
      have cx5 : ∀ p : Bel wa, p.W.cell? ⟨w.heap.size, 5, none⟩ = some (.int .i64 X.vk) := fun p => (((hJa.out.grow p.h).1).cells).2.2.2.2.2.1
      have cx6 : ∀ p : Bel wa, p.W.cell? ⟨w.heap.size, 6, none⟩ = some (.int .i64 X.vn) := fun p => (((hJa.out.grow p.h).1).cells).2.2.2.2.2.2
      have k17 : ∀ p : Bel wa, Calls Try.prog 17 #[.agg #[.int .i64 X.st, .int .i64 X.since, .int .i64 X.fr, .int .i64 X.quiet, .int .i64 X.seen, .int .i64 X.vk, .int .i64 X.vn], .agg #[.int .i64 fo, .int .i64 keep, .int .i64 nd, .int .i64 oe], .int .i64 r, .agg #[.int .i64 vk, .int .i64 vn], .int .i64 (nw + d)] p.W fun e w' => e = .returned (.agg #[.int .i64 y.st, .int .i64 y.since, .int .i64 y.fr, .int .i64 y.quiet, .int .i64 y.seen, .int .i64 y.vk, .int .i64 y.vn]) ∧ Below p.W.heap.size p.W w' := fun p => hst.out p.W
      refine Yquiettail.region_tail (C := fun W => ∃ p : Bel wa, W = p.W) 14 (by kernel_rfl) (by kernel_rfl) ⟨⟨wa.drew, (Below.refl _ _).drew⟩, rfl⟩ ?_
      dsimp only [List.take, List.drop]
      repeat (go_big_quiet_step (first | (go_at_call 17; exact Calls.bel (k17 _))))
      refine wpQuiet_nil ?_
      rintro wb ⟨⟨wz, hq⟩, rfl⟩
      have hJb : Hid (TwJ w wb w.heap.size (w.heap.size + 1) g fo keep nd oe X X) := hJa.out.grow hq
      have hJc : Hid (TwJ w ((((((((wb.setCell ⟨w.heap.size, 0, none⟩ (.int .i64 y.st)).setCell ⟨w.heap.size, 1, none⟩ (.int .i64 y.since)).setCell ⟨w.heap.size, 2, none⟩ (.int .i64 y.fr)).setCell ⟨w.heap.size, 3, none⟩ (.int .i64 y.quiet)).setCell ⟨w.heap.size, 4, none⟩ (.int .i64 y.seen)).setCell ⟨w.heap.size, 5, none⟩ (.int .i64 y.vk)).setCell ⟨w.heap.size, 6, none⟩ (.int .i64 y.vn))) w.heap.size (w.heap.size + 1) g fo keep nd oe y X) := TwJ.set0 (W := wb) (Y := y) hJb.out
      clear hq ch0 ch1 ch2 ch3 ca0 ca1 ca2 ca3 k17 cx0 cx1 cx2 cx3 cx4 cx5 cx6 hst
      obtain ⟨f0, f1, f2, f3, f4, f5, f6⟩ := hJb.out.1.frozen
      obtain ⟨p0, p1, p2, p3, p4, p5, p6⟩ := hJb.out.1.cells
      go_wp2
      clear f0 f1 f2 f3 f4 f5 f6 p0 p1 p2 p3 p4 p5 p6 hJb hJa
      generalize (((((((wb.setCell ⟨w.heap.size, 0, none⟩ (.int .i64 y.st)).setCell ⟨w.heap.size, 1, none⟩ (.int .i64 y.since)).setCell ⟨w.heap.size, 2, none⟩ (.int .i64 y.fr)).setCell ⟨w.heap.size, 3, none⟩ (.int .i64 y.quiet)).setCell ⟨w.heap.size, 4, none⟩ (.int .i64 y.seen)).setCell ⟨w.heap.size, 5, none⟩ (.int .i64 y.vk)).setCell ⟨w.heap.size, 6, none⟩ (.int .i64 y.vn)) = wc at *
      have ch0 : ∀ p : Bel wc, p.W.cell? ⟨w.heap.size + 1, 0, none⟩ = some (.int .i64 fo) := fun p => (hd_cell (hJc.out.grow p.h).2.2.1).1
      have ch1 : ∀ p : Bel wc, p.W.cell? ⟨w.heap.size + 1, 1, none⟩ = some (.int .i64 keep) := fun p => (hd_cell (hJc.out.grow p.h).2.2.1).2.1
      have ch2 : ∀ p : Bel wc, p.W.cell? ⟨w.heap.size + 1, 2, none⟩ = some (.int .i64 nd) := fun p => (hd_cell (hJc.out.grow p.h).2.2.1).2.2.1
      have ch3 : ∀ p : Bel wc, p.W.cell? ⟨w.heap.size + 1, 3, none⟩ = some (.int .i64 oe) := fun p => (hd_cell (hJc.out.grow p.h).2.2.1).2.2.2
      have ca0 : ∀ p : Bel wc, p.W.cell? ⟨b, oo + k * 4, none⟩ = some (.int .i64 d) := fun p => (hbk.out p.W (hJc.out.grow p.h).2.2.2.1).1
      have ca1 : ∀ p : Bel wc, p.W.cell? ⟨b, oo + k * 4 + 1, none⟩ = some (.int .i64 r) := fun p => (hbk.out p.W (hJc.out.grow p.h).2.2.2.1).2.1
      have ca2 : ∀ p : Bel wc, p.W.cell? ⟨b, oo + k * 4 + 2, none⟩ = some (.int .i64 vk) := fun p => (hbk.out p.W (hJc.out.grow p.h).2.2.2.1).2.2.1
      have ca3 : ∀ p : Bel wc, p.W.cell? ⟨b, oo + k * 4 + 3, none⟩ = some (.int .i64 vn) := fun p => (hbk.out p.W (hJc.out.grow p.h).2.2.2.1).2.2.2
      have cx0 : ∀ p : Bel wc, p.W.cell? ⟨g, 0, none⟩ = some (.int .i64 X.st) := fun p => (((hJc.out.grow p.h).2.1).cells).1
      have cx1 : ∀ p : Bel wc, p.W.cell? ⟨g, 1, none⟩ = some (.int .i64 X.since) := fun p => (((hJc.out.grow p.h).2.1).cells).2.1
      have cx2 : ∀ p : Bel wc, p.W.cell? ⟨g, 2, none⟩ = some (.int .i64 X.fr) := fun p => (((hJc.out.grow p.h).2.1).cells).2.2.1
      have cx3 : ∀ p : Bel wc, p.W.cell? ⟨g, 3, none⟩ = some (.int .i64 X.quiet) := fun p => (((hJc.out.grow p.h).2.1).cells).2.2.2.1
      have cx4 : ∀ p : Bel wc, p.W.cell? ⟨g, 4, none⟩ = some (.int .i64 X.seen) := fun p => (((hJc.out.grow p.h).2.1).cells).2.2.2.2.1
      have cx5 : ∀ p : Bel wc, p.W.cell? ⟨g, 5, none⟩ = some (.int .i64 X.vk) := fun p => (((hJc.out.grow p.h).2.1).cells).2.2.2.2.2.1
      have cx6 : ∀ p : Bel wc, p.W.cell? ⟨g, 6, none⟩ = some (.int .i64 X.vn) := fun p => (((hJc.out.grow p.h).2.1).cells).2.2.2.2.2.2
      have k18 : ∀ p : Bel wc, Calls Try.prog 18 #[.agg #[.int .i64 X.st, .int .i64 X.since, .int .i64 X.fr, .int .i64 X.quiet, .int .i64 X.seen, .int .i64 X.vk, .int .i64 X.vn], .agg #[.int .i64 fo, .int .i64 keep, .int .i64 nd, .int .i64 oe], .int .i64 r, .agg #[.int .i64 vk, .int .i64 vn], .int .i64 (nw + d)] p.W fun e w' => e = .returned (.agg #[.int .i64 y.st, .int .i64 y.since, .int .i64 y.fr, .int .i64 y.quiet, .int .i64 y.seen, .int .i64 y.vk, .int .i64 y.vn]) ∧ Below p.W.heap.size p.W w' := fun p => hrs.out p.W
      refine Yquiettail.region_tail (C := fun W => ∃ p : Bel wc, W = p.W) 14 (by kernel_rfl) (by kernel_rfl) ⟨⟨wc.drew, (Below.refl _ _).drew⟩, rfl⟩ ?_
      dsimp only [List.take, List.drop]
      repeat (go_big_quiet_step (first | (go_at_call 18; exact Calls.bel (k18 _))))
      refine wpQuiet_nil ?_
      rintro wd ⟨⟨wz, hq⟩, rfl⟩
      have hJd : Hid (TwJ w wd w.heap.size (w.heap.size + 1) g fo keep nd oe y X) := hJc.out.grow hq
      have hJe : Hid (TwJ w ((((((((wd.setCell ⟨g, 0, none⟩ (.int .i64 y.st)).setCell ⟨g, 1, none⟩ (.int .i64 y.since)).setCell ⟨g, 2, none⟩ (.int .i64 y.fr)).setCell ⟨g, 3, none⟩ (.int .i64 y.quiet)).setCell ⟨g, 4, none⟩ (.int .i64 y.seen)).setCell ⟨g, 5, none⟩ (.int .i64 y.vk)).setCell ⟨g, 6, none⟩ (.int .i64 y.vn))) w.heap.size (w.heap.size + 1) g fo keep nd oe y y) := TwJ.set1 (W := wd) (Y := y) hJd.out
      clear hq ch0 ch1 ch2 ch3 ca0 ca1 ca2 ca3 k18 cx0 cx1 cx2 cx3 cx4 cx5 cx6 hrs
      obtain ⟨f0, f1, f2, f3, f4, f5, f6⟩ := hJd.out.2.1.frozen
      obtain ⟨p0, p1, p2, p3, p4, p5, p6⟩ := hJd.out.2.1.cells
      obtain ⟨q0, q1, q2, q3, q4, q5, q6⟩ := hJe.out.1.cells
      obtain ⟨r0, r1, r2, r3, r4, r5, r6⟩ := hJe.out.2.1.cells
      have hne2 : ∀ W, (binOp .neq 25 (.agg #[.int .i64 y.st, .int .i64 y.since, .int .i64 y.fr, .int .i64 y.quiet, .int .i64 y.seen, .int .i64 y.vk, .int .i64 y.vn]) (.agg #[.int .i64 y.st, .int .i64 y.since, .int .i64 y.fr, .int .i64 y.quiet, .int .i64 y.seen, .int .i64 y.vk, .int .i64 y.vn])).run Try.prog W = .ok (.bool false) W := fun W => neqI y W
      go_wp2
      go_roundw
      case rel => exact ⟨k + 1, nw + d, y, by omega, rfl, by go_num, hnb, hI3, hJe⟩
      case measure => simp [intOf]; omega
    · obtain rfl : k = n := by omega
      have hki : ¬ (k : Int) < (k : Int) := by omega
      go_wp2_with (first | (go_at_call 9; refine (hlive _).mono ?_; rintro e w2 ⟨rfl, hb2⟩; have hE2 : Hid (Below w.heap.size w w2) := hB.out.trans (hb2.mono hB.out.size)))
      go_ret
      exact ⟨rfl, hE2.out⟩
/-! ### THE ROW's STEP -/
set_option maxRecDepth 100000 in
theorem lifted (os : Os) (started : os.Started) (H : Type) (enc : TypeId × Value → H) :
    ReturnsInHanded {} Try.checked os 3 .any (Rows.stateStepsSpec.pre6 enc Try.prog Try.f3 Rows.stateStepsRow.domain false) (Rows.stateStepsSpec.post enc Try.prog Try.f3 false true false false) := by
  refine returnsInHanded_of_change_sized (C := Try.checked) own started (by kernel_rfl) Try.func3
    (ChangeSpec.witness6 (enc := enc) (C := Try.checked) false ⟨#[], #[.agg #[.int .i64 0, .int .i64 0, .int .i64 0, .int .i64 0, .int .i64 0, .int .i64 0, .int .i64 0], .agg #[.int .i64 0, .int .i64 0, .int .i64 0, .int .i64 0], .int .i64 0, .slice none 0 0], []⟩ 8 (by kernel_rfl) (by kernel_rfl) (by kernel_rfl) (by kernel_rfl)) ?_
  intro W base args ds gs before hval0 hW hcnd hsz0 _
  have hsz : (DataW.weightsEach Try.prog (Try.f3.params.toList ++ Rows.stateStepsSpec.plain.varTypes Try.prog) (ds ++ gs)).all (· ≤ reachBytes) = true := hsz0
  have hval : ∀ (j : Nat) t v, Try.f3.params[j]? = some t → args[j]? = some v → Value.okWide Try.prog W .any base t v := hval0
  have hW' := hW
  obtain ⟨p, q, hA0, hV, rfl, hfz, hnd⟩ := hW
  have hA : DataW.TrodAll enc Try.prog W 0 (fun _ => true) true Try.f3.params.toList args.toList ds p := hA0
  rw [Try.params3] at hA hval hsz
  obtain ⟨v0, vs0, d0, ds0, p0, q0, hargs, rfl, rfl, h0, r0⟩ := trodAll_cons hA
  obtain ⟨v1, vs1, d1, ds1, p1, q1, rfl, rfl, rfl, h1, r1⟩ := trodAll_cons r0
  obtain ⟨v2, vs2, d2, ds2, p2, q2, rfl, rfl, rfl, h2, r2⟩ := trodAll_cons r1
  obtain ⟨v3, vs3, d3, ds3, p3, q3, rfl, rfl, rfl, h3, r3⟩ := trodAll_cons r2
  obtain ⟨rfl, rfl, rfl⟩ := trodAll_nil r3
  obtain rfl : args = #[v0, v1, v2, v3] := by cases args; simp_all
  obtain ⟨rfl, rfl⟩ := trodVars_none hV
  have k0 := h0
  have lt0 : ∀ x ∈ p0, x.block < W.heap.size := by obtain ⟨m, hm⟩ := k0; exact DataW.trod_lt m _ _ _ hm
  obtain ⟨m0, rfl, hR0⟩ : ∃ x : Inst, v0 = encI x ∧ InsIn x := by
    obtain ⟨fuel, hf⟩ := h0
    exact ins_arg (hval 0 25 v0 rfl rfl) hf
  have k1 := h1
  have lt1 : ∀ x ∈ p1, x.block < W.heap.size := by obtain ⟨m, hm⟩ := k1; exact DataW.trod_lt m _ _ _ hm
  obtain ⟨m1, rfl, hR1⟩ : ∃ x : Hd, v1 = encH x ∧ HolIn x := by
    obtain ⟨fuel, hf⟩ := h1
    exact hol_arg (hval 1 27 v1 rfl rfl) hf
  obtain ⟨x2, rfl, rfl, rfl, w2⟩ := open_int Try.underlying2 (hval 2 2 v2 rfl rfl) h2
  have k3 := h3
  have lt3 : ∀ x ∈ p3, x.block < W.heap.size := by obtain ⟨m, hm⟩ := k3; exact DataW.trod_lt m _ _ _ hm
  obtain ⟨a3, n3, c3, rfl⟩ := okWide_slice Try.underlying28 (hval 3 28 v3 rfl rfl)
  obtain ⟨l3, hP3, hR3, hL3⟩ : ∃ l, Acs W (.slice a3 n3 c3) l ∧ (∀ p ∈ l, AcIn p) ∧ l.length ≤ 4398046510976 := by
    obtain ⟨fuel, hf⟩ := h3
    refine acs_of_trod hf (fun q hq => ?_)
    have := List.all_eq_true.1 hsz _ (DataW.weights_mem_each (j := 3) (t := 28) rfl rfl q hq)
    simpa using this
  clear hA0 hval0
  refine (walk m0 m1 x2 (.slice a3 n3 c3) l3 W hR0 hR1 (in64_of w2) hP3 hR3 hL3).mono fun e W' ⟨he, bel⟩ => ?_
  subst he
  exact ⟨_, rfl, _, _, _, [], _, [], hW', trodAll_mk1 (shut_bool Try.underlying4 _), (trodAll_cons_mk (Below.trod laidOut (by kernel_rfl) (of_decide_eq_true (by kernel_rfl)) k0 bel lt0) (trodAll_cons_mk (Below.trod laidOut (by kernel_rfl) (of_decide_eq_true (by kernel_rfl)) k1 bel lt1) (trodAll_cons_mk (shut_int Try.underlying2 w2) (trodAll_cons_mk (Below.trod laidOut (by kernel_rfl) (of_decide_eq_true (by kernel_rfl)) k3 bel lt3) trodAll_mk0)))), rfl, bel.frame _, fun h => by cases h⟩
theorem over : Rows.stateStepsRow.holds Try.pinned (OpenSpec.ofChange Rows.stateStepsSpec) :=
  OpenClaim.holds_of_wide 3 Try.f3 rfl rfl rfl rfl rfl rfl rfl ⟨rfl, rfl, rfl, rfl, rfl⟩ rfl rfl rfl rfl rfl (by kernel_rfl) Try.func3 (by kernel_rfl)
    (of_decide_eq_true (by kernel_rfl)) (by unfold Func.isWrapper; first | (rw [if_pos (by decide +kernel)]; kernel_rfl) | (rw [if_neg (by decide +kernel)]; exact ⟨rfl, rfl⟩))
    (fun os started H enc _ => lifted os started H enc)
end Go.Proofs.Ytcfhpndoaiknhaa.stateSteps
namespace Go.Proofs.Ytcfhpndoaiknhaa
/-- The statement. -/
theorem stateSteps_holds : Rows.StateStepsSaid := stateSteps.over
#print axioms stateSteps_holds
end Go.Proofs.Ytcfhpndoaiknhaa
