/-
  By the policies a result is as if it were another one, and where the state is kept nothing but Seen and Value is another one, whatever instance, hold, value and moment are handed in: StatePolicies returns true and changes no argument.
-/
import Derived.Test.YtcfhpndoaiknhaaRows
import Derived.WalkKit
import Derived.ProofKit
import Derived.OpenShut
import Derived.ShutString
import Derived.ChangeOld
import Derived.Below
import Derived.SizedLaws
import Derived.Test.YtcfhpndoaiknhaaEq
import Derived.Test.YtcfhpndoaiknhaaQt
import Derived.Test.YtcfhpndoaiknhaaQm
namespace Go.Proofs.Ytcfhpndoaiknhaa.statePolicies
open Go.ChangeShapes Go.WideShapes Go.ChangeAt Go.RowKit
open Go.ChangeMaps (open_string shut_string)
set_option linter.unusedVariables false
theorem own : ownKnob Try.prog.godebug = none := by kernel_rfl
theorem laidOut : laidOutB Try.prog = true := by kernel_rfl
theorem vv_cell {w : World} {g : Nat} {k n : Int} (h : Blk w g (.cells #[.int .i64 k, .int .i64 n] 23)) : w.cell? ⟨g, 0, none⟩ = some (.int .i64 k) ∧ w.cell? ⟨g, 1, none⟩ = some (.int .i64 n) := by
  unfold Blk at h
  simp [World.cell?, h]
theorem li_cell {w : World} {g k : Nat} (h : Blk w g (.cells #[.int .i64 3, .int .i64 4] 3)) (hk : k < 2) : w.cell? ⟨g, k, none⟩ = some (.int .i64 (3 + k)) := by
  unfold Blk at h
  rcases (by omega : k = 0 ∨ k = 1) with rfl | rfl <;> simp [World.cell?, h]
/-- What stands in a round: all that was boxed, the list, and the copy of the hold. -/
def PoJ (w W : World) (g gh : Nat) (x : Inst) (vk vn fo keep nd oe a b : Int) : Prop := (Below w.heap.size w W ∧ IAt W w.heap.size x ∧ Blk W (w.heap.size + 1) (.cells #[.int .i64 fo, .int .i64 keep, .int .i64 nd, .int .i64 oe] 27) ∧ Blk W (w.heap.size + 1 + 1) (.cells #[.int .i64 vk, .int .i64 vn] 23)) ∧ Blk W g (.cells #[.int .i64 3, .int .i64 4] 3) ∧ Blk W gh (.cells #[.int .i64 fo, .int .i64 keep, .int .i64 a, .int .i64 b] 27) ∧ w.heap.size + 1 + 1 < gh ∧ g < gh
theorem PoJ.grow {w W W' : World} {g gh : Nat} {x : Inst} {vk vn fo keep nd oe a b : Int} (h : PoJ w W g gh x vk vn fo keep nd oe a b) (hb : Below W.heap.size W W') : PoJ w W' g gh x vk vn fo keep nd oe a b :=
  ⟨⟨h.1.1.trans (hb.mono h.1.1.size), h.1.2.1.grow hb, h.1.2.2.1.grow hb, h.1.2.2.2.grow hb⟩, h.2.1.grow hb, h.2.2.1.grow hb, h.2.2.2⟩
theorem PoJ.set {w W : World} {g gh : Nat} {x : Inst} {vk vn fo keep nd oe a b : Int} (h : PoJ w W g gh x vk vn fo keep nd oe a b) (c : Int) : PoJ w ((W.setCell ⟨gh, 2, none⟩ (.int .i64 c)).setCell ⟨gh, 3, none⟩ (.int .i64 c)) g gh x vk vn fo keep nd oe c c := by
  obtain ⟨⟨h1, h2, h3, h4⟩, h5, h6, h7, h8⟩ := h
  have b1 := block_setCell (i := 2) (u := .int .i64 c) h6
  have b2 := block_setCell (i := 3) (u := .int .i64 c) b1
  refine ⟨⟨(h1.setCell (p := ⟨gh, 2, none⟩) (show w.heap.size ≤ gh by omega) _).setCell (p := ⟨gh, 3, none⟩) (show w.heap.size ≤ gh by omega) _, (h2.other (by omega)).other (by omega), (h3.other (by omega)).other (by omega), (h4.other (by omega)).other (by omega)⟩, (h5.other (by omega)).other (by omega), ?_, h7, h8⟩
  unfold Blk
  rw [b2]
  simp
theorem PoJ.frozen {w W : World} {g gh : Nat} {x : Inst} {vk vn fo keep nd oe a b : Int} (h : PoJ w W g gh x vk vn fo keep nd oe a b) : W.frozen? ⟨gh, 2, none⟩ = false ∧ W.frozen? ⟨gh, 3, none⟩ = false := by
  have := h.2.2.1
  unfold Blk at this
  simp [World.frozen?, this]
theorem pol_two (x : Inst) (fo keep r k n now : Int) (h : r = 3 ∨ r = 4) : stepI x ⟨fo, keep, 2, 2⟩ r k n now = stepI x ⟨fo, keep, 2, 2⟩ 2 k n now := by
  rcases h with rfl | rfl <;> simp [stepI, meansI, polI]
theorem pol_three (x : Inst) (fo keep r k n now : Int) (h : r = 3 ∨ r = 4) : stepI x ⟨fo, keep, 3, 3⟩ r k n now = stepI x ⟨fo, keep, 3, 3⟩ 1 k n now := by
  rcases h with rfl | rfl <;> simp [stepI, meansI, polI]
theorem pol_four (x : Inst) (fo keep r k n now : Int) (h : r = 3 ∨ r = 4) : stepI x ⟨fo, keep, 4, 4⟩ r k n now = { x with seen := now, vk := k, vn := n } := by
  rcases h with rfl | rfl <;> simp [stepI, meansI, polI, moveI]
set_option maxRecDepth 100000 in
set_option maxHeartbeats 8000000 in
theorem walk (x : Inst) (h : Hd) (vk vn : Int) (now : Int) (w : World) (hX : InsIn x) (hH : HolIn h) (hV : I64 vk ∧ I64 vn) (hN : I64 now) :
    Calls Try.prog 7 #[encI x, encH h, encV vk vn, .int .i64 now] w fun e w' => e = .returned (.bool true) ∧ Below w.heap.size w w' := by
  obtain ⟨fo, keep, nd, oe⟩ := h
  have hok0 : ∀ W, Calls Try.prog 11 #[encI x] W fun e w' => e = .returned (.int .i64 (chE x)) ∧ Below W.heap.size W w' := fun W => check11 x W
  have hce : chE x = if okB x then 0 else 2 := rfl
  unfold encI at hok0 ⊢
  unfold encH encV
  simp only
  have hlive := live9
  have hn10 := num10
  have hright : Hid (∀ W, Calls Try.prog 8 #[.agg #[.int .i64 fo, .int .i64 keep, .int .i64 nd, .int .i64 oe], .int .i64 now] W fun e w' => e = .returned (.bool (rB ⟨fo, keep, nd, oe⟩ now)) ∧ Below W.heap.size W w') := fun W => right8 ⟨fo, keep, nd, oe⟩ now W
  have hw0 : Hid (Below w.heap.size w (((w.alloc (.cells #[.int .i64 x.st, .int .i64 x.since, .int .i64 x.fr, .int .i64 x.quiet, .int .i64 x.seen, .int .i64 x.vk, .int .i64 x.vn] 25)).alloc (.cells #[.int .i64 fo, .int .i64 keep, .int .i64 nd, .int .i64 oe] 27)).alloc (.cells #[.int .i64 vk, .int .i64 vn] 23)) ∧ IAt (((w.alloc (.cells #[.int .i64 x.st, .int .i64 x.since, .int .i64 x.fr, .int .i64 x.quiet, .int .i64 x.seen, .int .i64 x.vk, .int .i64 x.vn] 25)).alloc (.cells #[.int .i64 fo, .int .i64 keep, .int .i64 nd, .int .i64 oe] 27)).alloc (.cells #[.int .i64 vk, .int .i64 vn] 23)) w.heap.size x ∧ Blk (((w.alloc (.cells #[.int .i64 x.st, .int .i64 x.since, .int .i64 x.fr, .int .i64 x.quiet, .int .i64 x.seen, .int .i64 x.vk, .int .i64 x.vn] 25)).alloc (.cells #[.int .i64 fo, .int .i64 keep, .int .i64 nd, .int .i64 oe] 27)).alloc (.cells #[.int .i64 vk, .int .i64 vn] 23)) (w.heap.size + 1) (.cells #[.int .i64 fo, .int .i64 keep, .int .i64 nd, .int .i64 oe] 27) ∧ Blk (((w.alloc (.cells #[.int .i64 x.st, .int .i64 x.since, .int .i64 x.fr, .int .i64 x.quiet, .int .i64 x.seen, .int .i64 x.vk, .int .i64 x.vn] 25)).alloc (.cells #[.int .i64 fo, .int .i64 keep, .int .i64 nd, .int .i64 oe] 27)).alloc (.cells #[.int .i64 vk, .int .i64 vn] 23)) (w.heap.size + 1 + 1) (.cells #[.int .i64 vk, .int .i64 vn] 23)) := by
    have a1 := heap_new (w.alloc (.cells #[.int .i64 x.st, .int .i64 x.since, .int .i64 x.fr, .int .i64 x.quiet, .int .i64 x.seen, .int .i64 x.vk, .int .i64 x.vn] 25)) (.cells #[.int .i64 fo, .int .i64 keep, .int .i64 nd, .int .i64 oe] 27)
    rw [World.size_alloc] at a1
    have a2 := heap_new ((w.alloc (.cells #[.int .i64 x.st, .int .i64 x.since, .int .i64 x.fr, .int .i64 x.quiet, .int .i64 x.seen, .int .i64 x.vk, .int .i64 x.vn] 25)).alloc (.cells #[.int .i64 fo, .int .i64 keep, .int .i64 nd, .int .i64 oe] 27)) (.cells #[.int .i64 vk, .int .i64 vn] 23)
    rw [World.size_alloc, World.size_alloc] at a2
    exact ⟨(bW1 w _ _).alloc (by simp; omega) _, ((iNew w x).alloc _).alloc _, Blk.grow (w := (w.alloc (.cells #[.int .i64 x.st, .int .i64 x.since, .int .i64 x.fr, .int .i64 x.quiet, .int .i64 x.seen, .int .i64 x.vk, .int .i64 x.vn] 25)).alloc (.cells #[.int .i64 fo, .int .i64 keep, .int .i64 nd, .int .i64 oe] 27)) a1 (bW0 _ _), a2⟩
  clear hX hH hV
  replace hok0 : Hid (∀ W, Calls Try.prog 11 #[.agg #[.int .i64 x.st, .int .i64 x.since, .int .i64 x.fr, .int .i64 x.quiet, .int .i64 x.seen, .int .i64 x.vk, .int .i64 x.vn]] W fun e w' => e = .returned (.int .i64 (chE x)) ∧ Below W.heap.size W w') := hok0
  replace hce : Hid (chE x = if okB x then 0 else 2) := hce
  cases hr : rB ⟨fo, keep, nd, oe⟩ now with
  | false =>
    rw [hr] at hright
    clear hr hok0 hN
    go_enter Try.func7, Try.ntmps7
    go_wp2_with (first | (go_at_call 8; refine (hright.out _).mono ?_; rintro e w1 ⟨rfl, hb⟩; have hJ1 : Hid (Below w.heap.size w w1 ∧ IAt w1 w.heap.size x ∧ Blk w1 (w.heap.size + 1) (.cells #[.int .i64 fo, .int .i64 keep, .int .i64 nd, .int .i64 oe] 27) ∧ Blk w1 (w.heap.size + 1 + 1) (.cells #[.int .i64 vk, .int .i64 vn] 23)) := ⟨hw0.out.1.trans (hb.mono hw0.out.1.size), hw0.out.2.1.grow hb, hw0.out.2.2.1.grow hb, hw0.out.2.2.2.grow hb⟩; clear hb; obtain ⟨p0, p1, p2, p3, p4, p5, p6⟩ := hJ1.out.2.1.cells; have ch1 := hd_cell hJ1.out.2.2.1; have cv1 := vv_cell hJ1.out.2.2.2) | (go_at_call 9; refine (hlive _).mono ?_; rintro e wz ⟨rfl, hb⟩; have hE2 : Hid (Below w.heap.size w wz) := hJ1.out.1.trans (hb.mono hJ1.out.1.size)))
    go_ret
    exact ⟨rfl, hE2.out⟩
  | true =>
  have hr2 : (0 ≤ now ∧ now ≤ 1099511627776) ∧ (0 ≤ fo ∧ fo ≤ 1000000) ∧ 0 ≤ keep ∧ keep ≤ 1000000 := of_decide_eq_true hr
  rw [hr] at hright
  clear hr hN
  obtain ⟨⟨hn0, hn1⟩, -, -⟩ := hr2
  cases hb : okB x with
  | false =>
    have hce2 : chE x = 2 := by rw [hce.out, hb]; rfl
    rw [hce2] at hok0
    clear hce hb
    go_enter Try.func7, Try.ntmps7
    go_wp2_with (first | (go_at_call 8; refine (hright.out _).mono ?_; rintro e w1 ⟨rfl, hb⟩; have hJ1 : Hid (Below w.heap.size w w1 ∧ IAt w1 w.heap.size x ∧ Blk w1 (w.heap.size + 1) (.cells #[.int .i64 fo, .int .i64 keep, .int .i64 nd, .int .i64 oe] 27) ∧ Blk w1 (w.heap.size + 1 + 1) (.cells #[.int .i64 vk, .int .i64 vn] 23)) := ⟨hw0.out.1.trans (hb.mono hw0.out.1.size), hw0.out.2.1.grow hb, hw0.out.2.2.1.grow hb, hw0.out.2.2.2.grow hb⟩; clear hb; obtain ⟨p0, p1, p2, p3, p4, p5, p6⟩ := hJ1.out.2.1.cells; have ch1 := hd_cell hJ1.out.2.2.1; have cv1 := vv_cell hJ1.out.2.2.2) | (go_at_call 11; refine (hok0.out _).mono ?_; rintro e w2 ⟨rfl, hb⟩; have hJ2 : Hid (Below w.heap.size w w2 ∧ IAt w2 w.heap.size x ∧ Blk w2 (w.heap.size + 1) (.cells #[.int .i64 fo, .int .i64 keep, .int .i64 nd, .int .i64 oe] 27) ∧ Blk w2 (w.heap.size + 1 + 1) (.cells #[.int .i64 vk, .int .i64 vn] 23)) := ⟨hJ1.out.1.trans (hb.mono hJ1.out.1.size), hJ1.out.2.1.grow hb, hJ1.out.2.2.1.grow hb, hJ1.out.2.2.2.grow hb⟩; clear hb; obtain ⟨p0, p1, p2, p3, p4, p5, p6⟩ := hJ2.out.2.1.cells; have ch1 := hd_cell hJ2.out.2.2.1; have cv1 := vv_cell hJ2.out.2.2.2) | (go_at_call 10; refine (hn10 _ _).mono ?_; rintro e wx ⟨rfl, hwx⟩; subst wx) | (go_at_call 9; refine (hlive _).mono ?_; rintro e wz ⟨rfl, hb⟩; have hE2 : Hid (Below w.heap.size w wz) := hJ2.out.1.trans (hb.mono hJ2.out.1.size)))
    go_ret
    exact ⟨rfl, hE2.out⟩
  | true =>
  have hce2 : chE x = 0 := by rw [hce.out, hb]; rfl
  rw [hce2] at hok0
  clear hce hce2
  replace hb : Hid (okB x = true) := hb
  have hm4 : ∀ W, (Builtin.max_ #[2, 2, 2, 2] 2 #[.int .i64 x.since, .int .i64 x.seen, .int .i64 x.fr, .int .i64 x.quiet]).run Try.prog W = .ok (.int .i64 (max4 x.since x.seen x.fr x.quiet)) W := fun W => run_max4 _ _ _ _ W
  have hm5 : Hid (¬ now < max4 x.since x.seen x.fr x.quiet → x.since ≤ now ∧ x.seen ≤ now ∧ x.fr ≤ now ∧ x.quiet ≤ now) := fun h => (max4_le _ _ _ _ _).1 h
  generalize max4 x.since x.seen x.fr x.quiet = M4 at *
  by_cases hmx : now < M4
  · go_enter Try.func7, Try.ntmps7
    go_wp2_with (first | (go_at_call 8; refine (hright.out _).mono ?_; rintro e w1 ⟨rfl, hb⟩; have hJ1 : Hid (Below w.heap.size w w1 ∧ IAt w1 w.heap.size x ∧ Blk w1 (w.heap.size + 1) (.cells #[.int .i64 fo, .int .i64 keep, .int .i64 nd, .int .i64 oe] 27) ∧ Blk w1 (w.heap.size + 1 + 1) (.cells #[.int .i64 vk, .int .i64 vn] 23)) := ⟨hw0.out.1.trans (hb.mono hw0.out.1.size), hw0.out.2.1.grow hb, hw0.out.2.2.1.grow hb, hw0.out.2.2.2.grow hb⟩; clear hb; obtain ⟨p0, p1, p2, p3, p4, p5, p6⟩ := hJ1.out.2.1.cells; have ch1 := hd_cell hJ1.out.2.2.1; have cv1 := vv_cell hJ1.out.2.2.2) | (go_at_call 11; refine (hok0.out _).mono ?_; rintro e w2 ⟨rfl, hb⟩; have hJ2 : Hid (Below w.heap.size w w2 ∧ IAt w2 w.heap.size x ∧ Blk w2 (w.heap.size + 1) (.cells #[.int .i64 fo, .int .i64 keep, .int .i64 nd, .int .i64 oe] 27) ∧ Blk w2 (w.heap.size + 1 + 1) (.cells #[.int .i64 vk, .int .i64 vn] 23)) := ⟨hJ1.out.1.trans (hb.mono hJ1.out.1.size), hJ1.out.2.1.grow hb, hJ1.out.2.2.1.grow hb, hJ1.out.2.2.2.grow hb⟩; clear hb; obtain ⟨p0, p1, p2, p3, p4, p5, p6⟩ := hJ2.out.2.1.cells; have ch1 := hd_cell hJ2.out.2.2.1; have cv1 := vv_cell hJ2.out.2.2.2) | (go_at_call 10; refine (hn10 _ _).mono ?_; rintro e wx ⟨rfl, hwx⟩; subst wx) | (go_at_call 9; refine (hlive _).mono ?_; rintro e wz ⟨rfl, hb⟩; have hE2 : Hid (Below w.heap.size w wz) := hJ2.out.1.trans (hb.mono hJ2.out.1.size)))
    go_ret
    exact ⟨rfl, hE2.out⟩
  obtain ⟨m1, m2, m3, m4⟩ := hm5.out hmx
  have hI : Hid (Inv x now) := Inv.of_ok hb.out m1 m2 m3 m4
  clear hm5 m1 m2 m3 m4 hb
  go_enter Try.func7, Try.ntmps7
  go_wp2_with (first | (go_at_call 8; refine (hright.out _).mono ?_; rintro e w1 ⟨rfl, hb⟩; have hJ1 : Hid (Below w.heap.size w w1 ∧ IAt w1 w.heap.size x ∧ Blk w1 (w.heap.size + 1) (.cells #[.int .i64 fo, .int .i64 keep, .int .i64 nd, .int .i64 oe] 27) ∧ Blk w1 (w.heap.size + 1 + 1) (.cells #[.int .i64 vk, .int .i64 vn] 23)) := ⟨hw0.out.1.trans (hb.mono hw0.out.1.size), hw0.out.2.1.grow hb, hw0.out.2.2.1.grow hb, hw0.out.2.2.2.grow hb⟩; clear hb; obtain ⟨p0, p1, p2, p3, p4, p5, p6⟩ := hJ1.out.2.1.cells; have ch1 := hd_cell hJ1.out.2.2.1; have cv1 := vv_cell hJ1.out.2.2.2) | (go_at_call 11; refine (hok0.out _).mono ?_; rintro e w2 ⟨rfl, hb⟩; have hJ2 : Hid (Below w.heap.size w w2 ∧ IAt w2 w.heap.size x ∧ Blk w2 (w.heap.size + 1) (.cells #[.int .i64 fo, .int .i64 keep, .int .i64 nd, .int .i64 oe] 27) ∧ Blk w2 (w.heap.size + 1 + 1) (.cells #[.int .i64 vk, .int .i64 vn] 23)) := ⟨hJ1.out.1.trans (hb.mono hJ1.out.1.size), hJ1.out.2.1.grow hb, hJ1.out.2.2.1.grow hb, hJ1.out.2.2.2.grow hb⟩; clear hb; obtain ⟨p0, p1, p2, p3, p4, p5, p6⟩ := hJ2.out.2.1.cells; have ch1 := hd_cell hJ2.out.2.2.1; have cv1 := vv_cell hJ2.out.2.2.2) | (go_at_call 10; refine (hn10 _ _).mono ?_; rintro e wx ⟨rfl, hwx⟩; subst wx))
  have hT0 : Hid ((Below w.heap.size w (w2.alloc (.cells #[.int .i64 3, .int .i64 4] 3)) ∧ IAt (w2.alloc (.cells #[.int .i64 3, .int .i64 4] 3)) w.heap.size x ∧ Blk (w2.alloc (.cells #[.int .i64 3, .int .i64 4] 3)) (w.heap.size + 1) (.cells #[.int .i64 fo, .int .i64 keep, .int .i64 nd, .int .i64 oe] 27) ∧ Blk (w2.alloc (.cells #[.int .i64 3, .int .i64 4] 3)) (w.heap.size + 1 + 1) (.cells #[.int .i64 vk, .int .i64 vn] 23)) ∧ Blk (w2.alloc (.cells #[.int .i64 3, .int .i64 4] 3)) w2.heap.size (.cells #[.int .i64 3, .int .i64 4] 3) ∧ w.heap.size ≤ w2.heap.size) := ⟨⟨hJ2.out.1.alloc hJ2.out.1.size _, hJ2.out.2.1.alloc _, hJ2.out.2.2.1.grow (bW0 _ _), hJ2.out.2.2.2.grow (bW0 _ _)⟩, heap_new _ _, hJ2.out.1.size⟩
  generalize w2.heap.size = g at *
  generalize w2.alloc (.cells #[.int .i64 3, .int .i64 4] 3) = wl at *
  clear hJ1 hJ2 hw0 p0 p1 p2 p3 p4 p5 p6 ch1 cv1 hok0 hright hm4
  go_loopw [10] (fun i wr => ∃ k : Nat, k ≤ 2 ∧ i = .int .i64 k ∧ Hid ((Below w.heap.size w wr ∧ IAt wr w.heap.size x ∧ Blk wr (w.heap.size + 1) (.cells #[.int .i64 fo, .int .i64 keep, .int .i64 nd, .int .i64 oe] 27) ∧ Blk wr (w.heap.size + 1 + 1) (.cells #[.int .i64 vk, .int .i64 vn] 23)) ∧ Blk wr g (.cells #[.int .i64 3, .int .i64 4] 3) ∧ w.heap.size ≤ g)) (fun i _ => 2 - (intOf i).toNat)
  case atStart => exact ⟨0, by decide, rfl, hT0⟩
  case round =>
    obtain ⟨k, hk, rfl, hJ⟩ := hrel
    clear hT0
    have hB : Hid (Below w.heap.size w wr) := hJ.out.1.1
    by_cases hlt : k < 2
    · have hki : (k : Int) < 2 := by omega
      have hrr : Hid ((3 + (k : Int)) = 3 ∨ (3 + (k : Int)) = 4) := by show _ ∨ _; omega
      have hcl : Hid (∀ W, Blk W g (.cells #[.int .i64 3, .int .i64 4] 3) → W.cell? ⟨g, k, none⟩ = some (.int .i64 (3 + k))) := fun W h => li_cell h hlt
      obtain ⟨r, hr⟩ : ∃ r, Hid ((3 + (k : Int)) = r) := ⟨_, rfl⟩
      rw [hr.out] at hrr hcl
      clear hr
      have hgs := hJ.out.2.2
      obtain ⟨p0, p1, p2, p3, p4, p5, p6⟩ := hJ.out.1.2.1.cells
      have ch1 := hd_cell hJ.out.1.2.2.1
      have cv1 := vv_cell hJ.out.1.2.2.2
      have cl1 := hcl.out _ hJ.out.2.1
      go_wp2
      clear p0 p1 p2 p3 p4 p5 p6 ch1 cv1 cl1
      have hJ9 : Hid (PoJ w (wr.alloc (.cells #[.int .i64 fo, .int .i64 keep, .int .i64 2, .int .i64 2] 27)) g wr.heap.size x vk vn fo keep nd oe 2 2) := by
        have hlt1 := hJ.out.1.2.2.2.lt
        have hlt2 := hJ.out.2.1.lt
        exact ⟨⟨hJ.out.1.1.alloc hJ.out.1.1.size _, hJ.out.1.2.1.alloc _, hJ.out.1.2.2.1.grow (bW0 _ _), hJ.out.1.2.2.2.grow (bW0 _ _)⟩, hJ.out.2.1.grow (bW0 _ _), heap_new _ _, hlt1, hlt2⟩
      have hlist : Hid (w.heap.size ≤ g) := hJ.out.2.2
      generalize wr.heap.size = gh at *
      generalize wr.alloc (.cells #[.int .i64 fo, .int .i64 keep, .int .i64 2, .int .i64 2] 27) = w9 at *
      clear hJ hB
      have cx0 : ∀ p : Bel w9, p.W.cell? ⟨w.heap.size, 0, none⟩ = some (.int .i64 x.st) := fun p => ((hJ9.out.grow p.h).1.2.1.cells).1
      have cx1 : ∀ p : Bel w9, p.W.cell? ⟨w.heap.size, 1, none⟩ = some (.int .i64 x.since) := fun p => ((hJ9.out.grow p.h).1.2.1.cells).2.1
      have cx2 : ∀ p : Bel w9, p.W.cell? ⟨w.heap.size, 2, none⟩ = some (.int .i64 x.fr) := fun p => ((hJ9.out.grow p.h).1.2.1.cells).2.2.1
      have cx3 : ∀ p : Bel w9, p.W.cell? ⟨w.heap.size, 3, none⟩ = some (.int .i64 x.quiet) := fun p => ((hJ9.out.grow p.h).1.2.1.cells).2.2.2.1
      have cx4 : ∀ p : Bel w9, p.W.cell? ⟨w.heap.size, 4, none⟩ = some (.int .i64 x.seen) := fun p => ((hJ9.out.grow p.h).1.2.1.cells).2.2.2.2.1
      have cx5 : ∀ p : Bel w9, p.W.cell? ⟨w.heap.size, 5, none⟩ = some (.int .i64 x.vk) := fun p => ((hJ9.out.grow p.h).1.2.1.cells).2.2.2.2.2.1
      have cx6 : ∀ p : Bel w9, p.W.cell? ⟨w.heap.size, 6, none⟩ = some (.int .i64 x.vn) := fun p => ((hJ9.out.grow p.h).1.2.1.cells).2.2.2.2.2.2
      have ch0 : ∀ p : Bel w9, p.W.cell? ⟨gh, 0, none⟩ = some (.int .i64 fo) := fun p => (hd_cell (hJ9.out.grow p.h).2.2.1).1
      have ch1 : ∀ p : Bel w9, p.W.cell? ⟨gh, 1, none⟩ = some (.int .i64 keep) := fun p => (hd_cell (hJ9.out.grow p.h).2.2.1).2.1
      have ch2 : ∀ p : Bel w9, p.W.cell? ⟨gh, 2, none⟩ = some (.int .i64 2) := fun p => (hd_cell (hJ9.out.grow p.h).2.2.1).2.2.1
      have ch3 : ∀ p : Bel w9, p.W.cell? ⟨gh, 3, none⟩ = some (.int .i64 2) := fun p => (hd_cell (hJ9.out.grow p.h).2.2.1).2.2.2
      have cv0 : ∀ p : Bel w9, p.W.cell? ⟨w.heap.size + 1 + 1, 0, none⟩ = some (.int .i64 vk) := fun p => (vv_cell (hJ9.out.grow p.h).1.2.2.2).1
      have cv1 : ∀ p : Bel w9, p.W.cell? ⟨w.heap.size + 1 + 1, 1, none⟩ = some (.int .i64 vn) := fun p => (vv_cell (hJ9.out.grow p.h).1.2.2.2).2
      have cl : ∀ p : Bel w9, p.W.cell? ⟨g, k, none⟩ = some (.int .i64 r) := fun p => hcl.out _ (hJ9.out.grow p.h).2.1
      obtain ⟨y, hy⟩ : ∃ y, Hid (stepI x ⟨fo, keep, 2, 2⟩ 2 vk vn now = y) := ⟨_, rfl⟩
      have k17a : ∀ p : Bel w9, Calls Try.prog 17 #[.agg #[.int .i64 x.st, .int .i64 x.since, .int .i64 x.fr, .int .i64 x.quiet, .int .i64 x.seen, .int .i64 x.vk, .int .i64 x.vn], .agg #[.int .i64 fo, .int .i64 keep, .int .i64 2, .int .i64 2], .int .i64 r, .agg #[.int .i64 vk, .int .i64 vn], .int .i64 now] p.W fun e w' => e = .returned (.agg #[.int .i64 y.st, .int .i64 y.since, .int .i64 y.fr, .int .i64 y.quiet, .int .i64 y.seen, .int .i64 y.vk, .int .i64 y.vn]) ∧ Below p.W.heap.size p.W w' := fun p => by
        have := step17 x ⟨fo, keep, 2, 2⟩ r vk vn now p.W (hI.out.hf (Int.le_refl _) hn1) (hI.out.hq (Int.le_refl _) hn1)
        rw [pol_two x fo keep r vk vn now hrr.out, hy.out] at this
        exact this
      have k17b : ∀ p : Bel w9, Calls Try.prog 17 #[.agg #[.int .i64 x.st, .int .i64 x.since, .int .i64 x.fr, .int .i64 x.quiet, .int .i64 x.seen, .int .i64 x.vk, .int .i64 x.vn], .agg #[.int .i64 fo, .int .i64 keep, .int .i64 2, .int .i64 2], .int .i64 2, .agg #[.int .i64 vk, .int .i64 vn], .int .i64 now] p.W fun e w' => e = .returned (.agg #[.int .i64 y.st, .int .i64 y.since, .int .i64 y.fr, .int .i64 y.quiet, .int .i64 y.seen, .int .i64 y.vk, .int .i64 y.vn]) ∧ Below p.W.heap.size p.W w' := fun p => by
        have := step17 x ⟨fo, keep, 2, 2⟩ 2 vk vn now p.W (hI.out.hf (Int.le_refl _) hn1) (hI.out.hq (Int.le_refl _) hn1)
        rw [hy.out] at this
        exact this
      clear hy
      have hne2 : ∀ W, (binOp .neq 25 (.agg #[.int .i64 y.st, .int .i64 y.since, .int .i64 y.fr, .int .i64 y.quiet, .int .i64 y.seen, .int .i64 y.vk, .int .i64 y.vn]) (.agg #[.int .i64 y.st, .int .i64 y.since, .int .i64 y.fr, .int .i64 y.quiet, .int .i64 y.seen, .int .i64 y.vk, .int .i64 y.vn])).run Try.prog W = .ok (.bool false) W := fun W => neqI y W
      refine wp_region_bel (by kernel_rfl) (by kernel_rfl) ?_
      repeat (go_big_quiet_step (first | (go_at_call 17; with_reducible exact Calls.bel (k17a _)) | (go_at_call 17; with_reducible exact Calls.bel (k17b _))))
      refine wpQuiet_nil ?_
      rintro wa ⟨⟨wz, hq⟩, rfl⟩
      have hJa : Hid (PoJ w wa g gh x vk vn fo keep nd oe 2 2) := hJ9.out.grow hq
      clear cx0 cx1 cx2 cx3 cx4 cx5 cx6 ch0 ch1 ch2 ch3 cv0 cv1 cl k17a k17b hq
      have hfz := hJa.out.frozen
      have ch1 := hd_cell hJa.out.2.2.1
      have hJb : Hid (PoJ w ((wa.setCell ⟨gh, 2, none⟩ (.int .i64 3)).setCell ⟨gh, 3, none⟩ (.int .i64 3)) g gh x vk vn fo keep nd oe 3 3) := hJa.out.set 3
      go_wp2
      clear hne2 hfz ch1 hJa hJ9
      generalize (wa.setCell ⟨gh, 2, none⟩ (.int .i64 3)).setCell ⟨gh, 3, none⟩ (.int .i64 3) = wb at *
      have cx0 : ∀ p : Bel wb, p.W.cell? ⟨w.heap.size, 0, none⟩ = some (.int .i64 x.st) := fun p => ((hJb.out.grow p.h).1.2.1.cells).1
      have cx1 : ∀ p : Bel wb, p.W.cell? ⟨w.heap.size, 1, none⟩ = some (.int .i64 x.since) := fun p => ((hJb.out.grow p.h).1.2.1.cells).2.1
      have cx2 : ∀ p : Bel wb, p.W.cell? ⟨w.heap.size, 2, none⟩ = some (.int .i64 x.fr) := fun p => ((hJb.out.grow p.h).1.2.1.cells).2.2.1
      have cx3 : ∀ p : Bel wb, p.W.cell? ⟨w.heap.size, 3, none⟩ = some (.int .i64 x.quiet) := fun p => ((hJb.out.grow p.h).1.2.1.cells).2.2.2.1
      have cx4 : ∀ p : Bel wb, p.W.cell? ⟨w.heap.size, 4, none⟩ = some (.int .i64 x.seen) := fun p => ((hJb.out.grow p.h).1.2.1.cells).2.2.2.2.1
      have cx5 : ∀ p : Bel wb, p.W.cell? ⟨w.heap.size, 5, none⟩ = some (.int .i64 x.vk) := fun p => ((hJb.out.grow p.h).1.2.1.cells).2.2.2.2.2.1
      have cx6 : ∀ p : Bel wb, p.W.cell? ⟨w.heap.size, 6, none⟩ = some (.int .i64 x.vn) := fun p => ((hJb.out.grow p.h).1.2.1.cells).2.2.2.2.2.2
      have ch0 : ∀ p : Bel wb, p.W.cell? ⟨gh, 0, none⟩ = some (.int .i64 fo) := fun p => (hd_cell (hJb.out.grow p.h).2.2.1).1
      have ch1 : ∀ p : Bel wb, p.W.cell? ⟨gh, 1, none⟩ = some (.int .i64 keep) := fun p => (hd_cell (hJb.out.grow p.h).2.2.1).2.1
      have ch2 : ∀ p : Bel wb, p.W.cell? ⟨gh, 2, none⟩ = some (.int .i64 3) := fun p => (hd_cell (hJb.out.grow p.h).2.2.1).2.2.1
      have ch3 : ∀ p : Bel wb, p.W.cell? ⟨gh, 3, none⟩ = some (.int .i64 3) := fun p => (hd_cell (hJb.out.grow p.h).2.2.1).2.2.2
      have cv0 : ∀ p : Bel wb, p.W.cell? ⟨w.heap.size + 1 + 1, 0, none⟩ = some (.int .i64 vk) := fun p => (vv_cell (hJb.out.grow p.h).1.2.2.2).1
      have cv1 : ∀ p : Bel wb, p.W.cell? ⟨w.heap.size + 1 + 1, 1, none⟩ = some (.int .i64 vn) := fun p => (vv_cell (hJb.out.grow p.h).1.2.2.2).2
      have cl : ∀ p : Bel wb, p.W.cell? ⟨g, k, none⟩ = some (.int .i64 r) := fun p => hcl.out _ (hJb.out.grow p.h).2.1
      obtain ⟨y2, hy⟩ : ∃ y2, Hid (stepI x ⟨fo, keep, 3, 3⟩ 1 vk vn now = y2) := ⟨_, rfl⟩
      have k17a : ∀ p : Bel wb, Calls Try.prog 17 #[.agg #[.int .i64 x.st, .int .i64 x.since, .int .i64 x.fr, .int .i64 x.quiet, .int .i64 x.seen, .int .i64 x.vk, .int .i64 x.vn], .agg #[.int .i64 fo, .int .i64 keep, .int .i64 3, .int .i64 3], .int .i64 r, .agg #[.int .i64 vk, .int .i64 vn], .int .i64 now] p.W fun e w' => e = .returned (.agg #[.int .i64 y2.st, .int .i64 y2.since, .int .i64 y2.fr, .int .i64 y2.quiet, .int .i64 y2.seen, .int .i64 y2.vk, .int .i64 y2.vn]) ∧ Below p.W.heap.size p.W w' := fun p => by
        have := step17 x ⟨fo, keep, 3, 3⟩ r vk vn now p.W (hI.out.hf (Int.le_refl _) hn1) (hI.out.hq (Int.le_refl _) hn1)
        rw [pol_three x fo keep r vk vn now hrr.out, hy.out] at this
        exact this
      have k17b : ∀ p : Bel wb, Calls Try.prog 17 #[.agg #[.int .i64 x.st, .int .i64 x.since, .int .i64 x.fr, .int .i64 x.quiet, .int .i64 x.seen, .int .i64 x.vk, .int .i64 x.vn], .agg #[.int .i64 fo, .int .i64 keep, .int .i64 3, .int .i64 3], .int .i64 1, .agg #[.int .i64 vk, .int .i64 vn], .int .i64 now] p.W fun e w' => e = .returned (.agg #[.int .i64 y2.st, .int .i64 y2.since, .int .i64 y2.fr, .int .i64 y2.quiet, .int .i64 y2.seen, .int .i64 y2.vk, .int .i64 y2.vn]) ∧ Below p.W.heap.size p.W w' := fun p => by
        have := step17 x ⟨fo, keep, 3, 3⟩ 1 vk vn now p.W (hI.out.hf (Int.le_refl _) hn1) (hI.out.hq (Int.le_refl _) hn1)
        rw [hy.out] at this
        exact this
      clear hy
      have hne2 : ∀ W, (binOp .neq 25 (.agg #[.int .i64 y2.st, .int .i64 y2.since, .int .i64 y2.fr, .int .i64 y2.quiet, .int .i64 y2.seen, .int .i64 y2.vk, .int .i64 y2.vn]) (.agg #[.int .i64 y2.st, .int .i64 y2.since, .int .i64 y2.fr, .int .i64 y2.quiet, .int .i64 y2.seen, .int .i64 y2.vk, .int .i64 y2.vn])).run Try.prog W = .ok (.bool false) W := fun W => neqI y2 W
      refine wp_region_bel (by kernel_rfl) (by kernel_rfl) ?_
      repeat (go_big_quiet_step (first | (go_at_call 17; with_reducible exact Calls.bel (k17a _)) | (go_at_call 17; with_reducible exact Calls.bel (k17b _))))
      refine wpQuiet_nil ?_
      rintro wc ⟨⟨wz, hq⟩, rfl⟩
      have hJc : Hid (PoJ w wc g gh x vk vn fo keep nd oe 3 3) := hJb.out.grow hq
      clear cx0 cx1 cx2 cx3 cx4 cx5 cx6 ch0 ch1 ch2 ch3 cv0 cv1 cl k17a k17b hq
      have hfz := hJc.out.frozen
      have ch1 := hd_cell hJc.out.2.2.1
      have hJd : Hid (PoJ w ((wc.setCell ⟨gh, 2, none⟩ (.int .i64 4)).setCell ⟨gh, 3, none⟩ (.int .i64 4)) g gh x vk vn fo keep nd oe 4 4) := hJc.out.set 4
      obtain ⟨p0, p1, p2, p3, p4, p5, p6⟩ := hJd.out.1.2.1.cells
      have cv1 := vv_cell hJd.out.1.2.2.2
      have cv2 : ∀ o, (((wc.setCell ⟨gh, 2, none⟩ (.int .i64 4)).setCell ⟨gh, 3, none⟩ (.int .i64 4)).alloc o).cell? ⟨w.heap.size + 1 + 1, 0, none⟩ = some (.int .i64 vk) := fun o => Lib.cell?_alloc_some _ cv1.1
      have cv3 : ∀ o, (((wc.setCell ⟨gh, 2, none⟩ (.int .i64 4)).setCell ⟨gh, 3, none⟩ (.int .i64 4)).alloc o).cell? ⟨w.heap.size + 1 + 1, 1, none⟩ = some (.int .i64 vn) := fun o => Lib.cell?_alloc_some _ cv1.2
      have hJd2 : Hid (w.heap.size ≤ ((wc.setCell ⟨gh, 2, none⟩ (.int .i64 4)).setCell ⟨gh, 3, none⟩ (.int .i64 4)).heap.size) := hJd.out.1.1.size
      go_wp2
      have hJf : Hid (PoJ w (((wc.setCell ⟨gh, 2, none⟩ (.int .i64 4)).setCell ⟨gh, 3, none⟩ (.int .i64 4)).alloc (.cells #[.int .i64 x.st, .int .i64 x.since, .int .i64 x.fr, .int .i64 x.quiet, .int .i64 now, .int .i64 vk, .int .i64 vn] 25)) g gh x vk vn fo keep nd oe 4 4) := hJd.out.grow (bW0 _ _)
      have hsz : ((wc.setCell ⟨gh, 2, none⟩ (.int .i64 4)).setCell ⟨gh, 3, none⟩ (.int .i64 4)).heap.size = wc.heap.size := by simp
      have hXf : Hid (IAt (((wc.setCell ⟨gh, 2, none⟩ (.int .i64 4)).setCell ⟨gh, 3, none⟩ (.int .i64 4)).alloc (.cells #[.int .i64 x.st, .int .i64 x.since, .int .i64 x.fr, .int .i64 x.quiet, .int .i64 now, .int .i64 vk, .int .i64 vn] 25)) wc.heap.size { x with seen := now, vk := vk, vn := vn }) := by
        have := iNew ((wc.setCell ⟨gh, 2, none⟩ (.int .i64 4)).setCell ⟨gh, 3, none⟩ (.int .i64 4)) { x with seen := now, vk := vk, vn := vn }
        rw [hsz] at this
        exact this
      clear hsz cv2 cv3 cv1 p0 p1 p2 p3 p4 p5 p6 hJd hJd2 hfz ch1 hne2 hJc hJb
      generalize wc.heap.size = gx at *
      generalize ((wc.setCell ⟨gh, 2, none⟩ (.int .i64 4)).setCell ⟨gh, 3, none⟩ (.int .i64 4)).alloc (.cells #[.int .i64 x.st, .int .i64 x.since, .int .i64 x.fr, .int .i64 x.quiet, .int .i64 now, .int .i64 vk, .int .i64 vn] 25) = wf at *
      have cx0 : ∀ p : Bel wf, p.W.cell? ⟨w.heap.size, 0, none⟩ = some (.int .i64 x.st) := fun p => ((hJf.out.grow p.h).1.2.1.cells).1
      have cx1 : ∀ p : Bel wf, p.W.cell? ⟨w.heap.size, 1, none⟩ = some (.int .i64 x.since) := fun p => ((hJf.out.grow p.h).1.2.1.cells).2.1
      have cx2 : ∀ p : Bel wf, p.W.cell? ⟨w.heap.size, 2, none⟩ = some (.int .i64 x.fr) := fun p => ((hJf.out.grow p.h).1.2.1.cells).2.2.1
      have cx3 : ∀ p : Bel wf, p.W.cell? ⟨w.heap.size, 3, none⟩ = some (.int .i64 x.quiet) := fun p => ((hJf.out.grow p.h).1.2.1.cells).2.2.2.1
      have cx4 : ∀ p : Bel wf, p.W.cell? ⟨w.heap.size, 4, none⟩ = some (.int .i64 x.seen) := fun p => ((hJf.out.grow p.h).1.2.1.cells).2.2.2.2.1
      have cx5 : ∀ p : Bel wf, p.W.cell? ⟨w.heap.size, 5, none⟩ = some (.int .i64 x.vk) := fun p => ((hJf.out.grow p.h).1.2.1.cells).2.2.2.2.2.1
      have cx6 : ∀ p : Bel wf, p.W.cell? ⟨w.heap.size, 6, none⟩ = some (.int .i64 x.vn) := fun p => ((hJf.out.grow p.h).1.2.1.cells).2.2.2.2.2.2
      have ch0 : ∀ p : Bel wf, p.W.cell? ⟨gh, 0, none⟩ = some (.int .i64 fo) := fun p => (hd_cell (hJf.out.grow p.h).2.2.1).1
      have ch1 : ∀ p : Bel wf, p.W.cell? ⟨gh, 1, none⟩ = some (.int .i64 keep) := fun p => (hd_cell (hJf.out.grow p.h).2.2.1).2.1
      have ch2 : ∀ p : Bel wf, p.W.cell? ⟨gh, 2, none⟩ = some (.int .i64 4) := fun p => (hd_cell (hJf.out.grow p.h).2.2.1).2.2.1
      have ch3 : ∀ p : Bel wf, p.W.cell? ⟨gh, 3, none⟩ = some (.int .i64 4) := fun p => (hd_cell (hJf.out.grow p.h).2.2.1).2.2.2
      have cv0 : ∀ p : Bel wf, p.W.cell? ⟨w.heap.size + 1 + 1, 0, none⟩ = some (.int .i64 vk) := fun p => (vv_cell (hJf.out.grow p.h).1.2.2.2).1
      have cv1 : ∀ p : Bel wf, p.W.cell? ⟨w.heap.size + 1 + 1, 1, none⟩ = some (.int .i64 vn) := fun p => (vv_cell (hJf.out.grow p.h).1.2.2.2).2
      have cl : ∀ p : Bel wf, p.W.cell? ⟨g, k, none⟩ = some (.int .i64 r) := fun p => hcl.out _ (hJf.out.grow p.h).2.1
      have cz0 : ∀ p : Bel wf, p.W.cell? ⟨gx, 0, none⟩ = some (.int .i64 x.st) := fun p => ((hXf.out.grow p.h).cells).1
      have cz1 : ∀ p : Bel wf, p.W.cell? ⟨gx, 1, none⟩ = some (.int .i64 x.since) := fun p => ((hXf.out.grow p.h).cells).2.1
      have cz2 : ∀ p : Bel wf, p.W.cell? ⟨gx, 2, none⟩ = some (.int .i64 x.fr) := fun p => ((hXf.out.grow p.h).cells).2.2.1
      have cz3 : ∀ p : Bel wf, p.W.cell? ⟨gx, 3, none⟩ = some (.int .i64 x.quiet) := fun p => ((hXf.out.grow p.h).cells).2.2.2.1
      have cz4 : ∀ p : Bel wf, p.W.cell? ⟨gx, 4, none⟩ = some (.int .i64 now) := fun p => ((hXf.out.grow p.h).cells).2.2.2.2.1
      have cz5 : ∀ p : Bel wf, p.W.cell? ⟨gx, 5, none⟩ = some (.int .i64 vk) := fun p => ((hXf.out.grow p.h).cells).2.2.2.2.2.1
      have cz6 : ∀ p : Bel wf, p.W.cell? ⟨gx, 6, none⟩ = some (.int .i64 vn) := fun p => ((hXf.out.grow p.h).cells).2.2.2.2.2.2
      have k17c : ∀ p : Bel wf, Calls Try.prog 17 #[.agg #[.int .i64 x.st, .int .i64 x.since, .int .i64 x.fr, .int .i64 x.quiet, .int .i64 x.seen, .int .i64 x.vk, .int .i64 x.vn], .agg #[.int .i64 fo, .int .i64 keep, .int .i64 4, .int .i64 4], .int .i64 r, .agg #[.int .i64 vk, .int .i64 vn], .int .i64 now] p.W fun e w' => e = .returned (.agg #[.int .i64 x.st, .int .i64 x.since, .int .i64 x.fr, .int .i64 x.quiet, .int .i64 now, .int .i64 vk, .int .i64 vn]) ∧ Below p.W.heap.size p.W w' := fun p => by
        have := step17 x ⟨fo, keep, 4, 4⟩ r vk vn now p.W (hI.out.hf (Int.le_refl _) hn1) (hI.out.hq (Int.le_refl _) hn1)
        rw [pol_four x fo keep r vk vn now hrr.out] at this
        exact this
      have hne3 : ∀ W, (binOp .neq 25 (.agg #[.int .i64 x.st, .int .i64 x.since, .int .i64 x.fr, .int .i64 x.quiet, .int .i64 now, .int .i64 vk, .int .i64 vn]) (.agg #[.int .i64 x.st, .int .i64 x.since, .int .i64 x.fr, .int .i64 x.quiet, .int .i64 now, .int .i64 vk, .int .i64 vn])).run Try.prog W = .ok (.bool false) W := fun W => neqI { x with seen := now, vk := vk, vn := vn } W
      refine wp_region_bel (by kernel_rfl) (by kernel_rfl) ?_
      repeat (go_big_quiet_step (first | (go_at_call 17; exact Calls.bel (k17c _))))
      refine wpQuiet_nil ?_
      rintro wg ⟨⟨wz, hq⟩, rfl⟩
      have hJg : Hid (PoJ w wg g gh x vk vn fo keep nd oe 4 4) := hJf.out.grow hq
      clear cx0 cx1 cx2 cx3 cx4 cx5 cx6 ch0 ch1 ch2 ch3 cv0 cv1 cl k17c hq cz0 cz1 cz2 cz3 cz4 cz5 cz6
      go_wp2
      go_roundw
      case rel => exact ⟨k + 1, by omega, by go_num, ⟨hJg.out.1, hJg.out.2.1, hlist.out⟩⟩
      case measure => simp [intOf]; omega
    · obtain rfl : k = 2 := by omega
      go_wp2_with (first | (go_at_call 9; refine (hlive _).mono ?_; rintro e wz ⟨rfl, hb⟩; have hE2 : Hid (Below w.heap.size w wz) := hB.out.trans (hb.mono hB.out.size)))
      go_ret
      exact ⟨rfl, hE2.out⟩
/-! ### THE ROW's STEP -/
set_option maxRecDepth 100000 in
theorem lifted (os : Os) (started : os.Started) (H : Type) (enc : TypeId × Value → H) :
    ReturnsInHanded {} Try.checked os 7 .any (Rows.statePoliciesSpec.pre6 enc Try.prog Try.f7 Rows.statePoliciesRow.domain false) (Rows.statePoliciesSpec.post enc Try.prog Try.f7 false true false false) := by
  refine returnsInHanded_of_change_sized (C := Try.checked) own started (by kernel_rfl) Try.func7
    (ChangeSpec.witness6 (enc := enc) (C := Try.checked) false ⟨#[], #[.agg #[.int .i64 0, .int .i64 0, .int .i64 0, .int .i64 0, .int .i64 0, .int .i64 0, .int .i64 0], .agg #[.int .i64 0, .int .i64 0, .int .i64 0, .int .i64 0], .agg #[.int .i64 0, .int .i64 0], .int .i64 0], []⟩ 8 (by kernel_rfl) (by kernel_rfl) (by kernel_rfl) (by kernel_rfl)) ?_
  intro W base args ds gs before hval0 hW hcnd hsz0 _
  have hsz : (DataW.weightsEach Try.prog (Try.f7.params.toList ++ Rows.statePoliciesSpec.plain.varTypes Try.prog) (ds ++ gs)).all (· ≤ reachBytes) = true := hsz0
  have hval : ∀ (j : Nat) t v, Try.f7.params[j]? = some t → args[j]? = some v → Value.okWide Try.prog W .any base t v := hval0
  have hW' := hW
  obtain ⟨p, q, hA0, hV, rfl, hfz, hnd⟩ := hW
  have hA : DataW.TrodAll enc Try.prog W 0 (fun _ => true) true Try.f7.params.toList args.toList ds p := hA0
  rw [Try.params7] at hA hval hsz
  obtain ⟨v0, vs0, d0, ds0, p0, q0, hargs, rfl, rfl, h0, r0⟩ := trodAll_cons hA
  obtain ⟨v1, vs1, d1, ds1, p1, q1, rfl, rfl, rfl, h1, r1⟩ := trodAll_cons r0
  obtain ⟨v2, vs2, d2, ds2, p2, q2, rfl, rfl, rfl, h2, r2⟩ := trodAll_cons r1
  obtain ⟨v3, vs3, d3, ds3, p3, q3, rfl, rfl, rfl, h3, r3⟩ := trodAll_cons r2
  obtain ⟨rfl, rfl, rfl⟩ := trodAll_nil r3
  obtain rfl : args = #[v0, v1, v2, v3] := by cases args; simp_all
  obtain ⟨rfl, rfl⟩ := trodVars_none hV
  have k0 := h0
  have lt0 : ∀ x ∈ p0, x.block < W.heap.size := by obtain ⟨m, hm⟩ := k0; exact DataW.trod_lt m _ _ _ hm
  obtain ⟨m0, rfl, hR0⟩ : ∃ x : Inst, v0 = encI x ∧ InsIn x := by
    obtain ⟨fuel, hf⟩ := h0
    exact ins_arg (hval 0 25 v0 rfl rfl) hf
  have k1 := h1
  have lt1 : ∀ x ∈ p1, x.block < W.heap.size := by obtain ⟨m, hm⟩ := k1; exact DataW.trod_lt m _ _ _ hm
  obtain ⟨m1, rfl, hR1⟩ : ∃ x : Hd, v1 = encH x ∧ HolIn x := by
    obtain ⟨fuel, hf⟩ := h1
    exact hol_arg (hval 1 27 v1 rfl rfl) hf
  have k2 := h2
  have lt2 : ∀ x ∈ p2, x.block < W.heap.size := by obtain ⟨m, hm⟩ := k2; exact DataW.trod_lt m _ _ _ hm
  obtain ⟨m2, z2, rfl, hR2⟩ : ∃ k m, v2 = encV k m ∧ I64 k ∧ I64 m := by
    obtain ⟨fuel, hf⟩ := h2
    exact val_arg (hval 2 23 v2 rfl rfl) hf
  obtain ⟨x3, rfl, rfl, rfl, w3⟩ := open_int Try.underlying2 (hval 3 2 v3 rfl rfl) h3
  clear hA0 hval0
  refine (walk m0 m1 m2 z2 x3 W hR0 hR1 hR2 (in64_of w3)).mono fun e W' ⟨he, bel⟩ => ?_
  subst he
  exact ⟨_, rfl, _, _, _, [], _, [], hW', trodAll_mk1 (shut_bool Try.underlying4 _), (trodAll_cons_mk (Below.trod laidOut (by kernel_rfl) (of_decide_eq_true (by kernel_rfl)) k0 bel lt0) (trodAll_cons_mk (Below.trod laidOut (by kernel_rfl) (of_decide_eq_true (by kernel_rfl)) k1 bel lt1) (trodAll_cons_mk (Below.trod laidOut (by kernel_rfl) (of_decide_eq_true (by kernel_rfl)) k2 bel lt2) (trodAll_cons_mk (shut_int Try.underlying2 w3) trodAll_mk0)))), rfl, bel.frame _, fun h => by cases h⟩
theorem over : Rows.statePoliciesRow.holds Try.pinned (OpenSpec.ofChange Rows.statePoliciesSpec) :=
  OpenClaim.holds_of_wide 7 Try.f7 rfl rfl rfl rfl rfl rfl rfl ⟨rfl, rfl, rfl, rfl, rfl⟩ rfl rfl rfl rfl rfl (by kernel_rfl) Try.func7 (by kernel_rfl)
    (of_decide_eq_true (by kernel_rfl)) (by unfold Func.isWrapper; first | (rw [if_pos (by decide +kernel)]; kernel_rfl) | (rw [if_neg (by decide +kernel)]; exact ⟨rfl, rfl⟩))
    (fun os started H enc _ => lifted os started H enc)
end Go.Proofs.Ytcfhpndoaiknhaa.statePolicies
namespace Go.Proofs.Ytcfhpndoaiknhaa
/-- The statement. -/
theorem statePolicies_holds : Rows.StatePoliciesSaid := statePolicies.over
#print axioms statePolicies_holds
end Go.Proofs.Ytcfhpndoaiknhaa
