/-
  What may be is followed by what may be, seen at its evaluation with its value, and Since is when it came to its state, whatever instance, hold and evaluations are handed in: StateRight returns true and changes no argument.
-/
import Derived.Test.YtcfhpndoaiknhaaRows
import Derived.WalkKit
import Derived.ProofKit
import Derived.OpenShut
import Derived.ShutString
import Derived.ChangeOld
import Derived.Below
import Derived.SizedLaws
import Derived.Test.YtcfhpndoaiknhaaGs
import Derived.Test.YtcfhpndoaiknhaaQt
import Derived.Test.YtcfhpndoaiknhaaQm
namespace Go.Proofs.Ytcfhpndoaiknhaa.stateRight
open Go.ChangeShapes Go.WideShapes Go.ChangeAt Go.RowKit
open Go.ChangeMaps (open_string shut_string)
set_option linter.unusedVariables false
theorem own : ownKnob Try.prog.godebug = none := by kernel_rfl
theorem laidOut : laidOutB Try.prog = true := by kernel_rfl
set_option maxRecDepth 100000 in
set_option maxHeartbeats 8000000 in
theorem walk (x : Inst) (h : Hd) (v : Value) (l : List Ac) (w : World) (hX : InsIn x) (hH : HolIn h) (hP : Acs w v l) (hE : ∀ p ∈ l, AcIn p) (hL : l.length ≤ 4398046510976) :
    Calls Try.prog 5 #[encI x, encH h, v] w fun e w' => e = .returned (.bool true) ∧ Below w.heap.size w w' := by
  obtain ⟨a, c, rfl⟩ := hP.shape
  obtain ⟨fo, keep, nd, oe⟩ := h
  have hok0 : ∀ W, Calls Try.prog 11 #[encI x] W fun e w' => e = .returned (.int .i64 (chE x)) ∧ Below W.heap.size W w' := fun W => check11 x W
  have hce : chE x = if okB x then 0 else 2 := rfl
  unfold encI at hok0 ⊢
  unfold encH
  simp only
  have hlive := live9
  have hn10 := num10
  have hright : Hid (∀ W, Calls Try.prog 8 #[.agg #[.int .i64 fo, .int .i64 keep, .int .i64 nd, .int .i64 oe], .int .i64 0] W fun e w' => e = .returned (.bool (rB ⟨fo, keep, nd, oe⟩ 0)) ∧ Below W.heap.size W w') := fun W => right8 ⟨fo, keep, nd, oe⟩ 0 W
  have hgl : Hid (∀ W, Below w.heap.size w W → Acs W (.slice a l.length c) l) := fun W h => hP.grow h
  have hw0 : Hid (Below w.heap.size w ((w.alloc (.cells #[.int .i64 x.st, .int .i64 x.since, .int .i64 x.fr, .int .i64 x.quiet, .int .i64 x.seen, .int .i64 x.vk, .int .i64 x.vn] 25)).alloc (.cells #[.int .i64 fo, .int .i64 keep, .int .i64 nd, .int .i64 oe] 27)) ∧ IAt ((w.alloc (.cells #[.int .i64 x.st, .int .i64 x.since, .int .i64 x.fr, .int .i64 x.quiet, .int .i64 x.seen, .int .i64 x.vk, .int .i64 x.vn] 25)).alloc (.cells #[.int .i64 fo, .int .i64 keep, .int .i64 nd, .int .i64 oe] 27)) w.heap.size x ∧ Blk ((w.alloc (.cells #[.int .i64 x.st, .int .i64 x.since, .int .i64 x.fr, .int .i64 x.quiet, .int .i64 x.seen, .int .i64 x.vk, .int .i64 x.vn] 25)).alloc (.cells #[.int .i64 fo, .int .i64 keep, .int .i64 nd, .int .i64 oe] 27)) (w.heap.size + 1) (.cells #[.int .i64 fo, .int .i64 keep, .int .i64 nd, .int .i64 oe] 27)) := ⟨bW1 w _ _, (iNew w x).alloc _, by have := heap_new (w.alloc (.cells #[.int .i64 x.st, .int .i64 x.since, .int .i64 x.fr, .int .i64 x.quiet, .int .i64 x.seen, .int .i64 x.vk, .int .i64 x.vn] 25)) (.cells #[.int .i64 fo, .int .i64 keep, .int .i64 nd, .int .i64 oe] 27); rwa [World.size_alloc] at this⟩
  obtain ⟨n, hn⟩ : ∃ n, Hid (n = l.length) := ⟨_, rfl⟩
  rw [← hn.out] at hL hgl ⊢
  clear hP hH hX
  replace hE : Hid (∀ p ∈ l, AcIn p) := hE
  replace hok0 : Hid (∀ W, Calls Try.prog 11 #[.agg #[.int .i64 x.st, .int .i64 x.since, .int .i64 x.fr, .int .i64 x.quiet, .int .i64 x.seen, .int .i64 x.vk, .int .i64 x.vn]] W fun e w' => e = .returned (.int .i64 (chE x)) ∧ Below W.heap.size W w') := hok0
  replace hce : Hid (chE x = if okB x then 0 else 2) := hce
  by_cases h100 : 100 < n
  · have h100b : (100 : Int) < (n : Int) := by omega
    clear hright hE hgl hok0
    go_enter Try.func5, Try.ntmps5
    go_wp2_with (first | (go_at_call 9; refine (hlive _).mono ?_; rintro e wz ⟨rfl, hb⟩; have hE2 : Hid (Below w.heap.size w wz) := hw0.out.1.trans (hb.mono hw0.out.1.size)))
    go_ret
    exact ⟨rfl, hE2.out⟩
  have h100b : ¬ (100 : Int) < (n : Int) := by omega
  cases hr : rB ⟨fo, keep, nd, oe⟩ 0 with
  | false =>
    rw [hr] at hright
    clear hr hE hgl hok0
    go_enter Try.func5, Try.ntmps5
    go_wp2_with (first | (go_at_call 8; refine (hright.out _).mono ?_; rintro e w1 ⟨rfl, hb⟩; have hJ1 : Hid (Below w.heap.size w w1 ∧ IAt w1 w.heap.size x ∧ Blk w1 (w.heap.size + 1) (.cells #[.int .i64 fo, .int .i64 keep, .int .i64 nd, .int .i64 oe] 27)) := ⟨hw0.out.1.trans (hb.mono hw0.out.1.size), hw0.out.2.1.grow hb, hw0.out.2.2.grow hb⟩; clear hb; obtain ⟨p0, p1, p2, p3, p4, p5, p6⟩ := hJ1.out.2.1.cells; have ch1 := hd_cell hJ1.out.2.2) | (go_at_call 9; refine (hlive _).mono ?_; rintro e wz ⟨rfl, hb⟩; have hE2 : Hid (Below w.heap.size w wz) := hJ1.out.1.trans (hb.mono hJ1.out.1.size)))
    go_ret
    exact ⟨rfl, hE2.out⟩
  | true =>
  rw [hr] at hright
  clear hr
  cases hb : okB x with
  | false =>
    have hce2 : chE x = 2 := by rw [hce.out, hb]; rfl
    rw [hce2] at hok0
    clear hce hb hE hgl
    go_enter Try.func5, Try.ntmps5
    go_wp2_with (first | (go_at_call 8; refine (hright.out _).mono ?_; rintro e w1 ⟨rfl, hb⟩; have hJ1 : Hid (Below w.heap.size w w1 ∧ IAt w1 w.heap.size x ∧ Blk w1 (w.heap.size + 1) (.cells #[.int .i64 fo, .int .i64 keep, .int .i64 nd, .int .i64 oe] 27)) := ⟨hw0.out.1.trans (hb.mono hw0.out.1.size), hw0.out.2.1.grow hb, hw0.out.2.2.grow hb⟩; clear hb; obtain ⟨p0, p1, p2, p3, p4, p5, p6⟩ := hJ1.out.2.1.cells; have ch1 := hd_cell hJ1.out.2.2) | (go_at_call 11; refine (hok0.out _).mono ?_; rintro e w2 ⟨rfl, hb⟩; have hJ2 : Hid (Below w.heap.size w w2 ∧ IAt w2 w.heap.size x ∧ Blk w2 (w.heap.size + 1) (.cells #[.int .i64 fo, .int .i64 keep, .int .i64 nd, .int .i64 oe] 27)) := ⟨hJ1.out.1.trans (hb.mono hJ1.out.1.size), hJ1.out.2.1.grow hb, hJ1.out.2.2.grow hb⟩; clear hb; obtain ⟨p0, p1, p2, p3, p4, p5, p6⟩ := hJ2.out.2.1.cells; have ch1 := hd_cell hJ2.out.2.2) | (go_at_call 10; refine (hn10 _ _).mono ?_; rintro e wx ⟨rfl, hwx⟩; subst wx) | (go_at_call 9; refine (hlive _).mono ?_; rintro e wz ⟨rfl, hb⟩; have hE2 : Hid (Below w.heap.size w wz) := hJ2.out.1.trans (hb.mono hJ2.out.1.size)))
    go_ret
    exact ⟨rfl, hE2.out⟩
  | true =>
  have hce2 : chE x = 0 := by rw [hce.out, hb]; rfl
  rw [hce2] at hok0
  clear hce hce2
  have hm4 : ∀ W, (Builtin.max_ #[2, 2, 2, 2] 2 #[.int .i64 x.since, .int .i64 x.seen, .int .i64 x.fr, .int .i64 x.quiet]).run Try.prog W = .ok (.int .i64 (max4 x.since x.seen x.fr x.quiet)) W := fun W => run_max4 _ _ _ _ W
  have hI : Hid (Inv x (max4 x.since x.seen x.fr x.quiet)) := by
    have := (max4_le x.since x.seen x.fr x.quiet _).1 (Int.lt_irrefl _)
    exact Inv.of_ok hb this.1 this.2.1 this.2.2.1 this.2.2.2
  have hM : 0 ≤ max4 x.since x.seen x.fr x.quiet ∧ max4 x.since x.seen x.fr x.quiet ≤ 1099511627776 := by
    have h1 := hI.out
    have hI9 : Inv x 1099511627776 := by
      have h2 := hb
      unfold okB hasB frB quB at h2
      simp only [Bool.and_eq_true, Bool.or_eq_true, decide_eq_true_eq, tB_iff] at h2
      obtain ⟨ha, ⟨hb2, hc, hd, he⟩, hv⟩ := h2
      refine Inv.of_ok hb hb2.2 hc.2 ?_ ?_
      · split at hd
        · omega
        · simp only [Bool.and_eq_true, decide_eq_true_eq, tB_iff] at hd; omega
      · omega
    unfold Inv at hI9 h1
    refine ⟨by omega, ?_⟩
    have h3 := (max4_le x.since x.seen x.fr x.quiet 1099511627776).2 ⟨by omega, by omega, by omega, by omega⟩
    omega
  generalize max4 x.since x.seen x.fr x.quiet = M4 at *
  obtain ⟨hn0, hn1⟩ := hM
  clear hb
  go_enter Try.func5, Try.ntmps5
  go_wp2_with (first | (go_at_call 8; refine (hright.out _).mono ?_; rintro e w1 ⟨rfl, hb⟩; have hJ1 : Hid (Below w.heap.size w w1 ∧ IAt w1 w.heap.size x ∧ Blk w1 (w.heap.size + 1) (.cells #[.int .i64 fo, .int .i64 keep, .int .i64 nd, .int .i64 oe] 27)) := ⟨hw0.out.1.trans (hb.mono hw0.out.1.size), hw0.out.2.1.grow hb, hw0.out.2.2.grow hb⟩; clear hb; obtain ⟨p0, p1, p2, p3, p4, p5, p6⟩ := hJ1.out.2.1.cells; have ch1 := hd_cell hJ1.out.2.2) | (go_at_call 11; refine (hok0.out _).mono ?_; rintro e w2 ⟨rfl, hb⟩; have hJ2 : Hid (Below w.heap.size w w2 ∧ IAt w2 w.heap.size x ∧ Blk w2 (w.heap.size + 1) (.cells #[.int .i64 fo, .int .i64 keep, .int .i64 nd, .int .i64 oe] 27)) := ⟨hJ1.out.1.trans (hb.mono hJ1.out.1.size), hJ1.out.2.1.grow hb, hJ1.out.2.2.grow hb⟩; clear hb; obtain ⟨p0, p1, p2, p3, p4, p5, p6⟩ := hJ2.out.2.1.cells; have ch1 := hd_cell hJ2.out.2.2) | (go_at_call 10; refine (hn10 _ _).mono ?_; rintro e wx ⟨rfl, hwx⟩; subst wx))
  have hT0 : Hid (LpJ w w2 (w.heap.size + 1) w.heap.size fo keep nd oe x) := ⟨hJ2.out.2.1, hJ2.out.2.2, hJ2.out.1, Nat.le_succ _, Nat.succ_ne_self _, Nat.le_refl _⟩
  clear hJ1 hJ2 hw0 p0 p1 p2 p3 p4 p5 p6 ch1 hok0 hright hm4
  go_loopw [7, 8] (fun nwv i wr => ∃ k : Nat, ∃ nw : Int, ∃ X : Inst, k ≤ n ∧ nwv = .int .i64 nw ∧ i = .int .i64 k ∧ (0 ≤ nw ∧ nw ≤ 1099511627776) ∧ Hid (Inv X nw) ∧ Hid (LpJ w wr (w.heap.size + 1) w.heap.size fo keep nd oe X)) (fun _ i _ => n - (intOf i).toNat)
  case atStart => exact ⟨0, M4, x, Nat.zero_le _, rfl, rfl, ⟨hn0, hn1⟩, hI, hT0⟩
  case round =>
    obtain ⟨k, nw, X, hk, rfl, rfl, ⟨hw1, hw2⟩, hI2, hJ⟩ := hrel
    clear hT0 hI
    have hB : Hid (Below w.heap.size w wr) := hJ.out.2.2.1
    by_cases hlt : k < n
    · have hki : (k : Int) < (n : Int) := by omega
      obtain ⟨b, oo, rfl, x0, x1, x2, x3⟩ := ac_at (hgl.out wr hB.out) k (by rw [← hn.out]; exact hlt)
      have hbb : Hid (b < w.heap.size) := by
        have hq := ac_at (hgl.out w (Below.refl _ _)) k (by rw [← hn.out]; exact hlt)
        obtain ⟨b', o', e, y0, -⟩ := hq
        have := World.block_lt_of_cell? w _ y0
        cases e
        exact this
      generalize l.getD k ac0 = ac at *
      obtain ⟨d, r, vk, vn⟩ := ac
      simp only at x0 x1 x2 x3
      have hbk : Hid (∀ W, Below w.heap.size w W → W.cell? ⟨b, oo + k * 4, none⟩ = some (.int .i64 d) ∧ W.cell? ⟨b, oo + k * 4 + 1, none⟩ = some (.int .i64 r) ∧ W.cell? ⟨b, oo + k * 4 + 2, none⟩ = some (.int .i64 vk) ∧ W.cell? ⟨b, oo + k * 4 + 3, none⟩ = some (.int .i64 vn)) := fun W h => by
        have e : ∀ o, W.cell? ⟨b, o, none⟩ = wr.cell? ⟨b, o, none⟩ := fun o => (h.cell (p := ⟨b, o, none⟩) hbb.out).trans (hB.out.cell (p := ⟨b, o, none⟩) hbb.out).symm
        exact ⟨(e _).trans x0, (e _).trans x1, (e _).trans x2, (e _).trans x3⟩
      by_cases hd0 : d < 0
      · go_wp2_with (first | (go_at_call 9; refine (hlive _).mono ?_; rintro e w2 ⟨rfl, hb2⟩; have hE2 : Hid (Below w.heap.size w w2) := hB.out.trans (hb2.mono hB.out.size)))
        go_ret
        exact ⟨rfl, hE2.out⟩
      by_cases hd1 : 1000000 < d
      · go_wp2_with (first | (go_at_call 9; refine (hlive _).mono ?_; rintro e w2 ⟨rfl, hb2⟩; have hE2 : Hid (Below w.heap.size w w2) := hB.out.trans (hb2.mono hB.out.size)))
        go_ret
        exact ⟨rfl, hE2.out⟩
      have hdb : -9223372036854775808 ≤ 1099511627776 - d ∧ 1099511627776 - d ≤ 9223372036854775807 := by omega
      by_cases hd2 : 1099511627776 - d < nw
      · go_wp2_with (first | (go_at_call 9; refine (hlive _).mono ?_; rintro e w2 ⟨rfl, hb2⟩; have hE2 : Hid (Below w.heap.size w w2) := hB.out.trans (hb2.mono hB.out.size)))
        go_ret
        exact ⟨rfl, hE2.out⟩
      have hv21 : Hid (∀ W, Calls Try.prog 21 #[.agg #[.int .i64 vk, .int .i64 vn]] W fun e w' => e = .returned (.bool (vB vk vn)) ∧ w' = W.alloc (.cells #[.int .i64 vk, .int .i64 vn] 23)) := fun W => is21 vk vn W
      have hnb : 0 ≤ nw + d ∧ nw + d ≤ 1099511627776 := by omega
      have hI3 : Hid (Inv (stepI X ⟨fo, keep, nd, oe⟩ r vk vn (nw + d)) (nw + d)) := hI2.out.step (by omega) _ _ _ _
      have hst : Hid (∀ W, Calls Try.prog 17 #[.agg #[.int .i64 X.st, .int .i64 X.since, .int .i64 X.fr, .int .i64 X.quiet, .int .i64 X.seen, .int .i64 X.vk, .int .i64 X.vn], .agg #[.int .i64 fo, .int .i64 keep, .int .i64 nd, .int .i64 oe], .int .i64 r, .agg #[.int .i64 vk, .int .i64 vn], .int .i64 (nw + d)] W fun e w' => e = .returned (encI (stepI X ⟨fo, keep, nd, oe⟩ r vk vn (nw + d))) ∧ Below W.heap.size W w') := fun W => step17 X ⟨fo, keep, nd, oe⟩ r vk vn (nw + d) W (hI2.out.hf (by omega) hnb.2) (hI2.out.hq (by omega) hnb.2)
      have hok : Hid (okB (stepI X ⟨fo, keep, nd, oe⟩ r vk vn (nw + d)) = vB vk vn) := by
        have h7 := step_seen X ⟨fo, keep, nd, oe⟩ r vk vn (nw + d)
        have := hI3.out.ok hnb.2
        rw [h7.2.1, h7.2.2] at this
        exact this
      have hchk : Hid (∀ W, Calls Try.prog 11 #[encI (stepI X ⟨fo, keep, nd, oe⟩ r vk vn (nw + d))] W fun e w' => e = .returned (.int .i64 (if vB vk vn then 0 else 2)) ∧ Below W.heap.size W w') := fun W => by
        have := check11 (stepI X ⟨fo, keep, nd, oe⟩ r vk vn (nw + d)) W
        unfold chE at this
        rw [hok.out] at this
        exact this
      have hsn : Hid ((stepI X ⟨fo, keep, nd, oe⟩ r vk vn (nw + d)).since = if (stepI X ⟨fo, keep, nd, oe⟩ r vk vn (nw + d)).st = X.st then X.since else nw + d) := step_since _ _ _ _ _ _
      have hse : Hid ((stepI X ⟨fo, keep, nd, oe⟩ r vk vn (nw + d)).seen = nw + d ∧ (stepI X ⟨fo, keep, nd, oe⟩ r vk vn (nw + d)).vk = vk ∧ (stepI X ⟨fo, keep, nd, oe⟩ r vk vn (nw + d)).vn = vn) := step_seen _ _ _ _ _ _
      clear hI2 hok
      cases hvb : vB vk vn with
      | false =>
        rw [hvb] at hv21
        clear hvb hchk hst hsn hse hI3
        go_wp2_with (first | (go_at_call 21; refine (hv21.out _).mono ?_; rintro e wv ⟨rfl, hwv⟩; have hBv0 : Below w.heap.size w wv := (by rw [hwv]; exact hB.out.alloc hB.out.size _); have hBv : Hid (Below w.heap.size w wv) := hBv0; clear hBv0 hwv) | (go_at_call 9; refine (hlive _).mono ?_; rintro e w2 ⟨rfl, hb2⟩; have hE2 : Hid (Below w.heap.size w w2) := hBv.out.trans (hb2.mono hBv.out.size)))
        go_ret
        exact ⟨rfl, hE2.out⟩
      | true =>
      rw [hvb] at hv21 hchk
      clear hvb
      obtain ⟨ys, hys2⟩ : ∃ z, (stepI X ⟨fo, keep, nd, oe⟩ r vk vn (nw + d)).st = z := ⟨_, rfl⟩
      obtain ⟨yf, hyf⟩ : ∃ z, (stepI X ⟨fo, keep, nd, oe⟩ r vk vn (nw + d)).fr = z := ⟨_, rfl⟩
      obtain ⟨yq, hyq⟩ : ∃ z, (stepI X ⟨fo, keep, nd, oe⟩ r vk vn (nw + d)).quiet = z := ⟨_, rfl⟩
      by_cases hys : (stepI X ⟨fo, keep, nd, oe⟩ r vk vn (nw + d)).st = X.st
      · replace hys : Hid ((stepI X ⟨fo, keep, nd, oe⟩ r vk vn (nw + d)).st = X.st) := hys
        have hY : Hid (stepI X ⟨fo, keep, nd, oe⟩ r vk vn (nw + d) = (⟨X.st, X.since, yf, yq, (nw + d), vk, vn⟩ : Inst)) := by
          have h1 := hsn.out
          have h2 := hse.out
          have h3 := hys.out
          generalize stepI X ⟨fo, keep, nd, oe⟩ r vk vn (nw + d) = z at *
          obtain ⟨z1, z2, z3, z4, z5, z6, z7⟩ := z
          simp only at h1 h2 h3 hys2 hyf hyq
          obtain ⟨h2, h4, h5⟩ := h2
          show _ = _
          rw [if_pos h3] at h1
          subst h1 h2 h4 h5 hyf hyq
          rw [h3]
        rw [hY.out] at hst hI3 hchk
        clear hY hsn hse hyf hyq hys2
        replace hst : Hid (∀ W, Calls Try.prog 17 #[.agg #[.int .i64 X.st, .int .i64 X.since, .int .i64 X.fr, .int .i64 X.quiet, .int .i64 X.seen, .int .i64 X.vk, .int .i64 X.vn], .agg #[.int .i64 fo, .int .i64 keep, .int .i64 nd, .int .i64 oe], .int .i64 r, .agg #[.int .i64 vk, .int .i64 vn], .int .i64 (nw + d)] W fun e w' => e = .returned (.agg #[.int .i64 X.st, .int .i64 X.since, .int .i64 yf, .int .i64 yq, .int .i64 (nw + d), .int .i64 vk, .int .i64 vn]) ∧ Below W.heap.size W w') := hst
        replace hchk : Hid (∀ W, Calls Try.prog 11 #[.agg #[.int .i64 X.st, .int .i64 X.since, .int .i64 yf, .int .i64 yq, .int .i64 (nw + d), .int .i64 vk, .int .i64 vn]] W fun e w' => e = .returned (.int .i64 0) ∧ Below W.heap.size W w') := hchk
        go_wp2_with (first | (go_at_call 21; refine (hv21.out _).mono ?_; rintro e wv ⟨rfl, hwv⟩; have hJv0 : LpJ w wv (w.heap.size + 1) w.heap.size fo keep nd oe X := (by rw [hwv]; exact hJ.out.grow (bW0 _ _)); have hJv : Hid (LpJ w wv (w.heap.size + 1) w.heap.size fo keep nd oe X) := hJv0; clear hJv0 hwv; have hyv := hbk.out wv hJv.out.2.2.1))
        clear hyv x0 x1 x2 x3 hv21
        have ch0 : ∀ p : Gq.Out (Gq.growS wv.heap.size (⟨X.st, X.since, yf, yq, (nw + d), vk, vn⟩ : Inst)) wv, p.W.cell? ⟨w.heap.size + 1, 0, none⟩ = some (.int .i64 fo) := fun p => (hd_cell (hJv.out.grow p.h.1).2.1).1
        have ch1 : ∀ p : Gq.Out (Gq.growS wv.heap.size (⟨X.st, X.since, yf, yq, (nw + d), vk, vn⟩ : Inst)) wv, p.W.cell? ⟨w.heap.size + 1, 1, none⟩ = some (.int .i64 keep) := fun p => (hd_cell (hJv.out.grow p.h.1).2.1).2.1
        have ch2 : ∀ p : Gq.Out (Gq.growS wv.heap.size (⟨X.st, X.since, yf, yq, (nw + d), vk, vn⟩ : Inst)) wv, p.W.cell? ⟨w.heap.size + 1, 2, none⟩ = some (.int .i64 nd) := fun p => (hd_cell (hJv.out.grow p.h.1).2.1).2.2.1
        have ch3 : ∀ p : Gq.Out (Gq.growS wv.heap.size (⟨X.st, X.since, yf, yq, (nw + d), vk, vn⟩ : Inst)) wv, p.W.cell? ⟨w.heap.size + 1, 3, none⟩ = some (.int .i64 oe) := fun p => (hd_cell (hJv.out.grow p.h.1).2.1).2.2.2
        have ca0 : ∀ p : Gq.Out (Gq.growS wv.heap.size (⟨X.st, X.since, yf, yq, (nw + d), vk, vn⟩ : Inst)) wv, p.W.cell? ⟨b, oo + k * 4, none⟩ = some (.int .i64 d) := fun p => (hbk.out p.W (hJv.out.grow p.h.1).2.2.1).1
        have ca1 : ∀ p : Gq.Out (Gq.growS wv.heap.size (⟨X.st, X.since, yf, yq, (nw + d), vk, vn⟩ : Inst)) wv, p.W.cell? ⟨b, oo + k * 4 + 1, none⟩ = some (.int .i64 r) := fun p => (hbk.out p.W (hJv.out.grow p.h.1).2.2.1).2.1
        have ca2 : ∀ p : Gq.Out (Gq.growS wv.heap.size (⟨X.st, X.since, yf, yq, (nw + d), vk, vn⟩ : Inst)) wv, p.W.cell? ⟨b, oo + k * 4 + 2, none⟩ = some (.int .i64 vk) := fun p => (hbk.out p.W (hJv.out.grow p.h.1).2.2.1).2.2.1
        have ca3 : ∀ p : Gq.Out (Gq.growS wv.heap.size (⟨X.st, X.since, yf, yq, (nw + d), vk, vn⟩ : Inst)) wv, p.W.cell? ⟨b, oo + k * 4 + 3, none⟩ = some (.int .i64 vn) := fun p => (hbk.out p.W (hJv.out.grow p.h.1).2.2.1).2.2.2
        have cx0 : ∀ p : Gq.Out (Gq.growS wv.heap.size (⟨X.st, X.since, yf, yq, (nw + d), vk, vn⟩ : Inst)) wv, p.W.cell? ⟨w.heap.size, 0, none⟩ = some (.int .i64 X.st) := fun p => (((hJv.out.grow p.h.1).1).cells).1
        have cx1 : ∀ p : Gq.Out (Gq.growS wv.heap.size (⟨X.st, X.since, yf, yq, (nw + d), vk, vn⟩ : Inst)) wv, p.W.cell? ⟨w.heap.size, 1, none⟩ = some (.int .i64 X.since) := fun p => (((hJv.out.grow p.h.1).1).cells).2.1
        have cx2 : ∀ p : Gq.Out (Gq.growS wv.heap.size (⟨X.st, X.since, yf, yq, (nw + d), vk, vn⟩ : Inst)) wv, p.W.cell? ⟨w.heap.size, 2, none⟩ = some (.int .i64 X.fr) := fun p => (((hJv.out.grow p.h.1).1).cells).2.2.1
        have cx3 : ∀ p : Gq.Out (Gq.growS wv.heap.size (⟨X.st, X.since, yf, yq, (nw + d), vk, vn⟩ : Inst)) wv, p.W.cell? ⟨w.heap.size, 3, none⟩ = some (.int .i64 X.quiet) := fun p => (((hJv.out.grow p.h.1).1).cells).2.2.2.1
        have cx4 : ∀ p : Gq.Out (Gq.growS wv.heap.size (⟨X.st, X.since, yf, yq, (nw + d), vk, vn⟩ : Inst)) wv, p.W.cell? ⟨w.heap.size, 4, none⟩ = some (.int .i64 X.seen) := fun p => (((hJv.out.grow p.h.1).1).cells).2.2.2.2.1
        have cx5 : ∀ p : Gq.Out (Gq.growS wv.heap.size (⟨X.st, X.since, yf, yq, (nw + d), vk, vn⟩ : Inst)) wv, p.W.cell? ⟨w.heap.size, 5, none⟩ = some (.int .i64 X.vk) := fun p => (((hJv.out.grow p.h.1).1).cells).2.2.2.2.2.1
        have cx6 : ∀ p : Gq.Out (Gq.growS wv.heap.size (⟨X.st, X.since, yf, yq, (nw + d), vk, vn⟩ : Inst)) wv, p.W.cell? ⟨w.heap.size, 6, none⟩ = some (.int .i64 X.vn) := fun p => (((hJv.out.grow p.h.1).1).cells).2.2.2.2.2.2
        refine Gq.wp_region_grow (Gq.growS wv.heap.size (⟨X.st, X.since, yf, yq, (nw + d), vk, vn⟩ : Inst)) (Gq.growS_of (Nat.le_refl _) (Below.refl _ _).drew) (fun i => match i with | 13 => some (fun _ u _ => u = .agg #[.int .i64 X.st, .int .i64 X.since, .int .i64 yf, .int .i64 yq, .int .i64 (nw + d), .int .i64 vk, .int .i64 vn]) | 14 => some (fun _ u W => Gq.BoxS wv.heap.size (⟨X.st, X.since, yf, yq, (nw + d), vk, vn⟩ : Inst) u W) | 15 => some (fun vs _ W => Gq.DoneS wv.heap.size (⟨X.st, X.since, yf, yq, (nw + d), vk, vn⟩ : Inst) vs W) | _ => none) ?_ (by kernel_rfl) (by kernel_rfl) ?_
        · intro i s hs vs v W W' h g
          dsimp only at hs; split at hs <;> cases hs <;> first | exact h | exact Gq.BoxS.keep h g | exact Gq.DoneS.keep h g
        refine Gq.wpG_pure rfl rfl rfl rfl (fun KK hK => ?_); go_big_quiet_op; refine hK _ ?_; clear hK KK
        refine Gq.wpG_pure rfl rfl rfl rfl (fun KK hK => ?_); go_big_quiet_op; refine hK _ ?_; clear hK KK
        refine Gq.wpG_pure rfl rfl rfl rfl (fun KK hK => ?_); go_big_quiet_op; refine hK _ ?_; clear hK KK
        refine Gq.wpG_pure rfl rfl rfl rfl (fun KK hK => ?_); go_big_quiet_op; refine hK _ ?_; clear hK KK
        refine Gq.wpG_pure rfl rfl rfl rfl (fun KK hK => ?_); go_big_quiet_op; refine hK _ ?_; clear hK KK
        refine Gq.wpG_pure rfl rfl rfl rfl (fun KK hK => ?_); go_big_quiet_op; refine hK _ ?_; clear hK KK
        refine Gq.wpG_pure rfl rfl rfl rfl (fun KK hK => ?_); go_big_quiet_op; refine hK _ ?_; clear hK KK
        refine Gq.wpG_pure rfl rfl rfl rfl (fun KK hK => ?_); go_big_quiet_op; refine hK _ ?_; clear hK KK
        refine Gq.wpG_pure rfl rfl rfl rfl (fun KK hK => ?_); go_big_quiet_op; refine hK _ ?_; clear hK KK
        refine Gq.wpG_pure rfl rfl rfl rfl (fun KK hK => ?_); go_big_quiet_op; refine hK _ ?_; clear hK KK
        refine Gq.wpG_pure rfl rfl rfl rfl (fun KK hK => ?_); go_big_quiet_op; refine hK _ ?_; clear hK KK
        refine Gq.wpG_pure rfl rfl rfl rfl (fun KK hK => ?_); go_big_quiet_op; refine hK _ ?_; clear hK KK
        refine Gq.wpG_pure rfl rfl rfl rfl (fun KK hK => ?_); go_big_quiet_op; refine hK _ ?_; clear hK KK
        refine Gq.wpG_call (.agg #[.int .i64 X.st, .int .i64 X.since, .int .i64 yf, .int .i64 yq, .int .i64 (nw + d), .int .i64 vk, .int .i64 vn]) rfl rfl rfl (fun W hW => ?_) (fun KK hK => ?_)
        · refine Gq.tell_fn #[.agg #[.int .i64 X.st, .int .i64 X.since, .int .i64 X.fr, .int .i64 X.quiet, .int .i64 X.seen, .int .i64 X.vk, .int .i64 X.vn], .agg #[.int .i64 fo, .int .i64 keep, .int .i64 nd, .int .i64 oe], .int .i64 r, .agg #[.int .i64 vk, .int .i64 vn], .int .i64 (nw + d)] rfl (by simp [Act.eval]) Try.func17 (by kernel_rfl) (by kernel_rfl) ?_
          refine (hst.out W).mono ?_
          rintro e w' ⟨h1, h2⟩
          exact ⟨_, h1, Gq.growS_of (Gq.growS_size (Nat.le_refl _) hW.1.gw) h2, rfl⟩
        go_big_quiet_op; refine hK _ ?_; clear hK KK
        refine Gq.wpG_tell _ rfl rfl rfl rfl (fun W hW => ?_) (fun xa hxa KK hK => ?_)
        · exact Gq.tell_run (.pointer (some ⟨W.heap.size, 0, none⟩)) (W.alloc (.cells #[.int .i64 0, .int .i64 0, .int .i64 0, .int .i64 0, .int .i64 0, .int .i64 0, .int .i64 0] 25)) (by go_simp) (Gq.growS_of (Gq.growS_size (Nat.le_refl _) hW.1.gw) ((Below.refl _ _).alloc (Nat.le_refl _) _)) (Gq.box_new W (Gq.growS_size (Nat.le_refl _) hW.1.gw) (⟨X.st, X.since, yf, yq, (nw + d), vk, vn⟩ : Inst))
        go_big_quiet_op; refine hK _ ?_; clear hK KK
        refine Gq.wpG_tell #[xa, .agg #[.int .i64 X.st, .int .i64 X.since, .int .i64 yf, .int .i64 yq, .int .i64 (nw + d), .int .i64 vk, .int .i64 vn]] rfl rfl rfl (by simp [Op.operands, Act.eval]) (fun W hW => ?_) (fun xs hxs KK hK => ?_)
        · obtain ⟨yb, hyb, rfl, hv⟩ := (hW.2 14 _ rfl (by kernel_rfl)).2 rfl
          refine Gq.tell_skip (set7 W yb (⟨X.st, X.since, yf, yq, (nw + d), vk, vn⟩ : Inst)) ?_ (Gq.store_R hyb hv) (Gq.store_done _ hyb rfl hv)
          rcases hv with hv | hv
          · obtain ⟨v0, v1, v2, v3, v4, v5, v6⟩ := hv.cells
            obtain ⟨u0, u1, u2, u3, u4, u5, u6⟩ := hv.frozen
            go_simp
          · obtain ⟨v0, v1, v2, v3, v4, v5, v6⟩ := hv.cells
            obtain ⟨u0, u1, u2, u3, u4, u5, u6⟩ := hv.frozen
            go_simp
        go_big_quiet_op; refine hK _ ?_; clear hK KK
        refine Gq.wpG_nil (fun W' hW hF => ?_)
        obtain ⟨bt, hbt, he, hbv⟩ := (hF 15).2 rfl
        have he := Option.some.inj he
        subst he
        have hb2 : Below wv.heap.size wv W' := hW.gw.1
        clear hF hW
        have hJc : Hid (LpJ w W' (w.heap.size + 1) w.heap.size fo keep nd oe X) := hJv.out.grow hb2
        have hYc : Hid (IAt W' bt (⟨X.st, X.since, yf, yq, (nw + d), vk, vn⟩ : Inst)) := hbv
        have hgy : Hid (w.heap.size < bt) := Nat.lt_of_lt_of_le hJv.out.1.lt hbt
        clear ch0 ch1 ch2 ch3 ca0 ca1 ca2 ca3 cx0 cx1 cx2 cx3 cx4 cx5 cx6 hst hJv hb2 hbt hbv
        go_wp2
        generalize bt = gy at *
        generalize W' = wc at *
        have ca0 : ∀ p : Bel wc, p.W.cell? ⟨b, oo + k * 4, none⟩ = some (.int .i64 d) := fun p => (hbk.out p.W (hJc.out.grow p.h).2.2.1).1
        have ca1 : ∀ p : Bel wc, p.W.cell? ⟨b, oo + k * 4 + 1, none⟩ = some (.int .i64 r) := fun p => (hbk.out p.W (hJc.out.grow p.h).2.2.1).2.1
        have ca2 : ∀ p : Bel wc, p.W.cell? ⟨b, oo + k * 4 + 2, none⟩ = some (.int .i64 vk) := fun p => (hbk.out p.W (hJc.out.grow p.h).2.2.1).2.2.1
        have ca3 : ∀ p : Bel wc, p.W.cell? ⟨b, oo + k * 4 + 3, none⟩ = some (.int .i64 vn) := fun p => (hbk.out p.W (hJc.out.grow p.h).2.2.1).2.2.2
        have cx0 : ∀ p : Bel wc, p.W.cell? ⟨w.heap.size, 0, none⟩ = some (.int .i64 X.st) := fun p => (((hJc.out.grow p.h).1).cells).1
        have cx1 : ∀ p : Bel wc, p.W.cell? ⟨w.heap.size, 1, none⟩ = some (.int .i64 X.since) := fun p => (((hJc.out.grow p.h).1).cells).2.1
        have cx2 : ∀ p : Bel wc, p.W.cell? ⟨w.heap.size, 2, none⟩ = some (.int .i64 X.fr) := fun p => (((hJc.out.grow p.h).1).cells).2.2.1
        have cx3 : ∀ p : Bel wc, p.W.cell? ⟨w.heap.size, 3, none⟩ = some (.int .i64 X.quiet) := fun p => (((hJc.out.grow p.h).1).cells).2.2.2.1
        have cx4 : ∀ p : Bel wc, p.W.cell? ⟨w.heap.size, 4, none⟩ = some (.int .i64 X.seen) := fun p => (((hJc.out.grow p.h).1).cells).2.2.2.2.1
        have cx5 : ∀ p : Bel wc, p.W.cell? ⟨w.heap.size, 5, none⟩ = some (.int .i64 X.vk) := fun p => (((hJc.out.grow p.h).1).cells).2.2.2.2.2.1
        have cx6 : ∀ p : Bel wc, p.W.cell? ⟨w.heap.size, 6, none⟩ = some (.int .i64 X.vn) := fun p => (((hJc.out.grow p.h).1).cells).2.2.2.2.2.2
        have cy0 : ∀ p : Bel wc, p.W.cell? ⟨gy, 0, none⟩ = some (.int .i64 X.st) := fun p => ((hYc.out.grow p.h).cells).1
        have cy1 : ∀ p : Bel wc, p.W.cell? ⟨gy, 1, none⟩ = some (.int .i64 X.since) := fun p => ((hYc.out.grow p.h).cells).2.1
        have cy2 : ∀ p : Bel wc, p.W.cell? ⟨gy, 2, none⟩ = some (.int .i64 yf) := fun p => ((hYc.out.grow p.h).cells).2.2.1
        have cy3 : ∀ p : Bel wc, p.W.cell? ⟨gy, 3, none⟩ = some (.int .i64 yq) := fun p => ((hYc.out.grow p.h).cells).2.2.2.1
        have cy4 : ∀ p : Bel wc, p.W.cell? ⟨gy, 4, none⟩ = some (.int .i64 (nw + d)) := fun p => ((hYc.out.grow p.h).cells).2.2.2.2.1
        have cy5 : ∀ p : Bel wc, p.W.cell? ⟨gy, 5, none⟩ = some (.int .i64 vk) := fun p => ((hYc.out.grow p.h).cells).2.2.2.2.2.1
        have cy6 : ∀ p : Bel wc, p.W.cell? ⟨gy, 6, none⟩ = some (.int .i64 vn) := fun p => ((hYc.out.grow p.h).cells).2.2.2.2.2.2
        have k11 : ∀ p : Bel wc, Calls Try.prog 11 #[.agg #[.int .i64 X.st, .int .i64 X.since, .int .i64 yf, .int .i64 yq, .int .i64 (nw + d), .int .i64 vk, .int .i64 vn]] p.W fun e w' => e = .returned (.int .i64 0) ∧ Below p.W.heap.size p.W w' := fun p => hchk.out p.W
        have k10 : ∀ p : Bel wc, Calls Try.prog 10 #[.int .i64 0] p.W fun e w' => e = .returned (.int .i64 0) ∧ Below p.W.heap.size p.W w' := fun p => calls_same (num10 0 p.W)
        have hnev : ∀ W, (binOp .neq 23 (.agg #[.int .i64 vk, .int .i64 vn]) (.agg #[.int .i64 vk, .int .i64 vn])).run Try.prog W = .ok (.bool false) W := fun W => neqV vk vn W
        have e4 : (nw + d != nw + d) = false := by simp
        have e1 : (X.st != X.st) = false := by simp
        have e2 : (X.st == X.st) = true := by simp
        have e3 : (X.since != X.since) = false := by simp
        refine wp_region_bel (by kernel_rfl) (by kernel_rfl) ?_
        repeat (go_big_quiet_step (first | (go_at_call 11; exact Calls.bel (k11 _)) | (go_at_call 10; exact Calls.bel (k10 _))))
        refine wpQuiet_nil ?_
        rintro wd ⟨⟨wz, hq⟩, rfl⟩
        have hJd : Hid (LpJ w wd (w.heap.size + 1) w.heap.size fo keep nd oe X) := hJc.out.grow hq
        have hYd : Hid (IAt wd gy (⟨X.st, X.since, yf, yq, (nw + d), vk, vn⟩ : Inst)) := hYc.out.grow hq
        have hJe : Hid (LpJ w ((((((((wd.setCell ⟨w.heap.size, 0, none⟩ (.int .i64 X.st)).setCell ⟨w.heap.size, 1, none⟩ (.int .i64 X.since)).setCell ⟨w.heap.size, 2, none⟩ (.int .i64 yf)).setCell ⟨w.heap.size, 3, none⟩ (.int .i64 yq)).setCell ⟨w.heap.size, 4, none⟩ (.int .i64 (nw + d))).setCell ⟨w.heap.size, 5, none⟩ (.int .i64 vk)).setCell ⟨w.heap.size, 6, none⟩ (.int .i64 vn))) (w.heap.size + 1) w.heap.size fo keep nd oe (⟨X.st, X.since, yf, yq, (nw + d), vk, vn⟩ : Inst)) := LpJ.set (W := wd) (g := w.heap.size) (Y := (⟨X.st, X.since, yf, yq, (nw + d), vk, vn⟩ : Inst)) hJd.out
        clear hq ca0 ca1 ca2 ca3 cx0 cx1 cx2 cx3 cx4 cx5 cx6 cy0 cy1 cy2 cy3 cy4 cy5 cy6 k11 k10 hchk
        obtain ⟨f0, f1, f2, f3, f4, f5, f6⟩ := hJd.out.1.frozen
        obtain ⟨p0, p1, p2, p3, p4, p5, p6⟩ := hJd.out.1.cells
        obtain ⟨q0, q1, q2, q3, q4, q5, q6⟩ := hYd.out.cells
        go_wp2
        go_roundw
        case rel => exact ⟨k + 1, nw + d, (⟨X.st, X.since, yf, yq, (nw + d), vk, vn⟩ : Inst), by omega, rfl, by go_num, hnb, hI3, hJe⟩
        case measure => simp [intOf]; omega
      · have hys3 : Hid (¬ ys = X.st) := by show ¬ _; rw [← hys2]; exact hys
        replace hys : Hid (¬ (stepI X ⟨fo, keep, nd, oe⟩ r vk vn (nw + d)).st = X.st) := hys
        have hY : Hid (stepI X ⟨fo, keep, nd, oe⟩ r vk vn (nw + d) = (⟨ys, (nw + d), yf, yq, (nw + d), vk, vn⟩ : Inst)) := by
          have h1 := hsn.out
          have h2 := hse.out
          have h3 := hys.out
          generalize stepI X ⟨fo, keep, nd, oe⟩ r vk vn (nw + d) = z at *
          obtain ⟨z1, z2, z3, z4, z5, z6, z7⟩ := z
          simp only at h1 h2 h3 hys2 hyf hyq
          obtain ⟨h2, h4, h5⟩ := h2
          show _ = _
          rw [if_neg h3] at h1
          subst h1 h2 h4 h5 hyf hyq
          rw [hys2]
        rw [hY.out] at hst hI3 hchk
        clear hY hsn hse hyf hyq hys2
        replace hst : Hid (∀ W, Calls Try.prog 17 #[.agg #[.int .i64 X.st, .int .i64 X.since, .int .i64 X.fr, .int .i64 X.quiet, .int .i64 X.seen, .int .i64 X.vk, .int .i64 X.vn], .agg #[.int .i64 fo, .int .i64 keep, .int .i64 nd, .int .i64 oe], .int .i64 r, .agg #[.int .i64 vk, .int .i64 vn], .int .i64 (nw + d)] W fun e w' => e = .returned (.agg #[.int .i64 ys, .int .i64 (nw + d), .int .i64 yf, .int .i64 yq, .int .i64 (nw + d), .int .i64 vk, .int .i64 vn]) ∧ Below W.heap.size W w') := hst
        replace hchk : Hid (∀ W, Calls Try.prog 11 #[.agg #[.int .i64 ys, .int .i64 (nw + d), .int .i64 yf, .int .i64 yq, .int .i64 (nw + d), .int .i64 vk, .int .i64 vn]] W fun e w' => e = .returned (.int .i64 0) ∧ Below W.heap.size W w') := hchk
        go_wp2_with (first | (go_at_call 21; refine (hv21.out _).mono ?_; rintro e wv ⟨rfl, hwv⟩; have hJv0 : LpJ w wv (w.heap.size + 1) w.heap.size fo keep nd oe X := (by rw [hwv]; exact hJ.out.grow (bW0 _ _)); have hJv : Hid (LpJ w wv (w.heap.size + 1) w.heap.size fo keep nd oe X) := hJv0; clear hJv0 hwv; have hyv := hbk.out wv hJv.out.2.2.1))
        clear hyv x0 x1 x2 x3 hv21
        have ch0 : ∀ p : Gq.Out (Gq.growS wv.heap.size (⟨ys, (nw + d), yf, yq, (nw + d), vk, vn⟩ : Inst)) wv, p.W.cell? ⟨w.heap.size + 1, 0, none⟩ = some (.int .i64 fo) := fun p => (hd_cell (hJv.out.grow p.h.1).2.1).1
        have ch1 : ∀ p : Gq.Out (Gq.growS wv.heap.size (⟨ys, (nw + d), yf, yq, (nw + d), vk, vn⟩ : Inst)) wv, p.W.cell? ⟨w.heap.size + 1, 1, none⟩ = some (.int .i64 keep) := fun p => (hd_cell (hJv.out.grow p.h.1).2.1).2.1
        have ch2 : ∀ p : Gq.Out (Gq.growS wv.heap.size (⟨ys, (nw + d), yf, yq, (nw + d), vk, vn⟩ : Inst)) wv, p.W.cell? ⟨w.heap.size + 1, 2, none⟩ = some (.int .i64 nd) := fun p => (hd_cell (hJv.out.grow p.h.1).2.1).2.2.1
        have ch3 : ∀ p : Gq.Out (Gq.growS wv.heap.size (⟨ys, (nw + d), yf, yq, (nw + d), vk, vn⟩ : Inst)) wv, p.W.cell? ⟨w.heap.size + 1, 3, none⟩ = some (.int .i64 oe) := fun p => (hd_cell (hJv.out.grow p.h.1).2.1).2.2.2
        have ca0 : ∀ p : Gq.Out (Gq.growS wv.heap.size (⟨ys, (nw + d), yf, yq, (nw + d), vk, vn⟩ : Inst)) wv, p.W.cell? ⟨b, oo + k * 4, none⟩ = some (.int .i64 d) := fun p => (hbk.out p.W (hJv.out.grow p.h.1).2.2.1).1
        have ca1 : ∀ p : Gq.Out (Gq.growS wv.heap.size (⟨ys, (nw + d), yf, yq, (nw + d), vk, vn⟩ : Inst)) wv, p.W.cell? ⟨b, oo + k * 4 + 1, none⟩ = some (.int .i64 r) := fun p => (hbk.out p.W (hJv.out.grow p.h.1).2.2.1).2.1
        have ca2 : ∀ p : Gq.Out (Gq.growS wv.heap.size (⟨ys, (nw + d), yf, yq, (nw + d), vk, vn⟩ : Inst)) wv, p.W.cell? ⟨b, oo + k * 4 + 2, none⟩ = some (.int .i64 vk) := fun p => (hbk.out p.W (hJv.out.grow p.h.1).2.2.1).2.2.1
        have ca3 : ∀ p : Gq.Out (Gq.growS wv.heap.size (⟨ys, (nw + d), yf, yq, (nw + d), vk, vn⟩ : Inst)) wv, p.W.cell? ⟨b, oo + k * 4 + 3, none⟩ = some (.int .i64 vn) := fun p => (hbk.out p.W (hJv.out.grow p.h.1).2.2.1).2.2.2
        have cx0 : ∀ p : Gq.Out (Gq.growS wv.heap.size (⟨ys, (nw + d), yf, yq, (nw + d), vk, vn⟩ : Inst)) wv, p.W.cell? ⟨w.heap.size, 0, none⟩ = some (.int .i64 X.st) := fun p => (((hJv.out.grow p.h.1).1).cells).1
        have cx1 : ∀ p : Gq.Out (Gq.growS wv.heap.size (⟨ys, (nw + d), yf, yq, (nw + d), vk, vn⟩ : Inst)) wv, p.W.cell? ⟨w.heap.size, 1, none⟩ = some (.int .i64 X.since) := fun p => (((hJv.out.grow p.h.1).1).cells).2.1
        have cx2 : ∀ p : Gq.Out (Gq.growS wv.heap.size (⟨ys, (nw + d), yf, yq, (nw + d), vk, vn⟩ : Inst)) wv, p.W.cell? ⟨w.heap.size, 2, none⟩ = some (.int .i64 X.fr) := fun p => (((hJv.out.grow p.h.1).1).cells).2.2.1
        have cx3 : ∀ p : Gq.Out (Gq.growS wv.heap.size (⟨ys, (nw + d), yf, yq, (nw + d), vk, vn⟩ : Inst)) wv, p.W.cell? ⟨w.heap.size, 3, none⟩ = some (.int .i64 X.quiet) := fun p => (((hJv.out.grow p.h.1).1).cells).2.2.2.1
        have cx4 : ∀ p : Gq.Out (Gq.growS wv.heap.size (⟨ys, (nw + d), yf, yq, (nw + d), vk, vn⟩ : Inst)) wv, p.W.cell? ⟨w.heap.size, 4, none⟩ = some (.int .i64 X.seen) := fun p => (((hJv.out.grow p.h.1).1).cells).2.2.2.2.1
        have cx5 : ∀ p : Gq.Out (Gq.growS wv.heap.size (⟨ys, (nw + d), yf, yq, (nw + d), vk, vn⟩ : Inst)) wv, p.W.cell? ⟨w.heap.size, 5, none⟩ = some (.int .i64 X.vk) := fun p => (((hJv.out.grow p.h.1).1).cells).2.2.2.2.2.1
        have cx6 : ∀ p : Gq.Out (Gq.growS wv.heap.size (⟨ys, (nw + d), yf, yq, (nw + d), vk, vn⟩ : Inst)) wv, p.W.cell? ⟨w.heap.size, 6, none⟩ = some (.int .i64 X.vn) := fun p => (((hJv.out.grow p.h.1).1).cells).2.2.2.2.2.2
        refine Gq.wp_region_grow (Gq.growS wv.heap.size (⟨ys, (nw + d), yf, yq, (nw + d), vk, vn⟩ : Inst)) (Gq.growS_of (Nat.le_refl _) (Below.refl _ _).drew) (fun i => match i with | 13 => some (fun _ u _ => u = .agg #[.int .i64 ys, .int .i64 (nw + d), .int .i64 yf, .int .i64 yq, .int .i64 (nw + d), .int .i64 vk, .int .i64 vn]) | 14 => some (fun _ u W => Gq.BoxS wv.heap.size (⟨ys, (nw + d), yf, yq, (nw + d), vk, vn⟩ : Inst) u W) | 15 => some (fun vs _ W => Gq.DoneS wv.heap.size (⟨ys, (nw + d), yf, yq, (nw + d), vk, vn⟩ : Inst) vs W) | _ => none) ?_ (by kernel_rfl) (by kernel_rfl) ?_
        · intro i s hs vs v W W' h g
          dsimp only at hs; split at hs <;> cases hs <;> first | exact h | exact Gq.BoxS.keep h g | exact Gq.DoneS.keep h g
        refine Gq.wpG_pure rfl rfl rfl rfl (fun KK hK => ?_); go_big_quiet_op; refine hK _ ?_; clear hK KK
        refine Gq.wpG_pure rfl rfl rfl rfl (fun KK hK => ?_); go_big_quiet_op; refine hK _ ?_; clear hK KK
        refine Gq.wpG_pure rfl rfl rfl rfl (fun KK hK => ?_); go_big_quiet_op; refine hK _ ?_; clear hK KK
        refine Gq.wpG_pure rfl rfl rfl rfl (fun KK hK => ?_); go_big_quiet_op; refine hK _ ?_; clear hK KK
        refine Gq.wpG_pure rfl rfl rfl rfl (fun KK hK => ?_); go_big_quiet_op; refine hK _ ?_; clear hK KK
        refine Gq.wpG_pure rfl rfl rfl rfl (fun KK hK => ?_); go_big_quiet_op; refine hK _ ?_; clear hK KK
        refine Gq.wpG_pure rfl rfl rfl rfl (fun KK hK => ?_); go_big_quiet_op; refine hK _ ?_; clear hK KK
        refine Gq.wpG_pure rfl rfl rfl rfl (fun KK hK => ?_); go_big_quiet_op; refine hK _ ?_; clear hK KK
        refine Gq.wpG_pure rfl rfl rfl rfl (fun KK hK => ?_); go_big_quiet_op; refine hK _ ?_; clear hK KK
        refine Gq.wpG_pure rfl rfl rfl rfl (fun KK hK => ?_); go_big_quiet_op; refine hK _ ?_; clear hK KK
        refine Gq.wpG_pure rfl rfl rfl rfl (fun KK hK => ?_); go_big_quiet_op; refine hK _ ?_; clear hK KK
        refine Gq.wpG_pure rfl rfl rfl rfl (fun KK hK => ?_); go_big_quiet_op; refine hK _ ?_; clear hK KK
        refine Gq.wpG_pure rfl rfl rfl rfl (fun KK hK => ?_); go_big_quiet_op; refine hK _ ?_; clear hK KK
        refine Gq.wpG_call (.agg #[.int .i64 ys, .int .i64 (nw + d), .int .i64 yf, .int .i64 yq, .int .i64 (nw + d), .int .i64 vk, .int .i64 vn]) rfl rfl rfl (fun W hW => ?_) (fun KK hK => ?_)
        · refine Gq.tell_fn #[.agg #[.int .i64 X.st, .int .i64 X.since, .int .i64 X.fr, .int .i64 X.quiet, .int .i64 X.seen, .int .i64 X.vk, .int .i64 X.vn], .agg #[.int .i64 fo, .int .i64 keep, .int .i64 nd, .int .i64 oe], .int .i64 r, .agg #[.int .i64 vk, .int .i64 vn], .int .i64 (nw + d)] rfl (by simp [Act.eval]) Try.func17 (by kernel_rfl) (by kernel_rfl) ?_
          refine (hst.out W).mono ?_
          rintro e w' ⟨h1, h2⟩
          exact ⟨_, h1, Gq.growS_of (Gq.growS_size (Nat.le_refl _) hW.1.gw) h2, rfl⟩
        go_big_quiet_op; refine hK _ ?_; clear hK KK
        refine Gq.wpG_tell _ rfl rfl rfl rfl (fun W hW => ?_) (fun xa hxa KK hK => ?_)
        · exact Gq.tell_run (.pointer (some ⟨W.heap.size, 0, none⟩)) (W.alloc (.cells #[.int .i64 0, .int .i64 0, .int .i64 0, .int .i64 0, .int .i64 0, .int .i64 0, .int .i64 0] 25)) (by go_simp) (Gq.growS_of (Gq.growS_size (Nat.le_refl _) hW.1.gw) ((Below.refl _ _).alloc (Nat.le_refl _) _)) (Gq.box_new W (Gq.growS_size (Nat.le_refl _) hW.1.gw) (⟨ys, (nw + d), yf, yq, (nw + d), vk, vn⟩ : Inst))
        go_big_quiet_op; refine hK _ ?_; clear hK KK
        refine Gq.wpG_tell #[xa, .agg #[.int .i64 ys, .int .i64 (nw + d), .int .i64 yf, .int .i64 yq, .int .i64 (nw + d), .int .i64 vk, .int .i64 vn]] rfl rfl rfl (by simp [Op.operands, Act.eval]) (fun W hW => ?_) (fun xs hxs KK hK => ?_)
        · obtain ⟨yb, hyb, rfl, hv⟩ := (hW.2 14 _ rfl (by kernel_rfl)).2 rfl
          refine Gq.tell_skip (set7 W yb (⟨ys, (nw + d), yf, yq, (nw + d), vk, vn⟩ : Inst)) ?_ (Gq.store_R hyb hv) (Gq.store_done _ hyb rfl hv)
          rcases hv with hv | hv
          · obtain ⟨v0, v1, v2, v3, v4, v5, v6⟩ := hv.cells
            obtain ⟨u0, u1, u2, u3, u4, u5, u6⟩ := hv.frozen
            go_simp
          · obtain ⟨v0, v1, v2, v3, v4, v5, v6⟩ := hv.cells
            obtain ⟨u0, u1, u2, u3, u4, u5, u6⟩ := hv.frozen
            go_simp
        go_big_quiet_op; refine hK _ ?_; clear hK KK
        refine Gq.wpG_nil (fun W' hW hF => ?_)
        obtain ⟨bt, hbt, he, hbv⟩ := (hF 15).2 rfl
        have he := Option.some.inj he
        subst he
        have hb2 : Below wv.heap.size wv W' := hW.gw.1
        clear hF hW
        have hJc : Hid (LpJ w W' (w.heap.size + 1) w.heap.size fo keep nd oe X) := hJv.out.grow hb2
        have hYc : Hid (IAt W' bt (⟨ys, (nw + d), yf, yq, (nw + d), vk, vn⟩ : Inst)) := hbv
        have hgy : Hid (w.heap.size < bt) := Nat.lt_of_lt_of_le hJv.out.1.lt hbt
        clear ch0 ch1 ch2 ch3 ca0 ca1 ca2 ca3 cx0 cx1 cx2 cx3 cx4 cx5 cx6 hst hJv hb2 hbt hbv
        go_wp2
        generalize bt = gy at *
        generalize W' = wc at *
        have ca0 : ∀ p : Bel wc, p.W.cell? ⟨b, oo + k * 4, none⟩ = some (.int .i64 d) := fun p => (hbk.out p.W (hJc.out.grow p.h).2.2.1).1
        have ca1 : ∀ p : Bel wc, p.W.cell? ⟨b, oo + k * 4 + 1, none⟩ = some (.int .i64 r) := fun p => (hbk.out p.W (hJc.out.grow p.h).2.2.1).2.1
        have ca2 : ∀ p : Bel wc, p.W.cell? ⟨b, oo + k * 4 + 2, none⟩ = some (.int .i64 vk) := fun p => (hbk.out p.W (hJc.out.grow p.h).2.2.1).2.2.1
        have ca3 : ∀ p : Bel wc, p.W.cell? ⟨b, oo + k * 4 + 3, none⟩ = some (.int .i64 vn) := fun p => (hbk.out p.W (hJc.out.grow p.h).2.2.1).2.2.2
        have cx0 : ∀ p : Bel wc, p.W.cell? ⟨w.heap.size, 0, none⟩ = some (.int .i64 X.st) := fun p => (((hJc.out.grow p.h).1).cells).1
        have cx1 : ∀ p : Bel wc, p.W.cell? ⟨w.heap.size, 1, none⟩ = some (.int .i64 X.since) := fun p => (((hJc.out.grow p.h).1).cells).2.1
        have cx2 : ∀ p : Bel wc, p.W.cell? ⟨w.heap.size, 2, none⟩ = some (.int .i64 X.fr) := fun p => (((hJc.out.grow p.h).1).cells).2.2.1
        have cx3 : ∀ p : Bel wc, p.W.cell? ⟨w.heap.size, 3, none⟩ = some (.int .i64 X.quiet) := fun p => (((hJc.out.grow p.h).1).cells).2.2.2.1
        have cx4 : ∀ p : Bel wc, p.W.cell? ⟨w.heap.size, 4, none⟩ = some (.int .i64 X.seen) := fun p => (((hJc.out.grow p.h).1).cells).2.2.2.2.1
        have cx5 : ∀ p : Bel wc, p.W.cell? ⟨w.heap.size, 5, none⟩ = some (.int .i64 X.vk) := fun p => (((hJc.out.grow p.h).1).cells).2.2.2.2.2.1
        have cx6 : ∀ p : Bel wc, p.W.cell? ⟨w.heap.size, 6, none⟩ = some (.int .i64 X.vn) := fun p => (((hJc.out.grow p.h).1).cells).2.2.2.2.2.2
        have cy0 : ∀ p : Bel wc, p.W.cell? ⟨gy, 0, none⟩ = some (.int .i64 ys) := fun p => ((hYc.out.grow p.h).cells).1
        have cy1 : ∀ p : Bel wc, p.W.cell? ⟨gy, 1, none⟩ = some (.int .i64 (nw + d)) := fun p => ((hYc.out.grow p.h).cells).2.1
        have cy2 : ∀ p : Bel wc, p.W.cell? ⟨gy, 2, none⟩ = some (.int .i64 yf) := fun p => ((hYc.out.grow p.h).cells).2.2.1
        have cy3 : ∀ p : Bel wc, p.W.cell? ⟨gy, 3, none⟩ = some (.int .i64 yq) := fun p => ((hYc.out.grow p.h).cells).2.2.2.1
        have cy4 : ∀ p : Bel wc, p.W.cell? ⟨gy, 4, none⟩ = some (.int .i64 (nw + d)) := fun p => ((hYc.out.grow p.h).cells).2.2.2.2.1
        have cy5 : ∀ p : Bel wc, p.W.cell? ⟨gy, 5, none⟩ = some (.int .i64 vk) := fun p => ((hYc.out.grow p.h).cells).2.2.2.2.2.1
        have cy6 : ∀ p : Bel wc, p.W.cell? ⟨gy, 6, none⟩ = some (.int .i64 vn) := fun p => ((hYc.out.grow p.h).cells).2.2.2.2.2.2
        have k11 : ∀ p : Bel wc, Calls Try.prog 11 #[.agg #[.int .i64 ys, .int .i64 (nw + d), .int .i64 yf, .int .i64 yq, .int .i64 (nw + d), .int .i64 vk, .int .i64 vn]] p.W fun e w' => e = .returned (.int .i64 0) ∧ Below p.W.heap.size p.W w' := fun p => hchk.out p.W
        have k10 : ∀ p : Bel wc, Calls Try.prog 10 #[.int .i64 0] p.W fun e w' => e = .returned (.int .i64 0) ∧ Below p.W.heap.size p.W w' := fun p => calls_same (num10 0 p.W)
        have hnev : ∀ W, (binOp .neq 23 (.agg #[.int .i64 vk, .int .i64 vn]) (.agg #[.int .i64 vk, .int .i64 vn])).run Try.prog W = .ok (.bool false) W := fun W => neqV vk vn W
        have e4 : (nw + d != nw + d) = false := by simp
        have e1 : (ys != X.st) = true := by simpa using hys3.out
        have e2 : (ys == X.st) = false := by simpa using hys3.out
        refine wp_region_bel (by kernel_rfl) (by kernel_rfl) ?_
        repeat (go_big_quiet_step (first | (go_at_call 11; exact Calls.bel (k11 _)) | (go_at_call 10; exact Calls.bel (k10 _))))
        refine wpQuiet_nil ?_
        rintro wd ⟨⟨wz, hq⟩, rfl⟩
        have hJd : Hid (LpJ w wd (w.heap.size + 1) w.heap.size fo keep nd oe X) := hJc.out.grow hq
        have hYd : Hid (IAt wd gy (⟨ys, (nw + d), yf, yq, (nw + d), vk, vn⟩ : Inst)) := hYc.out.grow hq
        have hJe : Hid (LpJ w ((((((((wd.setCell ⟨w.heap.size, 0, none⟩ (.int .i64 ys)).setCell ⟨w.heap.size, 1, none⟩ (.int .i64 (nw + d))).setCell ⟨w.heap.size, 2, none⟩ (.int .i64 yf)).setCell ⟨w.heap.size, 3, none⟩ (.int .i64 yq)).setCell ⟨w.heap.size, 4, none⟩ (.int .i64 (nw + d))).setCell ⟨w.heap.size, 5, none⟩ (.int .i64 vk)).setCell ⟨w.heap.size, 6, none⟩ (.int .i64 vn))) (w.heap.size + 1) w.heap.size fo keep nd oe (⟨ys, (nw + d), yf, yq, (nw + d), vk, vn⟩ : Inst)) := LpJ.set (W := wd) (g := w.heap.size) (Y := (⟨ys, (nw + d), yf, yq, (nw + d), vk, vn⟩ : Inst)) hJd.out
        clear hq ca0 ca1 ca2 ca3 cx0 cx1 cx2 cx3 cx4 cx5 cx6 cy0 cy1 cy2 cy3 cy4 cy5 cy6 k11 k10 hchk
        obtain ⟨f0, f1, f2, f3, f4, f5, f6⟩ := hJd.out.1.frozen
        obtain ⟨p0, p1, p2, p3, p4, p5, p6⟩ := hJd.out.1.cells
        obtain ⟨q0, q1, q2, q3, q4, q5, q6⟩ := hYd.out.cells
        go_wp2
        go_roundw
        case rel => exact ⟨k + 1, nw + d, (⟨ys, (nw + d), yf, yq, (nw + d), vk, vn⟩ : Inst), by omega, rfl, by go_num, hnb, hI3, hJe⟩
        case measure => simp [intOf]; omega
    · obtain rfl : k = n := by omega
      have hki : ¬ (k : Int) < (k : Int) := by omega
      go_wp2_with (first | (go_at_call 9; refine (hlive _).mono ?_; rintro e w2 ⟨rfl, hb2⟩; have hE2 : Hid (Below w.heap.size w w2) := hB.out.trans (hb2.mono hB.out.size)))
      go_ret
      exact ⟨rfl, hE2.out⟩
/-! ### THE ROW's STEP -/
set_option maxRecDepth 100000 in
theorem lifted (os : Os) (started : os.Started) (H : Type) (enc : TypeId × Value → H) :
    ReturnsInHanded {} Try.checked os 5 .any (Rows.stateRightSpec.pre6 enc Try.prog Try.f5 Rows.stateRightRow.domain false) (Rows.stateRightSpec.post enc Try.prog Try.f5 false true false false) := by
  refine returnsInHanded_of_change_sized (C := Try.checked) own started (by kernel_rfl) Try.func5
    (ChangeSpec.witness6 (enc := enc) (C := Try.checked) false ⟨#[], #[.agg #[.int .i64 0, .int .i64 0, .int .i64 0, .int .i64 0, .int .i64 0, .int .i64 0, .int .i64 0], .agg #[.int .i64 0, .int .i64 0, .int .i64 0, .int .i64 0], .slice none 0 0], []⟩ 8 (by kernel_rfl) (by kernel_rfl) (by kernel_rfl) (by kernel_rfl)) ?_
  intro W base args ds gs before hval0 hW hcnd hsz0 _
  have hsz : (DataW.weightsEach Try.prog (Try.f5.params.toList ++ Rows.stateRightSpec.plain.varTypes Try.prog) (ds ++ gs)).all (· ≤ reachBytes) = true := hsz0
  have hval : ∀ (j : Nat) t v, Try.f5.params[j]? = some t → args[j]? = some v → Value.okWide Try.prog W .any base t v := hval0
  have hW' := hW
  obtain ⟨p, q, hA0, hV, rfl, hfz, hnd⟩ := hW
  have hA : DataW.TrodAll enc Try.prog W 0 (fun _ => true) true Try.f5.params.toList args.toList ds p := hA0
  rw [Try.params5] at hA hval hsz
  obtain ⟨v0, vs0, d0, ds0, p0, q0, hargs, rfl, rfl, h0, r0⟩ := trodAll_cons hA
  obtain ⟨v1, vs1, d1, ds1, p1, q1, rfl, rfl, rfl, h1, r1⟩ := trodAll_cons r0
  obtain ⟨v2, vs2, d2, ds2, p2, q2, rfl, rfl, rfl, h2, r2⟩ := trodAll_cons r1
  obtain ⟨rfl, rfl, rfl⟩ := trodAll_nil r2
  obtain rfl : args = #[v0, v1, v2] := by cases args; simp_all
  obtain ⟨rfl, rfl⟩ := trodVars_none hV
  have k0 := h0
  have lt0 : ∀ x ∈ p0, x.block < W.heap.size := by obtain ⟨m, hm⟩ := k0; exact DataW.trod_lt m _ _ _ hm
  obtain ⟨m0, rfl, hR0⟩ : ∃ x : Inst, v0 = encI x ∧ InsIn x := by
    obtain ⟨fuel, hf⟩ := h0
    exact ins_arg (hval 0 25 v0 rfl rfl) hf
  have k1 := h1
  have lt1 : ∀ x ∈ p1, x.block < W.heap.size := by obtain ⟨m, hm⟩ := k1; exact DataW.trod_lt m _ _ _ hm
  obtain ⟨m1, rfl, hR1⟩ : ∃ x : Hd, v1 = encH x ∧ HolIn x := by
    obtain ⟨fuel, hf⟩ := h1
    exact hol_arg (hval 1 27 v1 rfl rfl) hf
  have k2 := h2
  have lt2 : ∀ x ∈ p2, x.block < W.heap.size := by obtain ⟨m, hm⟩ := k2; exact DataW.trod_lt m _ _ _ hm
  obtain ⟨a2, n2, c2, rfl⟩ := okWide_slice Try.underlying28 (hval 2 28 v2 rfl rfl)
  obtain ⟨l2, hP2, hR2, hL2⟩ : ∃ l, Acs W (.slice a2 n2 c2) l ∧ (∀ p ∈ l, AcIn p) ∧ l.length ≤ 4398046510976 := by
    obtain ⟨fuel, hf⟩ := h2
    refine acs_of_trod hf (fun q hq => ?_)
    have := List.all_eq_true.1 hsz _ (DataW.weights_mem_each (j := 2) (t := 28) rfl rfl q hq)
    simpa using this
  clear hA0 hval0
  refine (walk m0 m1 (.slice a2 n2 c2) l2 W hR0 hR1 hP2 hR2 hL2).mono fun e W' ⟨he, bel⟩ => ?_
  subst he
  exact ⟨_, rfl, _, _, _, [], _, [], hW', trodAll_mk1 (shut_bool Try.underlying4 _), (trodAll_cons_mk (Below.trod laidOut (by kernel_rfl) (of_decide_eq_true (by kernel_rfl)) k0 bel lt0) (trodAll_cons_mk (Below.trod laidOut (by kernel_rfl) (of_decide_eq_true (by kernel_rfl)) k1 bel lt1) (trodAll_cons_mk (Below.trod laidOut (by kernel_rfl) (of_decide_eq_true (by kernel_rfl)) k2 bel lt2) trodAll_mk0))), rfl, bel.frame _, fun h => by cases h⟩
theorem over : Rows.stateRightRow.holds Try.pinned (OpenSpec.ofChange Rows.stateRightSpec) :=
  OpenClaim.holds_of_wide 5 Try.f5 rfl rfl rfl rfl rfl rfl rfl ⟨rfl, rfl, rfl, rfl, rfl⟩ rfl rfl rfl rfl rfl (by kernel_rfl) Try.func5 (by kernel_rfl)
    (of_decide_eq_true (by kernel_rfl)) (by unfold Func.isWrapper; first | (rw [if_pos (by decide +kernel)]; kernel_rfl) | (rw [if_neg (by decide +kernel)]; exact ⟨rfl, rfl⟩))
    (fun os started H enc _ => lifted os started H enc)
end Go.Proofs.Ytcfhpndoaiknhaa.stateRight
namespace Go.Proofs.Ytcfhpndoaiknhaa
/-- The statement. -/
theorem stateRight_holds : Rows.StateRightSaid := stateRight.over
#print axioms stateRight_holds
end Go.Proofs.Ytcfhpndoaiknhaa
