/-
  a job whose Last is each time at which it was due is due just at its moments; whatever is skipped, it is due once.
-/
import Derived.Test.YtnbhnnjgnojgbaaRows
import Derived.WalkKit
import Derived.ProofKit
import Derived.OpenShut
import Derived.ShutString
import Derived.ChangeOld
import Derived.Below
import Derived.SizedLaws
import Derived.Test.YtnbhnnjgnojgbaaMo
namespace Go.Proofs.Ytnbhnnjgnojgbaa.schedMoments
open Go.ChangeShapes Go.WideShapes Go.ChangeAt Go.RowKit
open Go.ChangeMaps (open_string shut_string)
set_option linter.unusedVariables false
theorem own : ownKnob Try.prog.godebug = none := by kernel_rfl
theorem laidOut : laidOutB Try.prog = true := by kernel_rfl
set_option maxRecDepth 100000 in
set_option maxHeartbeats 4000000 in
theorem walk (j : Jb) (fr : Int) (gv : Value) (gaps : List Int) (w : World) (hj : JobIn j) (hfr : I64 fr) (hg : Ins w gv gaps) (hg64 : ∀ p ∈ gaps, I64 p) (hgl : gaps.length ≤ 17592186043904) :
    Calls Try.prog 4 #[encJ j, .int .i64 fr, gv] w fun e w' => e = .returned (.bool true) ∧ Below w.heap.size w w' := by
  obtain ⟨ga, gc, rfl⟩ := hg.shape
  obtain ⟨W1, hW1⟩ : ∃ W1, W1 = w.alloc (.cells #[.string j.fo, .string j.gr, .int .i64 j.id, .int .i64 j.iv, .int .i64 j.off, .bool j.pa, .int .i64 j.la] 27) := ⟨_, rfl⟩
  have hb0 : Hid (Below w.heap.size w W1) := by rw [hW1]; exact (Below.refl _ w).alloc (Nat.le_refl _) _
  have hJ : JAt W1 w.heap.size j := by rw [hW1]; exact jNew w j
  have hL := fun W => live8 W
  have hsm : ∀ W, Calls Try.prog 7 #[.slice (some ⟨W.heap.size, 0, none⟩) 1 1, .int .i64 fr] (W.alloc (jO j)) fun e w' => e = .returned (.bool (smB [j] fr)) ∧ Below W.heap.size W w' := fun W => by
    have hb : Below W.heap.size W (W.alloc (jO j)) := (Below.refl _ W).alloc (Nat.le_refl _) _
    refine (small7 _ [j] fr _ (jbs_one W j) (JobIn.sz (by simpa using hj))).mono ?_
    rintro e w' ⟨rfl, hB⟩
    exact ⟨rfl, hb.trans (hB.mono hb.size)⟩
  unfold jO at hsm
  have c := fun W (hW : Below W1.heap.size W1 W) => (hJ.grow hW).cells
  have hB0 : Below W1.heap.size W1 W1 := Below.refl _ _
  obtain ⟨j0, j1, j2, j3, j4, j5, j6⟩ := c W1 hB0
  have hs1 := hsm W1
  clear hsm
  cases h0 : smB [j] fr with
  | false =>
    unfold encJ
    rw [h0] at hs1
    go_enter Try.func4, Try.ntmps4
    go_upto_region 1 with fail
    rw [← hW1]
    clear hW1
    go_wp2_with (first
      | (go_at_call 7; refine hs1.mono ?_; rintro e w2 ⟨rfl, hb2⟩; replace hB0 := hB0.trans (hb2.mono hB0.size))
      | (go_at_call 8; refine (hL _).mono ?_; rintro e w3 ⟨rfl, hb3⟩; replace hB0 := hB0.trans (hb3.mono hB0.size)))
    go_ret
    exact ⟨rfl, hb0.out.trans (hB0.mono hb0.out.size)⟩
  | true =>
    rw [h0] at hs1
    obtain ⟨_, hok, _, n0, _⟩ := smB_yes h0
    have hoj : Hid (Ok j) := hok j (by simp)
    have hiv : 1 ≤ j.iv ∧ j.iv ≤ 86400 ∧ 0 ≤ j.off ∧ j.off < j.iv := ⟨hoj.out.1, hoj.out.2.1, hoj.out.2.2.1, hoj.out.2.2.2.1⟩
    clear hok hj hfr
    by_cases h1 : gaps.length ≤ 60 ∧ fr ≤ 549755813888 ∧ j.iv ≤ 1000
    · obtain ⟨i1, i2, i3⟩ := h1
      have q1 : ¬ (60 : Int) < (gaps.length : Int) := by omega
      have q2 : ¬ (549755813888 : Int) < fr := by omega
      have q3 : ¬ (1000 : Int) < j.iv := by omega
      unfold encJ
      go_enter Try.func4, Try.ntmps4
      go_upto_region 1 with fail
      rw [← hW1]
      clear hW1
      go_upto_region 3 with (go_at_call 7; refine hs1.mono ?_; rintro e w2 ⟨rfl, hb2⟩; replace hB0 := hB0.trans (hb2.mono hB0.size); obtain ⟨j0, j1, j2, j3, j4, j5, j6⟩ := c _ hB0)
      have hJ2 : Hid (JAt w2 w.heap.size j) := hJ.grow hB0
      have f2 := fun i => hJ2.out.frozen i
      have hJ3 : Hid (JAt ((w2.setCell ⟨w.heap.size, 5, none⟩ (.bool false)).setCell ⟨w.heap.size, 6, none⟩ (.int .i64 fr)) w.heap.size (jA j fr)) := (hJ2.out.setPa false).setLa fr
      have f3 := fun i => (hJ2.out.setPa false).frozen i
      have hB3 : Hid (Below w.heap.size w ((w2.setCell ⟨w.heap.size, 5, none⟩ (.bool false)).setCell ⟨w.heap.size, 6, none⟩ (.int .i64 fr))) := ((hb0.out.trans (hB0.mono hb0.out.size)).setCell (p := ⟨w.heap.size, 5, none⟩) (Nat.le_refl _) _).setCell (p := ⟨w.heap.size, 6, none⟩) (Nat.le_refl _) _
      clear q1 q2 q3 hs1
      go_wp2
      clear f2 f3 j0 j1 j2 j3 j4 j5 j6 hJ c hB0 hJ2
      generalize (w2.setCell ⟨w.heap.size, 5, none⟩ (.bool false)).setCell ⟨w.heap.size, 6, none⟩ (.int .i64 fr) = W3 at *
      go_loopw [7, 8] (fun nv i wr => ∃ (k : Nat) (N L : Int), k ≤ gaps.length ∧ i = .int .i64 k ∧ nv = .int .i64 N ∧ Hid (0 ≤ L ∧ L ≤ N ∧ N ≤ 549755813888 + 100000 * k) ∧ Hid (JAt wr w.heap.size (jA j L)) ∧ Hid (Below w.heap.size w wr)) (fun _ i _ => gaps.length - (intOf i).toNat)
      case atStart => exact ⟨0, fr, fr, Nat.zero_le _, rfl, rfl, (show (0 : Int) ≤ fr ∧ fr ≤ fr ∧ fr ≤ 549755813888 + 100000 * ((0 : Nat) : Int) by omega), hJ3.out, hB3.out⟩
      case round =>
        obtain ⟨k, N, L, hk, rfl, rfl, hN, hJr, hB⟩ := hrel
        by_cases hlt : k < gaps.length
        · have hki : (k : Int) < (gaps.length : Int) := by omega
          obtain ⟨bb, o, rfl, p0⟩ := in_at (Sls.grow hg hB.out) k hlt
          generalize gaps.getD k 0 = p at *
          by_cases p1 : p < 0
          · go_wp2_with (go_at_call 8; refine (hL _).mono ?_; rintro e w1 ⟨rfl, hb1⟩)
            go_ret
            exact ⟨rfl, hB.out.trans (hb1.mono hB.out.size)⟩
          · by_cases p2 : (100000 : Int) < p
            · go_wp2_with (go_at_call 8; refine (hL _).mono ?_; rintro e w1 ⟨rfl, hb1⟩)
              go_ret
              exact ⟨rfl, hB.out.trans (hb1.mono hB.out.size)⟩
            · have hNo := hN.out
              obtain ⟨q, hq⟩ : ∃ q, q = N + p := ⟨_, rfl⟩
              have hwrap : IntKind.i64.wrap (N + p) = q := by rw [Go.IntWalk.i64_in _ (by omega)]; omega
              have hq1 : 0 ≤ L ∧ L ≤ q ∧ q ≤ 549755813888 + 100000 * ((k + 1 : Nat) : Int) ∧ q ≤ 549762000000 := by omega
              clear hNo
              replace hq : Hid (q = N + p) := hq
              have hfe := fun (t : Int) (m : Bool) (h : fndB j L q t m) (he : ¬ (L < t ∧ q - j.iv ≤ t)) => fndE hoj.out h hq1.1 hq1.2.1 he
              have d1 := due_one (jA j L) (ok_A hoj.out (by omega) (by omega)) q (by omega) (by omega)
              have d2 := due_one (jA j q) (ok_A hoj.out (by omega) (by omega)) q (by omega) (by omega)
              rw [due_not] at d2
              unfold jO jA at d1 d2
              simp only [Bool.false_eq_true, if_false] at d1 d2
              have hf0 := fnd0 j L q
              obtain ⟨c0, c1, c2, c3, c4, c5, c6⟩ := hJr.out.cells
              unfold jA at c0 c1 c2 c3 c4 c5 c6
              simp only at c0 c1 c2 c3 c4 c5 c6
              go_wp2
              have hw1 : IntKind.i64.wrap (q - j.iv) = q - j.iv := Go.IntWalk.i64_in _ (by omega)
              go_loopw [9, 10] (fun mv tv wx => ∃ (t : Int) (m : Bool), mv = .bool m ∧ tv = .int .i64 t ∧ Hid (fndB j L q t m) ∧ q - j.iv - 1 ≤ t ∧ t ≤ q ∧ wx = wr) (fun _ tv _ => (intOf tv - (q - j.iv) + 1).toNat)
              case atStart => exact ⟨q, false, rfl, rfl, hf0, by omega, by omega, rfl⟩
              case round =>
                obtain ⟨t, m, rfl, rfl, hfb, t1, t2, rfl⟩ := hrel
                by_cases a1 : L < t
                · by_cases a2 : q - j.iv ≤ t
                  · have hw2 : IntKind.i64.wrap (t - 1) = t - 1 := Go.IntWalk.i64_in _ (by omega)
                    have hfs : Hid (fndB j L q (t - 1) (m || momB j t)) := fndS hfb.out a1 a2 t2
                    cases m with
                    | true =>
                      go_wp2
                      refine ⟨⟨t - 1, true, rfl, rfl, (by simpa using hfs.out : fndB j L q (t - 1) true), by omega, by omega, trivial⟩, ?_⟩
                      simp [intOf]; omega
                    | false =>
                      by_cases a3 : j.off ≤ t
                      · have hw3 : IntKind.i64.wrap (t - j.off) = t - j.off := Go.IntWalk.i64_in _ (by omega)
                        have hm0 : (t - j.off).tmod j.iv = (t - j.off) % j.iv := Int.tmod_eq_emod_of_nonneg (by omega)
                        have hm1 : 0 ≤ (t - j.off) % j.iv := Int.emod_nonneg _ (by omega)
                        have hm2 : (t - j.off) % j.iv < j.iv := Int.emod_lt_of_pos _ (by omega)
                        have hne : ¬ j.iv = 0 := by omega
                        have hmm : Hid (momB j t = decide ((t - j.off) % j.iv = 0)) := by show _ = _; unfold momB; simp [a3]
                        generalize (t - j.off) % j.iv = rm at *
                        have hw4 : IntKind.i64.wrap rm = rm := Go.IntWalk.i64_in _ (by omega)
                        by_cases a4 : rm = 0
                        · subst a4
                          have hm5 : momB j t = true := by rw [hmm.out]; rfl
                          rw [hm5] at hfs
                          clear hmm hm5
                          go_wp2
                          refine ⟨⟨t - 1, true, rfl, rfl, (by simpa using hfs.out : fndB j L q (t - 1) true), by omega, by omega, trivial⟩, ?_⟩
                          simp [intOf]; omega
                        · have a5 : (rm == 0) = false := by simpa using a4
                          have hm5 : momB j t = false := by rw [hmm.out]; simp [a4]
                          rw [hm5] at hfs
                          clear hmm hm5
                          go_wp2
                          refine ⟨⟨t - 1, false, rfl, rfl, (by simpa using hfs.out : fndB j L q (t - 1) false), by omega, by omega, trivial⟩, ?_⟩
                          simp [intOf]; omega
                      · have hm5 : momB j t = false := by unfold momB; simp; omega
                        rw [hm5] at hfs
                        clear hm5
                        go_wp2
                        refine ⟨⟨t - 1, false, rfl, rfl, (by simpa using hfs.out : fndB j L q (t - 1) false), by omega, by omega, trivial⟩, ?_⟩
                        simp [intOf]; omega
                  · have hm := hfe t m hfb.out (fun h => a2 h.2)
                    clear hfe hfb hf0
                    have hd1 : ∀ W, _ := fun W => d1 W
                    cases hbb : isB (jA j L) q with
                    | true =>
                      unfold jA at hbb
                      rw [hbb] at d1
                      simp only [if_true] at d1
                      obtain rfl : m = true := hm.trans hbb
                      have d1w := d1 wr
                      clear hd1 d1 hm hbb
                      go_wp2_with (first
                        | (go_at_call 16; refine d2w.mono ?_; rintro e w7 ⟨a7, c7, rfl, hb7⟩)
                        | (go_at_call 16; refine d1w.mono ?_; rintro e w5 ⟨a5, c5, rfl, hb5⟩; have hJ5 := hJr.out.grow hb5; have f5 := fun i => hJ5.frozen i; obtain ⟨k0, k1, k2, k3, k4, k5, k6⟩ := hJ5.cells; unfold jA at k0 k1 k2 k3 k4 k5 k6; simp only at k0 k1 k2 k3 k4 k5 k6; have hJ6 : JAt (w5.setCell ⟨w.heap.size, 6, none⟩ (.int .i64 q)) w.heap.size (jA j q) := hJ5.setLa q; obtain ⟨e0, e1, e2, e3, e4, e5, e6⟩ := hJ6.cells; unfold jA at e0 e1 e2 e3 e4 e5 e6; simp only at e0 e1 e2 e3 e4 e5 e6; have d2w := d2 (w5.setCell ⟨w.heap.size, 6, none⟩ (.int .i64 q)); have hsz5 : (w5.setCell ⟨w.heap.size, 6, none⟩ (.int .i64 q)).heap.size = w5.heap.size := (by simp); rw [hsz5] at d2w; replace hsz5 : Hid _ := hsz5; have hB6 : Hid (Below w.heap.size w (w5.setCell ⟨w.heap.size, 6, none⟩ (.int .i64 q))) := (hB.out.trans (hb5.mono hB.out.size)).setCell (p := ⟨w.heap.size, 6, none⟩) (Nat.le_refl _) _))
                      refine ⟨⟨k + 1, q, q, by omega, by go_num, rfl, (show 0 ≤ q ∧ q ≤ q ∧ q ≤ 549755813888 + 100000 * ((k + 1 : Nat) : Int) by omega), hJ6.grow (by rw [hsz5.out]; exact hb7), hB6.out.trans (hb7.mono (by rw [← hsz5.out]; exact hB6.out.size))⟩, ?_⟩
                      simp [intOf]; omega
                    | false =>
                      unfold jA at hbb
                      rw [hbb] at d1
                      simp only [Bool.false_eq_true, if_false] at d1
                      obtain rfl : m = false := hm.trans hbb
                      have d1w := d1 wr
                      clear hd1 d1 hm hbb
                      go_wp2_with (go_at_call 16; refine d1w.mono ?_; rintro e w5 ⟨a5, c5, rfl, hb5⟩)
                      refine ⟨⟨k + 1, q, L, by omega, by go_num, rfl, (show 0 ≤ L ∧ L ≤ q ∧ q ≤ 549755813888 + 100000 * ((k + 1 : Nat) : Int) by omega), hJr.out.grow hb5, hB.out.trans (hb5.mono hB.out.size)⟩, ?_⟩
                      simp [intOf]; omega
                · have hm := hfe t m hfb.out (fun h => a1 h.1)
                  clear hfe hfb hf0
                  have hd1 : ∀ W, _ := fun W => d1 W
                  cases hbb : isB (jA j L) q with
                  | true =>
                    unfold jA at hbb
                    rw [hbb] at d1
                    simp only [if_true] at d1
                    obtain rfl : m = true := hm.trans hbb
                    have d1w := d1 wr
                    clear hd1 d1 hm hbb
                    go_wp2_with (first
                      | (go_at_call 16; refine d2w.mono ?_; rintro e w7 ⟨a7, c7, rfl, hb7⟩)
                      | (go_at_call 16; refine d1w.mono ?_; rintro e w5 ⟨a5, c5, rfl, hb5⟩; have hJ5 := hJr.out.grow hb5; have f5 := fun i => hJ5.frozen i; obtain ⟨k0, k1, k2, k3, k4, k5, k6⟩ := hJ5.cells; unfold jA at k0 k1 k2 k3 k4 k5 k6; simp only at k0 k1 k2 k3 k4 k5 k6; have hJ6 : JAt (w5.setCell ⟨w.heap.size, 6, none⟩ (.int .i64 q)) w.heap.size (jA j q) := hJ5.setLa q; obtain ⟨e0, e1, e2, e3, e4, e5, e6⟩ := hJ6.cells; unfold jA at e0 e1 e2 e3 e4 e5 e6; simp only at e0 e1 e2 e3 e4 e5 e6; have d2w := d2 (w5.setCell ⟨w.heap.size, 6, none⟩ (.int .i64 q)); have hsz5 : (w5.setCell ⟨w.heap.size, 6, none⟩ (.int .i64 q)).heap.size = w5.heap.size := (by simp); rw [hsz5] at d2w; replace hsz5 : Hid _ := hsz5; have hB6 : Hid (Below w.heap.size w (w5.setCell ⟨w.heap.size, 6, none⟩ (.int .i64 q))) := (hB.out.trans (hb5.mono hB.out.size)).setCell (p := ⟨w.heap.size, 6, none⟩) (Nat.le_refl _) _))
                    refine ⟨⟨k + 1, q, q, by omega, by go_num, rfl, (show 0 ≤ q ∧ q ≤ q ∧ q ≤ 549755813888 + 100000 * ((k + 1 : Nat) : Int) by omega), hJ6.grow (by rw [hsz5.out]; exact hb7), hB6.out.trans (hb7.mono (by rw [← hsz5.out]; exact hB6.out.size))⟩, ?_⟩
                    simp [intOf]; omega
                  | false =>
                    unfold jA at hbb
                    rw [hbb] at d1
                    simp only [Bool.false_eq_true, if_false] at d1
                    obtain rfl : m = false := hm.trans hbb
                    have d1w := d1 wr
                    clear hd1 d1 hm hbb
                    go_wp2_with (go_at_call 16; refine d1w.mono ?_; rintro e w5 ⟨a5, c5, rfl, hb5⟩)
                    refine ⟨⟨k + 1, q, L, by omega, by go_num, rfl, (show 0 ≤ L ∧ L ≤ q ∧ q ≤ 549755813888 + 100000 * ((k + 1 : Nat) : Int) by omega), hJr.out.grow hb5, hB.out.trans (hb5.mono hB.out.size)⟩, ?_⟩
                    simp [intOf]; omega
        · obtain rfl : k = gaps.length := by omega
          have hki : ¬ (gaps.length : Int) < (gaps.length : Int) := by omega
          go_wp2_with (go_at_call 8; refine (hL _).mono ?_; rintro e w1 ⟨rfl, hb1⟩)
          go_ret
          exact ⟨rfl, hB.out.trans (hb1.mono hB.out.size)⟩
    · by_cases q1 : (60 : Int) < (gaps.length : Int)
      · unfold encJ
        go_enter Try.func4, Try.ntmps4
        go_upto_region 1 with fail
        rw [← hW1]
        clear hW1
        go_wp2_with (first
          | (go_at_call 7; refine hs1.mono ?_; rintro e w2 ⟨rfl, hb2⟩; replace hB0 := hB0.trans (hb2.mono hB0.size); obtain ⟨j0, j1, j2, j3, j4, j5, j6⟩ := c _ hB0)
          | (go_at_call 8; refine (hL _).mono ?_; rintro e w3 ⟨rfl, hb3⟩; replace hB0 := hB0.trans (hb3.mono hB0.size)))
        go_ret
        exact ⟨rfl, hb0.out.trans (hB0.mono hb0.out.size)⟩
      · by_cases q2 : (549755813888 : Int) < fr
        · unfold encJ
          go_enter Try.func4, Try.ntmps4
          go_upto_region 1 with fail
          rw [← hW1]
          clear hW1
          go_wp2_with (first
            | (go_at_call 7; refine hs1.mono ?_; rintro e w2 ⟨rfl, hb2⟩; replace hB0 := hB0.trans (hb2.mono hB0.size); obtain ⟨j0, j1, j2, j3, j4, j5, j6⟩ := c _ hB0)
            | (go_at_call 8; refine (hL _).mono ?_; rintro e w3 ⟨rfl, hb3⟩; replace hB0 := hB0.trans (hb3.mono hB0.size)))
          go_ret
          exact ⟨rfl, hb0.out.trans (hB0.mono hb0.out.size)⟩
        · have q3 : (1000 : Int) < j.iv := by omega
          unfold encJ
          go_enter Try.func4, Try.ntmps4
          go_upto_region 1 with fail
          rw [← hW1]
          clear hW1
          go_wp2_with (first
            | (go_at_call 7; refine hs1.mono ?_; rintro e w2 ⟨rfl, hb2⟩; replace hB0 := hB0.trans (hb2.mono hB0.size); obtain ⟨j0, j1, j2, j3, j4, j5, j6⟩ := c _ hB0)
            | (go_at_call 8; refine (hL _).mono ?_; rintro e w3 ⟨rfl, hb3⟩; replace hB0 := hB0.trans (hb3.mono hB0.size)))
          go_ret
          exact ⟨rfl, hb0.out.trans (hB0.mono hb0.out.size)⟩
/-! ### THE ROW's STEP -/
set_option maxRecDepth 100000 in
theorem lifted (os : Os) (started : os.Started) (H : Type) (enc : TypeId × Value → H) :
    ReturnsInHanded {} Try.checked os 4 .any (Rows.schedMomentsSpec.pre6 enc Try.prog Try.f4 Rows.schedMomentsRow.domain false) (Rows.schedMomentsSpec.post enc Try.prog Try.f4 false true false false) := by
  refine returnsInHanded_of_change_sized (C := Try.checked) own started (by kernel_rfl) Try.func4
    (ChangeSpec.witness6 (enc := enc) (C := Try.checked) false ⟨#[], #[.agg #[.string ⟨#[]⟩, .string ⟨#[]⟩, .int .i64 0, .int .i64 0, .int .i64 0, .bool false, .int .i64 0], .int .i64 0, .slice none 0 0], []⟩ 8 (by kernel_rfl) (by kernel_rfl) (by kernel_rfl) (by kernel_rfl)) ?_
  intro W base args ds gs before hval0 hW hcnd hsz0 _
  have hsz : (DataW.weightsEach Try.prog (Try.f4.params.toList ++ Rows.schedMomentsSpec.plain.varTypes Try.prog) (ds ++ gs)).all (· ≤ reachBytes) = true := hsz0
  have hval : ∀ (j : Nat) t v, Try.f4.params[j]? = some t → args[j]? = some v → Value.okWide Try.prog W .any base t v := hval0
  have hW' := hW
  obtain ⟨p, q, hA0, hV, rfl, hfz, hnd⟩ := hW
  have hA : DataW.TrodAll enc Try.prog W 0 (fun _ => true) true Try.f4.params.toList args.toList ds p := hA0
  rw [Try.params4] at hA hval hsz
  obtain ⟨v0, vs0, d0, ds0, p0, q0, hargs, rfl, rfl, h0, r0⟩ := trodAll_cons hA
  obtain ⟨v1, vs1, d1, ds1, p1, q1, rfl, rfl, rfl, h1, r1⟩ := trodAll_cons r0
  obtain ⟨v2, vs2, d2, ds2, p2, q2, rfl, rfl, rfl, h2, r2⟩ := trodAll_cons r1
  obtain ⟨rfl, rfl, rfl⟩ := trodAll_nil r2
  obtain rfl : args = #[v0, v1, v2] := by cases args; simp_all
  obtain ⟨rfl, rfl⟩ := trodVars_none hV
  have k0 := h0
  have lt0 : ∀ x ∈ p0, x.block < W.heap.size := by obtain ⟨m, hm⟩ := k0; exact DataW.trod_lt m _ _ _ hm
  obtain ⟨m0, rfl, hR0⟩ : ∃ j : Jb, v0 = encJ j ∧ JobIn j := by
    obtain ⟨fuel, hf⟩ := h0
    refine job_arg (hval 0 27 v0 rfl rfl) hf (fun q hq => ?_)
    have := List.all_eq_true.1 hsz _ (DataW.weights_mem_each (j := 0) (t := 27) rfl rfl q hq)
    simpa using this
  obtain ⟨x1, rfl, rfl, rfl, w1⟩ := open_int Try.underlying2 (hval 1 2 v1 rfl rfl) h1
  have k2 := h2
  have lt2 : ∀ x ∈ p2, x.block < W.heap.size := by obtain ⟨m, hm⟩ := k2; exact DataW.trod_lt m _ _ _ hm
  obtain ⟨a2, n2, c2, rfl⟩ := okWide_slice Try.underlying35 (hval 2 35 v2 rfl rfl)
  obtain ⟨l2, hP2, hR2, hL2⟩ : ∃ l, Ins W (.slice a2 n2 c2) l ∧ (∀ p ∈ l, I64 p) ∧ l.length ≤ 17592186043904 := by
    obtain ⟨fuel, hf⟩ := h2
    refine ints_of_trod hf (fun q hq => ?_)
    have := List.all_eq_true.1 hsz _ (DataW.weights_mem_each (j := 2) (t := 35) rfl rfl q hq)
    simpa using this
  clear hA0 hval0
  refine (walk m0 x1 (.slice a2 n2 c2) l2 W hR0 (in64_of w1) hP2 hR2 hL2).mono fun e W' ⟨he, bel⟩ => ?_
  subst he
  exact ⟨_, rfl, _, _, _, [], _, [], hW', trodAll_mk1 (shut_bool Try.underlying4 _), (trodAll_cons_mk (Below.trod laidOut (by kernel_rfl) (of_decide_eq_true (by kernel_rfl)) k0 bel lt0) (trodAll_cons_mk (shut_int Try.underlying2 w1) (trodAll_cons_mk (Below.trod laidOut (by kernel_rfl) (of_decide_eq_true (by kernel_rfl)) k2 bel lt2) trodAll_mk0))), rfl, bel.frame _, fun h => by cases h⟩
theorem over : Rows.schedMomentsRow.holds Try.pinned (OpenSpec.ofChange Rows.schedMomentsSpec) :=
  OpenClaim.holds_of_wide 4 Try.f4 rfl rfl rfl rfl rfl rfl rfl ⟨rfl, rfl, rfl, rfl, rfl⟩ rfl rfl rfl rfl rfl (by kernel_rfl) Try.func4 (by kernel_rfl)
    (of_decide_eq_true (by kernel_rfl)) (by unfold Func.isWrapper; first | (rw [if_pos (by decide +kernel)]; kernel_rfl) | (rw [if_neg (by decide +kernel)]; exact ⟨rfl, rfl⟩))
    (fun os started H enc _ => lifted os started H enc)
end Go.Proofs.Ytnbhnnjgnojgbaa.schedMoments
namespace Go.Proofs.Ytnbhnnjgnojgbaa
/-- The statement. -/
theorem schedMoments_holds : Rows.SchedMomentsSaid := schedMoments.over
#print axioms schedMoments_holds
end Go.Proofs.Ytnbhnnjgnojgbaa
