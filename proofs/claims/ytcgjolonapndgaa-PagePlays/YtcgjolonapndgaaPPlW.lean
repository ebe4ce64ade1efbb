/- The walk of PagePlays. -/
import Derived.Test.YtcgjolonapndgaaPPlA
import Derived.Test.YtcgjolonapndgaaPActs
import Derived.Test.YtcgjolonapndgaaLive
import Derived.Test.YtcgjolonapndgaaPRead
import Derived.Deep.RegionHeld3
import Derived.Deep.CutBlock
import Derived.Deep.DeepCutAuto
namespace Go.Proofs.Ytcgjolonapndgaa
set_option linter.unusedVariables false
open Go.RowKit Go.Maps Go.ChangeMaps Go.MapKept
theorem secs_bytes (s : St) (first : Int) (k : Nat) (h : ∀ n, IsBytes (s.now n)) : IsBytes (secs s first k) := by
  induction k with
  | zero => intro c hc; cases hc
  | succ k ih => exact isBytes_append ih (h _)
theorem prL_bytes (s : St) (per id : Int) (h : ∀ n, IsBytes (s.now n)) : IsBytes (prL s per id) := by
  unfold prL
  split
  · unfold loadOf
    refine IsBytes.take (IsBytes.drop ?_ _) _
    unfold place
    exact secs_bytes s _ _ h
  · intro c hc; cases hc
set_option maxRecDepth 100000 in
set_option maxHeartbeats 16000000 in
theorem pp_main (w : World) (sectors size : Nat) (q1 : 1 ≤ sectors) (q2 : sectors ≤ 200) (q3 : 64 ≤ size) (q4 : size ≤ 200) (per : Int) (a0 : Option Addr) (n0 c0 : Nat) (l : List Deed) (h0 : Acts w (.slice a0 n0 c0) l) (e0 : Hid (n0 = l.length)) (hlen0 : Hid (∀ x ∈ l, x.p.length ≤ 140737488355328 ∧ x.keep.length ≤ 140737488355328 ∧ x.torn.length ≤ 140737488355328)) :
    Calls Try.prog 4 #[.int .i64 sectors, .int .i64 size, .int .i64 per, .slice a0 n0 c0] w fun e w' => e = .returned (.bool true) ∧ Below w.heap.size w w' := by
  have hu0 := huge2_any _ _ h0 hlen0.out
  have g0 : Hid (∀ t, t < n0 → ∃ b o, a0 = some ⟨b, o, none⟩ ∧ ActAt w b (o + t * 7) (l.getD t act0) ∧ ActIn (l.getD t act0)) := by
    show ∀ t, _ → _
    intro t ht
    have := e0.out
    obtain ⟨a, c, q1, q2, q3⟩ := h0
    cases q1
    rcases q3 with q3 | ⟨b, o, q3, q4⟩
    · rw [q3] at ht; simp at ht
    · exact ⟨b, o, q3, q4 t (by omega), q2 _ (by rw [List.getD_eq_getElem?_getD, List.getElem?_eq_getElem (by omega)]; simp)⟩
  clear h0
  have dd1 : decide ((200 : Int) < (sectors : Int)) = false := by simp; omega
  have dd2 : decide ((200 : Int) < (size : Int)) = false := by simp; omega
  go_enter Try.func4, Try.ntmps4
  go_wp2_with fail
  refine hu0.mono ?_
  rintro e w1 ⟨B0, rfl, hB0, m0, rfl⟩
  clear hu0
  have hb1 : Below w.heap.size w (w.drewN m0) := (Frm.of_below (Below.refl _ w) (fun _ => False)).drewN m0 |>.below (Nat.le_refl _) (fun _ h => h.elim)
  cases B0 with
  | true =>
    clear hB0
    go_wp2_with (first | (go_at_call 9; refine (live_any _).mono ?_; rintro e w2 ⟨rfl, hb2⟩))
    go_ret
    exact ⟨rfl, hb1.trans (hb2.mono hb1.size)⟩
  | false =>
    have hn0 : n0 ≤ 80 := by rw [e0.out]; exact (hB0 rfl).1
    have hlen : Hid (∀ x ∈ l, x.p.length ≤ 20000 ∧ x.keep.length ≤ 20000 ∧ x.torn.length ≤ 20000) := (hB0 rfl).2
    clear hB0
    generalize w.drewN m0 = w1 at hb1 ⊢
    have hnew := held_new (w := w) (W := w1) sectors size q1 (by omega) q3 (by omega) hb1
    have hci := cnt_in (St.new sectors size) per
    go_wp2_with (first | (go_at_call 19; refine hnew.mono ?_; rintro e w2 ⟨p, rfl, hh2, hx2⟩) | (go_at_call 20; refine (refNew_ok sectors size q1 (by omega) q3 (by omega) _).mono ?_; rintro e w3 ⟨r, rfl, hr3, hb3⟩; have t3 : Two w w3 p r (fun k => w1.heap.size ≤ k ∧ k < w2.heap.size) (fun k => w2.heap.size ≤ k ∧ k < w3.heap.size) (St.new sectors size) (St.new sectors size) := ⟨hh2.grow hb3, hr3, fun k hk => ⟨Nat.le_trans hh2.le hk.1, hk.2⟩, fun k hk hk2 => by omega⟩; clear hh2 hr3 hb3 hx2 hnew) | (go_at_call 14; refine (num_any _ _ (by omega) (by omega)).mono ?_; rintro e w4 ⟨rfl, hw4⟩; subst w4) | (go_at_call 21; refine (count_any t3.held.disk per).mono ?_; rintro e w4 ⟨rfl, hw4⟩; subst w4) | (go_at_call 22; refine (rcount_any t3.ref per).mono ?_; rintro e w4 ⟨rfl, hw4⟩; subst w4))
    clear hb1
    go_loopw [13] (fun i wr => ∃ (k : Nat) (F G : Nat → Prop) (s : St), k ≤ n0 ∧ i = .int .i64 k ∧ Two w wr p r F G s s ∧ s.ops ≤ k * 8192 ∧ Byt s) (fun i _ => n0 - (intOf i).toNat)
    case atStart => exact ⟨0, _, _, _, Nat.zero_le _, rfl, t3, Nat.le_refl _, byt_new _ _⟩
    case round =>
      clear t3 hci
      obtain ⟨k, F, G, s, hk, rfl, h2, hops, hbyt⟩ := hrel
      by_cases hlt : k < n0
      · have hkn : (k : Int) < (n0 : Int) := by omega
        obtain ⟨b, o, rfl, hact, hin⟩ := g0.out k hlt
        have hle := hlen.out (l.getD k act0) (by have := e0.out; rw [List.getD_eq_getElem?_getD, List.getElem?_eq_getElem (by omega)]; simp)
        generalize l.getD k act0 = a at hact hin hle
        obtain ⟨vp, vk, vt, p0, p1, p2, p3, p4, p5, p6, z5, z6, z7⟩ := hact
        have hbw := h2.held.below
        have key : ∀ q u, w.cell? ⟨b, q, none⟩ = some u → wr.cell? ⟨b, q, none⟩ = some u := fun q u hh => (hbw.cell (p := ⟨b, q, none⟩) (World.block_lt_of_cell? w _ hh)).trans hh
        have x0 := key _ _ p0
        have x1 := key _ _ p1
        have x2 := key _ _ p2
        have x3 := key _ _ p3
        have x4 := key _ _ p4
        have x5 := key _ _ p5
        have x6 := key _ _ p6
        clear p0 p1 p2 p3 p4 p5 p6 key
        have z5' := z5
        have z6' := z6
        have z7' := z7
        obtain ⟨ap, cp, rfl, _⟩ := z5'
        obtain ⟨ak, ck, rfl, _⟩ := z6'
        obtain ⟨at', ct, rfl, _⟩ := z7'
        generalize hlp : a.p.length = lp at x4 z5 hle
        generalize hlk : a.keep.length = lk at x5 z6 hle
        generalize hlt' : a.torn.length = lt' at x6 z7 hle
        replace z5 : Hid _ := z5
        replace z6 : Hid _ := z6
        replace z7 : Hid _ := z7
        replace hlp : Hid _ := hlp
        replace hlk : Hid _ := hlk
        replace hlt' : Hid _ := hlt'
        obtain ⟨hdk, hdn, ⟨hxk, hxi⟩, hdp, hkk, htt⟩ := hin
        obtain ⟨C, hC⟩ : ∃ C : Array Value, C = #[.int .i64 a.kind, .int .i64 a.n, .int .u8 a.xk, .int .u32 a.xi, .slice ap lp cp, .slice ak lk ck, .slice at' lt' ct] := ⟨_, rfl⟩
        go_upto_block 2 with fail
        rw [← hC]
        have t2 := h2.grow ((Below.refl _ wr).alloc (Nat.le_refl _) (.cells C 53))
        have hA : Copy (wr.alloc (.cells C 53)) wr.heap.size C := heap_alloc_new wr _
        obtain ⟨nAF, nAG⟩ := h2.notIn
        generalize wr.alloc (.cells C 53) = wq at *
        generalize wr.heap.size = A at *
        clear x0 x1 x2 x3 x4 x5 x6 hbw h2
        have cAll : Hid (∀ W : World, W.heap[A]? = wq.heap[A]? → W.cell? ⟨A, 0, none⟩ = some (.int .i64 a.kind) ∧ W.cell? ⟨A, 1, none⟩ = some (.int .i64 a.n) ∧ W.cell? ⟨A, 2, none⟩ = some (.int .u8 a.xk) ∧ W.cell? ⟨A, 3, none⟩ = some (.int .u32 a.xi) ∧ W.cell? ⟨A, 4, none⟩ = some (.slice ap lp cp) ∧ W.cell? ⟨A, 5, none⟩ = some (.slice ak lk ck) ∧ W.cell? ⟨A, 6, none⟩ = some (.slice at' lt' ct)) := by
          show ∀ W, _ → _
          intro W hW
          have hh := hA.keep hW
          rw [hC] at hh
          exact ⟨hh.cell 0 _ rfl, hh.cell 1 _ rfl, hh.cell 2 _ rfl, hh.cell 3 _ rfl, hh.cell 4 _ rfl, hh.cell 5 _ rfl, hh.cell 6 _ rfl⟩
        clear hC
        obtain ⟨y0, y1, y2, y3, y4, y5, y6⟩ := cAll.out wq rfl
        have hAl := hA.lt
        have hop2 : s.ops < 17592186000000 := by omega
        have hop3 : s.ops < 17592186044416 := by omega
        go_cut [15] (fun x15 wc => x15 = .bool true ∧ ∃ (F' G' : Nat → Prop) (s' : St), Two w wc p r F' G' s' s' ∧ s'.ops ≤ (k + 1) * 8192 ∧ Byt s')
        case first => as_aux_lemma =>
          by_cases k0 : a.kind = 0
          · have e0 : (a.kind == 0) = true := by simp [k0]
            clear k0
            as_aux_lemma =>
              have hmw := fun W hW => two_pwrite t2 hop2 per a.xk hxk a.xi hxi (.slice ap lp cp) a.p (Bts.grow z5.out t2.held.below) hdp W hW
              have hdm := pwr_dims s per a.xk a.xi a.p
              have hbm := pwr_byt hbyt per a.xk hxk a.xi a.p hdp
              have cM : ∀ W : World, W.heap[A]? = wq.heap[A]? → (fun W : World => W.cell? ⟨A, 2, none⟩ = some (.int .u8 a.xk) ∧ W.cell? ⟨A, 3, none⟩ = some (.int .u32 a.xi) ∧ W.cell? ⟨A, 4, none⟩ = some (.slice ap lp cp)) W := fun W hW => by
                obtain ⟨_, _, i2, i3, i4, _⟩ := cAll.out W hW
                exact ⟨i2, i3, i4⟩
              generalize hpv : pwr s per a.xk a.xi a.p = pv at hmw hdm hbm
              obtain ⟨sp, er⟩ := pv
              have hrw : ∀ w4 F4, Two w w4 p r F4 G sp s → Calls Try.prog 24 #[.pointer (some ⟨r, 0, none⟩), .int .i64 per, .agg #[.int .u8 a.xk, .int .u32 a.xi, .slice ap lp cp]] w4 fun e w' => e = .returned (.int .i64 er) ∧ ∃ G', Two w w' p r F4 G' sp sp ∧ Frm G w4 w' := fun w4 F4 t4 => by
                have := two_rwrite t4 hop2 per a.xk hxk a.xi hxi (.slice ap lp cp) a.p (Bts.grow z5.out t4.held.below) hdp
                rw [hpv] at this
                exact this
              clear hpv
              simp only at hmw hdm hbm
              replace hrw : Hid _ := hrw
              go_wp2_with fail
              go_region_held3 (fun W : World => W.cell? ⟨A, 2, none⟩ = some (.int .u8 a.xk) ∧ W.cell? ⟨A, 3, none⟩ = some (.int .u32 a.xi) ∧ W.cell? ⟨A, 4, none⟩ = some (.slice ap lp cp)) (first | exact cM _ rfl | exact cM _ hA4 | exact cM _ hA5)
                (first
                  | (go_at_call 23; refine (hmw _ ((Below.refl _ _).drew)).mono ?_; rintro e w4 ⟨rfl, F4, t4, f4⟩; have hA4 : w4.heap[A]? = wq.heap[A]? := f4.block _ hAl nAF)
                  | (go_at_call 14; refine (num_any _ _ (by omega) (by omega)).mono ?_; rintro e w' ⟨rfl, hw'⟩; subst w')
                  | (go_at_call 24; refine (Hid.out hrw _ _ t4).mono ?_; rintro e w5 ⟨rfl, G5, t5, f5⟩; have hA5 : w5.heap[A]? = wq.heap[A]? := (f5.block _ (Nat.lt_of_lt_of_le hAl f4.size) nAG).trans hA4))
              go_wp2_with fail
              go_meet
              case rel => exact ⟨by simp, F4, G5, _, t5, by omega, hbm⟩
          · have e0 : (a.kind == 0) = false := by simp [k0]
            by_cases k1 : a.kind = 1
            · have e1 : (a.kind == 1) = true := by simp [k1]
              clear k0 k1
              as_aux_lemma =>
                have hnow : ∀ n, (s.now n).length = s.size := by
                  obtain ⟨gn, cn, gs, cs, gu, cu, hr⟩ := t2.ref
                  exact hr.nowLen
                have hpr := pread_any t2.held.disk per a.n (fun n => byt_now hbyt n) hnow
                have hrr := fun W (hW : Below _ _ W) => rread_any (t2.grow hW).ref per a.n (fun n => byt_now hbyt n)
                have hpe := prE_in s per a.n
                have hLb : IsBytes (prL s per a.n) := prL_bytes s per a.n (fun n => byt_now hbyt n)
                generalize prK s per a.n = K at *
                generalize prI s per a.n = I at *
                generalize prL s per a.n = L at *
                generalize prE s per a.n = E at *
                obtain ⟨lL, hlL⟩ : ∃ lL, lL = L.length := ⟨_, rfl⟩
                go_wp2_with fail
                refine hpr.mono ?_
                rintro e w4 ⟨v4, rfl, hb4, bl4⟩
                obtain ⟨a4, c4, rfl⟩ := hb4.split
                have hX4 : PageAt (w4.alloc (.cells #[.int .u8 K, .int .u32 I, .slice a4 L.length c4] 25)) w4.heap.size K I (.slice a4 L.length c4) := heap_alloc_new w4 _
                have bl5 := bl4.alloc bl4.size (.cells #[.int .u8 K, .int .u32 I, .slice a4 L.length c4] 25)
                have hb5 := hb4.alloc (.cells #[.int .u8 K, .int .u32 I, .slice a4 L.length c4] 25)
                go_upto_region 21 with fail
                generalize w4.alloc (.cells #[.int .u8 K, .int .u32 I, .slice a4 L.length c4] 25) = w5 at *
                generalize w4.heap.size = xb at *
                obtain ⟨i0, i1, i2, i3, i4, i5, i6⟩ := cAll.out w5 (bl5.block _ hAl)
                go_wp2_with fail
                refine (hrr _ bl5).mono ?_
                rintro e w6 ⟨v6, rfl, hb6, bl6⟩
                obtain ⟨a6, c6, rfl⟩ := hb6.split
                have hX7 : PageAt (w6.alloc (.cells #[.int .u8 K, .int .u32 I, .slice a6 L.length c6] 25)) w6.heap.size K I (.slice a6 L.length c6) := heap_alloc_new w6 _
                have bl7 : Below w5.heap.size w5 (w6.alloc (.cells #[.int .u8 K, .int .u32 I, .slice a6 L.length c6] 25)) := bl6.alloc bl6.size _
                have hb7 := hb6.alloc (.cells #[.int .u8 K, .int .u32 I, .slice a6 L.length c6] 25)
                go_upto_region 22 with fail
                generalize w6.alloc (.cells #[.int .u8 K, .int .u32 I, .slice a6 L.length c6] 25) = w7 at *
                generalize w6.heap.size = yb at *
                have hX8 := hX4.keep (bl7.block _ hX4.lt)
                obtain ⟨j0, j1, j2⟩ := hX8.cells
                obtain ⟨k0, k1, k2⟩ := hX7.cells
                have hb8 := hb5.grow bl7
                have hsm := same_any K K I I _ _ L L w7 hb8 hb7 hLb hLb
                simp only [and_self, decide_true] at hsm
                have bl8 := bl5.trans (bl7.mono bl5.size)
                clear hpr hrr hb4 bl4 hX4 hb5 bl5 hb6 bl6 hX7 hb7 hb8 bl7
                go_wp2_with (first | (go_at_call 14; refine (num_any _ _ (by omega) (by omega)).mono ?_; rintro e w' ⟨rfl, hw'⟩; subst w') | (go_at_call 15; refine hsm.mono ?_; rintro e w9 ⟨rfl, bl9⟩))
                go_meet
                case rel => exact ⟨by simp, F, G, s, t2.grow (bl8.trans (bl9.mono bl8.size)), by omega, hbyt⟩
            · have e1 : (a.kind == 1) = false := by simp [k1]
              by_cases k2 : a.kind = 2
              · have e2 : (a.kind == 2) = true := by simp [k2]
                clear k0 k1 k2
                as_aux_lemma =>
                  have hsy := two_sync t2 hop3
                  have hsd := sync_dims s
                  go_wp2_with (first
                    | (go_at_call 27; refine hsy.mono ?_; rintro e w4 ⟨rfl, F4, t4⟩)
                    | (go_at_call 28; refine (two_refSync t4 hop3).mono ?_; rintro e w5 ⟨rfl, G5, t5⟩))
                  go_meet
                  case rel => exact ⟨by simp, F4, G5, _, t5, by omega, byt_sync hbyt⟩
              · have e2 : (a.kind == 2) = false := by simp [k2]
                by_cases k3 : a.kind = 3
                · have e3 : (a.kind == 3) = true := by simp [k3]
                  clear k0 k1 k2 k3
                  as_aux_lemma =>
                    have har := two_arm t2 a.n hdn
                    have hsd := arm_dims s a.n
                    go_wp2_with (first
                      | (go_at_call 29; refine har.mono ?_; rintro e w4 ⟨rfl, t4, f4⟩; obtain ⟨i0, i1, i2, i3, i4, i5, i6⟩ := cAll.out w4 (f4.block _ hAl nAF))
                      | (go_at_call 30; refine (two_refArm t4 a.n hdn).mono ?_; rintro e w5 ⟨rfl, t5⟩))
                    go_meet
                    case rel => exact ⟨by simp, F, G, _, t5, by omega, byt_arm hbyt a.n⟩
                · have e3 : (a.kind == 3) = false := by simp [k3]
                  by_cases k4 : a.kind = 4
                  · have e4 : (a.kind == 4) = true := by simp [k4]
                    clear k0 k1 k2 k3 k4
                    as_aux_lemma =>
                      have hcr := two_crash t2 hop3 a.keep a.torn _ _ (Ints.grow z6.out t2.held.below) (Torns.grow z7.out t2.held.below) (by have := hlk.out; omega) (by have := hlt'.out; omega) hkk htt
                      go_wp2_with (first
                        | (go_at_call 31; refine hcr.mono ?_; rintro e w4 ⟨rfl, F4, t4, f4⟩; obtain ⟨i0, i1, i2, i3, i4, i5, i6⟩ := cAll.out w4 (f4.block _ hAl nAF))
                        | (go_at_call 32; refine (two_refCrash t4 a.keep a.torn _ _ z6.out z7.out (by have := hlk.out; omega) (by have := hlt'.out; omega)).mono ?_; rintro e w5 ⟨rfl, G5, t5⟩))
                      go_meet
                      case rel => exact ⟨by simp, F4, G5, _, t5, (by show s.ops ≤ _; omega), byt_crash hbyt _ _⟩
                  · have e4 : (a.kind == 4) = false := by simp [k4]
                    by_cases k5 : a.kind = 5
                    · have e5 : (a.kind == 5) = true := by simp [k5]
                      clear k0 k1 k2 k3 k4 k5
                      as_aux_lemma =>
                        have hw1 := two_write1 t2 hop3 a.n hdn (.slice ap lp cp) a.p (Bts.grow z5.out t2.held.below) (fun hne j hj hF => absurd (Bts.lt z5.out hne j hj) (by have := (t2.held.blocks j hF).1; omega))
                        have hdm := write_dims s a.n [a.p]
                        have hbm := byt_write hbyt a.n [a.p] (by simpa using hdp)
                        go_wp2_with (first
                          | (go_at_call 33; refine hw1.mono ?_; rintro e w4 ⟨rfl, F4, t4, f4⟩; have hA4 : w4.heap[A]? = wq.heap[A]? := f4.block _ hAl nAF; obtain ⟨i0, i1, i2, i3, i4, i5, i6⟩ := cAll.out w4 hA4; have hcv := conv_str (Bts.grow z5.out t4.held.below))
                          | (go_at_call 34; refine (two_refWrite t4 hop3 a.n a.p).mono ?_; rintro e w5 ⟨rfl, G5, t5, _, f5⟩))
                        go_meet
                        case rel => exact ⟨by simp, F4, G5, _, t5, by omega, hbm⟩
                    · have e5 : (a.kind == 5) = false := by simp [k5]
                      clear k0 k1 k2 k3 k4 k5
                      as_aux_lemma =>
                        go_wp2_with fail
                        go_meet
                        case rel => exact ⟨by simp, F, G, s, t2, by omega, hbyt⟩
        case rest => as_aux_lemma =>
          clear t2 y0 y1 y2 y3 y4 y5 y6 cAll hAl hA nAF nAG hops hbyt
          obtain ⟨rfl, F5, G5, s5, t5, hops5, hbyt5⟩ := hcut
          have hops := fun W (hW : Below wc.heap.size wc W) => ops_any (t5.grow hW).held.disk
          have hr4 : wc.cell? ⟨r, 4, none⟩ = some (.int .i64 s5.ops) := by
            obtain ⟨gn, cn, gs, cs, gu, cu, hr⟩ := t5.ref
            exact hr.c4
          go_wp2_with fail
          go_region_held3 (fun W => W.cell? ⟨r, 4, none⟩ = some (.int .i64 s5.ops)) (go_keep) (first | (go_at_call 35; refine (hops _ (by first | exact Below.refl _ _ | exact below_d1 _ | exact below_d2 _)).mono ?_; rintro e wA ⟨rfl, hwA⟩; subst wA))
          go_wp2_with fail
          refine ⟨⟨k + 1, F5, G5, s5, by omega, by go_num, t5.grow (by first | exact below_d1 _ | exact below_d2 _ | exact Below.refl _ _), hops5, hbyt5⟩, ?_⟩
          simp [intOf]; omega
      · have hkd : decide ((k : Int) < (n0 : Int)) = false := by simp; omega
        have hbw := h2.held.below
        go_wp2_with (first | (go_at_call 9; refine (live_any _).mono ?_; rintro e w9 ⟨rfl, hb9⟩))
        go_ret
        exact ⟨rfl, hbw.trans (hb9.mono hbw.size)⟩
end Go.Proofs.Ytcgjolonapndgaa
