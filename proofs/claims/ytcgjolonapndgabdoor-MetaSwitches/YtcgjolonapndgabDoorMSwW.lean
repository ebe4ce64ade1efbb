/- The walk of MetaSwitches. -/
import Derived.Test.YtcgjolonapndgabDoorMActs
import Derived.Test.YtcgjolonapndgabDoorMSwM
import Derived.Deep.RegionHeld3
namespace Go.Proofs.YtcgjolonapndgabDoor
set_option linter.unusedVariables false
open Go.RowKit Go.Maps Go.ChangeMaps Go.MapKept
theorem arm_ops (s : St) (n : Int) : (s.arm n).ops = s.ops := by
  unfold St.arm
  split <;> rfl
theorem writeM_ops (s : St) (per : Int) (q : Nat) (r k d : Int) : (s.writeM per q r k d).ops ≤ s.ops + 1 := by
  obtain ⟨e1, e2, _, _, _, e6⟩ := op_same s
  unfold St.writeM
  split
  · omega
  · unfold St.write
    split
    · split
      · split
        · exact e6
        · exact e6
      · omega
    · omega
theorem sync_ops (s : St) : s.sync.ops ≤ s.ops + 1 := by
  obtain ⟨e1, e2, _, _, _, e6⟩ := op_same s
  unfold St.sync
  split
  · exact e6
  · exact e6
theorem held_four {w W : World} {p x : Nat} {F : Nat → Prop} {s : St} (h : Held w W p F s) (hx : w.heap.size ≤ x) (hF : ¬ F x) (a b c d : Value) : Held w ((((W.setCell ⟨x, 0, none⟩ a).setCell ⟨x, 1, none⟩ b).setCell ⟨x, 2, none⟩ c).setCell ⟨x, 3, none⟩ d) p F s :=
  ⟨h.disk.keep (fun k hk hl => setFour a b c d (fun e => hF (e ▸ hk))), fun k hk => ⟨(h.blocks k hk).1, by simpa using (h.blocks k hk).2⟩, belFour a b c d h.below hx⟩
set_option maxRecDepth 100000 in
set_option maxHeartbeats 8000000 in
theorem sw_main (w : World) (a0 : Option Addr) (n0 c0 : Nat) (l : List Deed) (h0 : Acts w (.slice a0 n0 c0) l) (e0 : Hid (n0 = l.length)) (hlen0 : Hid (∀ x ∈ l, x.p.length ≤ 140737488355328 ∧ x.keep.length ≤ 140737488355328 ∧ x.torn.length ≤ 140737488355328)) :
    Calls Tryd.prog 6 #[.slice a0 n0 c0] w fun e w' => e = .returned (.bool true) ∧ Below w.heap.size w w' := by
  have hu0 := huge2_any _ _ h0 hlen0.out
  have g0 : Hid (∀ t, t < n0 → ∃ b o, a0 = some ⟨b, o, none⟩ ∧ ActAt w b (o + t * 9) (l.getD t act0) ∧ ActIn (l.getD t act0)) := by
    show ∀ t, _ → _
    intro t ht
    have := e0.out
    obtain ⟨a, c, q1, q2, q3⟩ := h0
    cases q1
    rcases q3 with q3 | ⟨b, o, q3, q4⟩
    · rw [q3] at ht; simp at ht
    · exact ⟨b, o, q3, q4 t (by omega), q2 _ (by rw [List.getD_eq_getElem?_getD, List.getElem?_eq_getElem (by omega)]; simp)⟩
  clear h0
  go_enter Tryd.func6, Tryd.ntmps6
  go_wp2_with fail
  refine hu0.mono ?_
  rintro e w1 ⟨B0, rfl, hB0, m0, rfl⟩
  clear hu0
  cases B0 with
  | true =>
    clear hB0
    go_wp2_with (first | (go_at_call 9; refine (live_any _).mono ?_; rintro e w2 ⟨rfl, hb2⟩))
    go_ret
    exact ⟨rfl, (Frm.of_below (Below.refl _ w) (fun _ => False)).drewN m0 |>.below (Nat.le_refl _) (fun _ h => h.elim) |>.trans hb2⟩
  | false =>
    have hn0 : n0 ≤ 60 := by rw [e0.out]; exact (hB0 rfl).1
    have hlen : Hid (∀ x ∈ l, x.p.length ≤ 20000 ∧ x.keep.length ≤ 20000 ∧ x.torn.length ≤ 20000) := (hB0 rfl).2
    clear hB0
    have hb1 : Below w.heap.size w (w.drewN m0) := (Frm.of_below (Below.refl _ w) (fun _ => False)).drewN m0 |>.below (Nat.le_refl _) (fun _ h => h.elim)
    generalize w.drewN m0 = w1 at hb1 ⊢
    obtain ⟨z1, z2, z3, z4, hsw0⟩ := sw0_is
    go_wp2_with fail
    refine (held_new (w := w) (W := w1) 8 64 (by omega) (by omega) (by omega) (by omega) hb1).mono ?_
    rintro e w2 ⟨p, rfl, h2, hx2⟩
    replace h2 : Held w w2 p _ lvA := h2
    go_wp2_with (first | (go_at_call 14; refine (num_any _ _ (by omega) (by omega)).mono ?_; rintro e w' ⟨rfl, hw'⟩; subst w'))
    refine (mwrite_any h2 (by decide) 2 1 0 0 0 (by decide) (by decide)).mono ?_
    rintro e w3 ⟨rfl, F3, h3, hf3, hF3⟩
    rw [z1]
    clear h2 hf3 hF3 hx2
    go_wp2_with (first | (go_at_call 14; refine (num_any _ _ (by omega) (by omega)).mono ?_; rintro e w' ⟨rfl, hw'⟩; subst w'))
    refine (held_sync h3 (by omega)).mono ?_
    rintro e w4 ⟨rfl, F4, h4, hf4, hF4⟩
    rw [z2]
    replace h4 : Held w w4 p F4 sw0 := h4
    clear h3 hf4 hF4
    have h5 := h4.alloc (.cells #[.int .u64 1, .int .i64 0, .int .i64 0, .int .i64 0] 24)
    have hwb := h4.le
    have hm5 : MetaAt (w4.alloc (.cells #[.int .u64 1, .int .i64 0, .int .i64 0, .int .i64 0] 24)) w4.heap.size 1 0 0 0 := heap_alloc_new w4 _
    have hnF : ¬ F4 w4.heap.size := fun h => absurd (h4.blocks _ h).2 (by omega)
    go_wp2_with (first | (go_at_call 14; refine (num_any _ _ (by omega) (by omega)).mono ?_; rintro e w' ⟨rfl, hw'⟩; subst w'))
    generalize w4.alloc (.cells #[.int .u64 1, .int .i64 0, .int .i64 0, .int .i64 0] 24) = W5 at *
    generalize w4.heap.size = wb at *
    clear h4 hb1
    go_loopw [6] (fun i wr => ∃ (k : Nat) (F : Nat → Prop) (s : St) (m : Mt), k ≤ n0 ∧ i = .int .i64 k ∧ Held w wr p F s ∧ Sw s m ∧ MetaAt wr wb m.q m.r m.k m.d ∧ ¬ F wb ∧ m.q ≤ k + 1 ∧ s.ops ≤ 2 * k + 2) (fun i _ => n0 - (intOf i).toNat)
    case atStart => exact ⟨0, F4, sw0, ⟨1, 0, 0, 0⟩, Nat.zero_le _, rfl, h5, hsw0, hm5, hnF, Nat.le_refl _, by omega⟩
    case round =>
      clear h5 hm5 hnF hsw0 z1 z2 z3 z4
      obtain ⟨k, F, s, m, hk, rfl, h, hsw, hm, hnF, hq, hops⟩ := hrel
      by_cases hlt : k < n0
      · have hkn : (k : Int) < (n0 : Int) := by omega
        obtain ⟨b, o, rfl, hact, hin⟩ := g0.out k hlt
        have hle := hlen.out (l.getD k act0) (by have := e0.out; rw [List.getD_eq_getElem?_getD, List.getElem?_eq_getElem (by omega)]; simp)
        generalize l.getD k act0 = a at hact hin hle
        obtain ⟨vp, vk, vt, p0, p1, p2, p3, p4, p5, p6, p7, p8, z5, z6, z7⟩ := hact
        have hbw := h.below
        have key : ∀ q u, w.cell? ⟨b, q, none⟩ = some u → ∀ W, Below w.heap.size w W → W.cell? ⟨b, q, none⟩ = some u := fun q u hh W hW => (hW.cell (p := ⟨b, q, none⟩) (World.block_lt_of_cell? w _ hh)).trans hh
        have x1 := key _ _ p1 wr hbw
        have x2 := key _ _ p2 wr hbw
        have x3 := key _ _ p3 wr hbw
        have x4 := key _ _ p4 wr hbw
        have hsq : Hid (Sw s m) := hsw
        obtain ⟨y0, y1, y2, y3⟩ := hm.cells
        have hwbl := hm.lt
        have hw1 : IntKind.u64.wrap ((m.q : Int) + 1) = (m.q : Int) + 1 := wrap_u64 _ (by omega) (by omega)
        obtain ⟨Q, hQ⟩ : ∃ Q, Q = m.q + 1 := ⟨_, rfl⟩
        have hQi : Hid ((m.q : Int) + 1 = (Q : Int)) := by show _ = _; omega
        have hne : ((m.q : Int) == (Q : Int)) = false := by simp; omega
        have hQl : Q ≤ k + 2 := by omega
        replace hQ : Hid (Q = m.q + 1) := hQ
        obtain ⟨hdk, ⟨hq1, hq2, hq3, hq4⟩, hdn, hdp, hkk, htt⟩ := hin
        have z6' := z6
        have z7' := z7
        obtain ⟨ak, ck, rfl, _⟩ := z6'
        obtain ⟨at', ct, rfl, _⟩ := z7'
        generalize hlk : a.keep.length = lk at p7 z6 hle
        generalize hlt' : a.torn.length = lt' at p8 z7 hle
        replace z6 : Hid _ := z6
        replace z7 : Hid _ := z7
        replace hlk : Hid _ := hlk
        replace hlt' : Hid _ := hlt'
        go_upto_region 12 with fail
        rw [hQi.out]
        clear hw1 hQi
        have h1 := h.alloc (.cells #[.int .u64 Q, .int .i64 a.r, .int .i64 a.k, .int .i64 a.d] 24)
        have hM1 : MetaAt (wr.alloc (.cells #[.int .u64 Q, .int .i64 a.r, .int .i64 a.k, .int .i64 a.d] 24)) wr.heap.size Q a.r a.k a.d := heap_alloc_new wr _
        have hm1 : MetaAt (wr.alloc (.cells #[.int .u64 Q, .int .i64 a.r, .int .i64 a.k, .int .i64 a.d] 24)) wb m.q m.r m.k m.d := hm.keep ((heap_alloc wr _).2 _ hm.lt)
        have hnM : ¬ F wr.heap.size := fun hh => absurd (h.blocks _ hh).2 (by omega)
        generalize wr.alloc (.cells #[.int .u64 Q, .int .i64 a.r, .int .i64 a.k, .int .i64 a.d] 24) = W1 at *
        generalize wr.heap.size = mb at *
        have x5 := key _ _ p5 W1 h1.below
        clear h hm y0 y1 y2 y3 x1 x2 x3 x4 hbw
        go_wp2_with fail
        refine (held_arm h1 a.n hdn.1 hdn.2).mono ?_
        rintro e w2 ⟨rfl, h2, hf2⟩
        have hM2 := hM1.keep (hf2.block _ hM1.lt hnM)
        have hm2 := hm1.keep (hf2.block _ hm1.lt hnF)
        obtain ⟨b0, b1, b2, b3⟩ := hM2.cells
        have ho2 := arm_ops s a.n
        clear h1 hM1 hm1 hf2 x5
        go_wp2_with fail
        refine (mwrite_any h2 (by omega) 2 Q a.r a.k a.d (by omega) ⟨hq3.1, hq3.2⟩).mono ?_
        rintro e w3 ⟨rfl, F3, h3, hf3, hF3⟩
        have hM3 := hM2.keep (hf3.block _ hM2.lt hnM)
        have hm3 := hm2.keep (hf3.block _ hm2.lt hnF)
        have nM3 : ¬ F3 mb := fun hh => by rcases hF3 _ hh with h1 | h1; exact hnM h1; exact absurd hM2.lt (by omega)
        have nW3 : ¬ F3 wb := fun hh => by rcases hF3 _ hh with h1 | h1; exact hnF h1; exact absurd hm2.lt (by omega)
        have ho3 := writeM_ops (s.arm a.n) 2 Q a.r a.k a.d
        clear h2 hM2 hm2 hf3 hF3 b0 b1 b2 b3 hq1 hdp p0 p1 p2 p3 p4 p5 p6 z5
        by_cases hok : mok Q a.r a.k a.d
        · cases hl : (s.arm a.n).live with
          | false =>
            obtain ⟨e1, hs5⟩ := sw_off hsw a.n a.r a.k a.d a.keep a.torn (by rw [← hQ.out]; exact hok) hl
            rw [← hQ.out] at e1 hs5
            rw [e1]
            have hMT := hM3
            have hmT := hm3
            have nFm := nM3
            have nFw := nW3
            have hopsT : ((((s.arm a.n).writeM 2 Q a.r a.k a.d)).crash a.keep a.torn).ops ≤ 2 * (k + 1) + 2 := by show ((s.arm a.n).writeM 2 Q a.r a.k a.d).ops ≤ _; omega
            as_aux_lemma =>
              have hbT := h3.below
              have x7 := key _ _ p7 _ hbT
              have x8 := key _ _ p8 _ hbT
              have hKT := Ints.grow z6.out hbT
              have hTT := Torns.grow z7.out hbT
              go_wp2_with (first | (go_at_call 14; refine (num_any _ _ (by omega) (by omega)).mono ?_; rintro e w' ⟨rfl, hw'⟩; subst w'))
              go_region_held3 (fun W => W.cell? ⟨b, o + k * 9 + 7, none⟩ = some (.slice ak lk ck) ∧ W.cell? ⟨b, o + k * 9 + 8, none⟩ = some (.slice at' lt' ct)) (first | exact ⟨x7, x8⟩ | exact ⟨key _ _ p7 _ hb5, key _ _ p8 _ hb5⟩) (first | (go_at_call 26; refine (held_crash (h3.grow ((Below.refl _ _).drew)) (by omega) a.keep a.torn _ _ (Ints.grow hKT ((Below.refl _ _).drew)) (Torns.grow hTT ((Below.refl _ _).drew)) (by have := hlk.out; omega) (by have := hlt'.out; omega) hkk htt).mono ?_; rintro e w5 ⟨rfl, F5, h5, hf5, hF5⟩; have hb5 := h5.below))
              have hM5 := hMT.keep (hf5.block _ hMT.lt nFm)
              have hm5 := hmT.keep (hf5.block _ hmT.lt nFw)
              have nF5 : ¬ F5 wb := fun hh => by rcases hF5 _ hh with h1 | h1; exact nFw h1; exact absurd hmT.lt (by have : _ ≤ wb := h1; simp at this; omega)
              obtain ⟨bb1, bb2⟩ := sw_best hs5
              go_wp2_with fail
              refine (best_any h5.disk (fun n => byt_now hs5.byt n) 2).mono ?_
              rintro e w6 ⟨rfl, hb6⟩
              rw [bb1, bb2]
              simp only [Mt.val]
              have hM6 := hM5.keep (hb6.block _ hM5.lt)
              have hm6 := hm5.keep (hb6.block _ hm5.lt)
              have h6 := h5.grow hb6
              have hM7 : MetaAt (w6.alloc (.cells #[.int .u64 m.q, .int .i64 m.r, .int .i64 m.k, .int .i64 m.d] 24)) mb Q a.r a.k a.d := hM6.keep ((heap_alloc w6 _).2 _ hM6.lt)
              have hm7 : MetaAt (w6.alloc (.cells #[.int .u64 m.q, .int .i64 m.r, .int .i64 m.k, .int .i64 m.d] 24)) wb m.q m.r m.k m.d := hm6.keep ((heap_alloc w6 _).2 _ hm6.lt)
              have hx7 : MetaAt (w6.alloc (.cells #[.int .u64 m.q, .int .i64 m.r, .int .i64 m.k, .int .i64 m.d] 24)) w6.heap.size m.q m.r m.k m.d := heap_alloc_new w6 _
              have h7 := h6.alloc (.cells #[.int .u64 m.q, .int .i64 m.r, .int .i64 m.k, .int .i64 m.d] 24)
              go_upto_region 21 with fail
              generalize w6.alloc (.cells #[.int .u64 m.q, .int .i64 m.r, .int .i64 m.k, .int .i64 m.d] 24) = W7 at *
              generalize w6.heap.size = xb at *
              obtain ⟨d0, d1, d2, d3⟩ := hM7.cells
              obtain ⟨f0, f1, f2, f3⟩ := hm7.cells
              obtain ⟨g0', g1', g2', g3'⟩ := hm7.frozen
              obtain ⟨j0, j1, j2, j3⟩ := hx7.cells
              go_wp2_with (first | (go_at_call 14; refine (num_any _ _ (by omega) (by omega)).mono ?_; rintro e w' ⟨rfl, hw'⟩; subst w'))
              refine ⟨⟨k + 1, F5, _, m, by omega, by go_num, held_four h7 hwb nF5 _ _ _ _, hs5, metaSet hm7, nF5, by first | (show Q ≤ k + 1 + 1; omega) | omega, ?_⟩, ?_⟩
              · have := hopsT; show _ ≤ _; exact (by omega : _)
              · simp [intOf]; omega
          | true =>
            obtain ⟨e1, hon, hoff⟩ := sw_on hsw a.n (by omega) a.r a.k a.d a.keep a.torn (by rw [← hQ.out]; exact hok) hl
            rw [← hQ.out] at e1 hon hoff
            rw [e1]
            have ho4 := sync_ops ((s.arm a.n).writeM 2 Q a.r a.k a.d)
            have hopsT : ((((s.arm a.n).writeM 2 Q a.r a.k a.d)).sync.crash a.keep a.torn).ops ≤ 2 * (k + 1) + 2 := by show ((s.arm a.n).writeM 2 Q a.r a.k a.d).sync.ops ≤ _; omega
            go_wp2_with (first | (go_at_call 14; refine (num_any _ _ (by omega) (by omega)).mono ?_; rintro e w' ⟨rfl, hw'⟩; subst w'))
            refine (held_sync h3 (by omega)).mono ?_
            rintro e w4 ⟨rfl, F4, h4, hf4, hF4⟩
            have hMT := hM3.keep (hf4.block _ hM3.lt nM3)
            have hmT := hm3.keep (hf4.block _ hm3.lt nW3)
            have nFm : ¬ F4 mb := fun hh => by rcases hF4 _ hh with h1 | h1; exact nM3 h1; exact absurd hM3.lt (by omega)
            have nFw : ¬ F4 wb := fun hh => by rcases hF4 _ hh with h1 | h1; exact nW3 h1; exact absurd hm3.lt (by omega)
            clear h3 hM3 hm3 hf4 hF4
            cases hl2 : ((s.arm a.n).writeM 2 Q a.r a.k a.d).live with
            | true =>
              have hs5 := hon hl2
              have he4 : ((s.arm a.n).writeM 2 Q a.r a.k a.d).errOp = 0 := by unfold St.errOp; rw [hl2]; rfl
              rw [he4]
              clear hon hoff
              as_aux_lemma =>
                have hbT := h4.below
                have x7 := key _ _ p7 _ hbT
                have x8 := key _ _ p8 _ hbT
                have hKT := Ints.grow z6.out hbT
                have hTT := Torns.grow z7.out hbT
                go_wp2_with (first | (go_at_call 14; refine (num_any _ _ (by omega) (by omega)).mono ?_; rintro e w' ⟨rfl, hw'⟩; subst w'))
                go_region_held3 (fun W => W.cell? ⟨b, o + k * 9 + 7, none⟩ = some (.slice ak lk ck) ∧ W.cell? ⟨b, o + k * 9 + 8, none⟩ = some (.slice at' lt' ct)) (first | exact ⟨x7, x8⟩ | exact ⟨key _ _ p7 _ hb5, key _ _ p8 _ hb5⟩) (first | (go_at_call 26; refine (held_crash (h4.grow ((Below.refl _ _).drew)) (by omega) a.keep a.torn _ _ (Ints.grow hKT ((Below.refl _ _).drew)) (Torns.grow hTT ((Below.refl _ _).drew)) (by have := hlk.out; omega) (by have := hlt'.out; omega) hkk htt).mono ?_; rintro e w5 ⟨rfl, F5, h5, hf5, hF5⟩; have hb5 := h5.below))
                have hM5 := hMT.keep (hf5.block _ hMT.lt nFm)
                have hm5 := hmT.keep (hf5.block _ hmT.lt nFw)
                have nF5 : ¬ F5 wb := fun hh => by rcases hF5 _ hh with h1 | h1; exact nFw h1; exact absurd hmT.lt (by have : _ ≤ wb := h1; simp at this; omega)
                obtain ⟨bb1, bb2⟩ := sw_best hs5
                go_wp2_with fail
                refine (best_any h5.disk (fun n => byt_now hs5.byt n) 2).mono ?_
                rintro e w6 ⟨rfl, hb6⟩
                rw [bb1, bb2]
                simp only [Mt.val]
                have hM6 := hM5.keep (hb6.block _ hM5.lt)
                have hm6 := hm5.keep (hb6.block _ hm5.lt)
                have h6 := h5.grow hb6
                have hM7 : MetaAt (w6.alloc (.cells #[.int .u64 Q, .int .i64 a.r, .int .i64 a.k, .int .i64 a.d] 24)) mb Q a.r a.k a.d := hM6.keep ((heap_alloc w6 _).2 _ hM6.lt)
                have hm7 : MetaAt (w6.alloc (.cells #[.int .u64 Q, .int .i64 a.r, .int .i64 a.k, .int .i64 a.d] 24)) wb m.q m.r m.k m.d := hm6.keep ((heap_alloc w6 _).2 _ hm6.lt)
                have hx7 : MetaAt (w6.alloc (.cells #[.int .u64 Q, .int .i64 a.r, .int .i64 a.k, .int .i64 a.d] 24)) w6.heap.size Q a.r a.k a.d := heap_alloc_new w6 _
                have h7 := h6.alloc (.cells #[.int .u64 Q, .int .i64 a.r, .int .i64 a.k, .int .i64 a.d] 24)
                go_upto_region 21 with fail
                generalize w6.alloc (.cells #[.int .u64 Q, .int .i64 a.r, .int .i64 a.k, .int .i64 a.d] 24) = W7 at *
                generalize w6.heap.size = xb at *
                obtain ⟨d0, d1, d2, d3⟩ := hM7.cells
                obtain ⟨f0, f1, f2, f3⟩ := hm7.cells
                obtain ⟨g0', g1', g2', g3'⟩ := hm7.frozen
                obtain ⟨j0, j1, j2, j3⟩ := hx7.cells
                go_wp2_with (first | (go_at_call 14; refine (num_any _ _ (by omega) (by omega)).mono ?_; rintro e w' ⟨rfl, hw'⟩; subst w'))
                refine ⟨⟨k + 1, F5, _, ⟨Q, a.r, a.k, a.d⟩, by omega, by go_num, held_four h7 hwb nF5 _ _ _ _, hs5, metaSet hm7, nF5, by first | (show Q ≤ k + 1 + 1; omega) | omega, ?_⟩, ?_⟩
                · have := hopsT; show _ ≤ _; exact (by omega : _)
                · simp [intOf]; omega
            | false =>
              have he4 : ((s.arm a.n).writeM 2 Q a.r a.k a.d).errOp = 20 := by unfold St.errOp; rw [hl2]; rfl
              rw [he4]
              rcases hoff hl2 with hs5 | hs5
              · clear hon hoff
                as_aux_lemma =>
                  have hbT := h4.below
                  have x7 := key _ _ p7 _ hbT
                  have x8 := key _ _ p8 _ hbT
                  have hKT := Ints.grow z6.out hbT
                  have hTT := Torns.grow z7.out hbT
                  go_wp2_with (first | (go_at_call 14; refine (num_any _ _ (by omega) (by omega)).mono ?_; rintro e w' ⟨rfl, hw'⟩; subst w'))
                  go_region_held3 (fun W => W.cell? ⟨b, o + k * 9 + 7, none⟩ = some (.slice ak lk ck) ∧ W.cell? ⟨b, o + k * 9 + 8, none⟩ = some (.slice at' lt' ct)) (first | exact ⟨x7, x8⟩ | exact ⟨key _ _ p7 _ hb5, key _ _ p8 _ hb5⟩) (first | (go_at_call 26; refine (held_crash (h4.grow ((Below.refl _ _).drew)) (by omega) a.keep a.torn _ _ (Ints.grow hKT ((Below.refl _ _).drew)) (Torns.grow hTT ((Below.refl _ _).drew)) (by have := hlk.out; omega) (by have := hlt'.out; omega) hkk htt).mono ?_; rintro e w5 ⟨rfl, F5, h5, hf5, hF5⟩; have hb5 := h5.below))
                  have hM5 := hMT.keep (hf5.block _ hMT.lt nFm)
                  have hm5 := hmT.keep (hf5.block _ hmT.lt nFw)
                  have nF5 : ¬ F5 wb := fun hh => by rcases hF5 _ hh with h1 | h1; exact nFw h1; exact absurd hmT.lt (by have : _ ≤ wb := h1; simp at this; omega)
                  obtain ⟨bb1, bb2⟩ := sw_best hs5
                  go_wp2_with fail
                  refine (best_any h5.disk (fun n => byt_now hs5.byt n) 2).mono ?_
                  rintro e w6 ⟨rfl, hb6⟩
                  rw [bb1, bb2]
                  simp only [Mt.val]
                  have hM6 := hM5.keep (hb6.block _ hM5.lt)
                  have hm6 := hm5.keep (hb6.block _ hm5.lt)
                  have h6 := h5.grow hb6
                  have hM7 : MetaAt (w6.alloc (.cells #[.int .u64 m.q, .int .i64 m.r, .int .i64 m.k, .int .i64 m.d] 24)) mb Q a.r a.k a.d := hM6.keep ((heap_alloc w6 _).2 _ hM6.lt)
                  have hm7 : MetaAt (w6.alloc (.cells #[.int .u64 m.q, .int .i64 m.r, .int .i64 m.k, .int .i64 m.d] 24)) wb m.q m.r m.k m.d := hm6.keep ((heap_alloc w6 _).2 _ hm6.lt)
                  have hx7 : MetaAt (w6.alloc (.cells #[.int .u64 m.q, .int .i64 m.r, .int .i64 m.k, .int .i64 m.d] 24)) w6.heap.size m.q m.r m.k m.d := heap_alloc_new w6 _
                  have h7 := h6.alloc (.cells #[.int .u64 m.q, .int .i64 m.r, .int .i64 m.k, .int .i64 m.d] 24)
                  go_upto_region 21 with fail
                  generalize w6.alloc (.cells #[.int .u64 m.q, .int .i64 m.r, .int .i64 m.k, .int .i64 m.d] 24) = W7 at *
                  generalize w6.heap.size = xb at *
                  obtain ⟨d0, d1, d2, d3⟩ := hM7.cells
                  obtain ⟨f0, f1, f2, f3⟩ := hm7.cells
                  obtain ⟨g0', g1', g2', g3'⟩ := hm7.frozen
                  obtain ⟨j0, j1, j2, j3⟩ := hx7.cells
                  go_wp2_with (first | (go_at_call 14; refine (num_any _ _ (by omega) (by omega)).mono ?_; rintro e w' ⟨rfl, hw'⟩; subst w'))
                  refine ⟨⟨k + 1, F5, _, m, by omega, by go_num, held_four h7 hwb nF5 _ _ _ _, hs5, metaSet hm7, nF5, by first | (show Q ≤ k + 1 + 1; omega) | omega, ?_⟩, ?_⟩
                  · have := hopsT; show _ ≤ _; exact (by omega : _)
                  · simp [intOf]; omega
              · clear hon hoff
                as_aux_lemma =>
                  have hbT := h4.below
                  have x7 := key _ _ p7 _ hbT
                  have x8 := key _ _ p8 _ hbT
                  have hKT := Ints.grow z6.out hbT
                  have hTT := Torns.grow z7.out hbT
                  go_wp2_with (first | (go_at_call 14; refine (num_any _ _ (by omega) (by omega)).mono ?_; rintro e w' ⟨rfl, hw'⟩; subst w'))
                  go_region_held3 (fun W => W.cell? ⟨b, o + k * 9 + 7, none⟩ = some (.slice ak lk ck) ∧ W.cell? ⟨b, o + k * 9 + 8, none⟩ = some (.slice at' lt' ct)) (first | exact ⟨x7, x8⟩ | exact ⟨key _ _ p7 _ hb5, key _ _ p8 _ hb5⟩) (first | (go_at_call 26; refine (held_crash (h4.grow ((Below.refl _ _).drew)) (by omega) a.keep a.torn _ _ (Ints.grow hKT ((Below.refl _ _).drew)) (Torns.grow hTT ((Below.refl _ _).drew)) (by have := hlk.out; omega) (by have := hlt'.out; omega) hkk htt).mono ?_; rintro e w5 ⟨rfl, F5, h5, hf5, hF5⟩; have hb5 := h5.below))
                  have hM5 := hMT.keep (hf5.block _ hMT.lt nFm)
                  have hm5 := hmT.keep (hf5.block _ hmT.lt nFw)
                  have nF5 : ¬ F5 wb := fun hh => by rcases hF5 _ hh with h1 | h1; exact nFw h1; exact absurd hmT.lt (by have : _ ≤ wb := h1; simp at this; omega)
                  obtain ⟨bb1, bb2⟩ := sw_best hs5
                  go_wp2_with fail
                  refine (best_any h5.disk (fun n => byt_now hs5.byt n) 2).mono ?_
                  rintro e w6 ⟨rfl, hb6⟩
                  rw [bb1, bb2]
                  simp only [Mt.val]
                  have hM6 := hM5.keep (hb6.block _ hM5.lt)
                  have hm6 := hm5.keep (hb6.block _ hm5.lt)
                  have h6 := h5.grow hb6
                  have hM7 : MetaAt (w6.alloc (.cells #[.int .u64 Q, .int .i64 a.r, .int .i64 a.k, .int .i64 a.d] 24)) mb Q a.r a.k a.d := hM6.keep ((heap_alloc w6 _).2 _ hM6.lt)
                  have hm7 : MetaAt (w6.alloc (.cells #[.int .u64 Q, .int .i64 a.r, .int .i64 a.k, .int .i64 a.d] 24)) wb m.q m.r m.k m.d := hm6.keep ((heap_alloc w6 _).2 _ hm6.lt)
                  have hx7 : MetaAt (w6.alloc (.cells #[.int .u64 Q, .int .i64 a.r, .int .i64 a.k, .int .i64 a.d] 24)) w6.heap.size Q a.r a.k a.d := heap_alloc_new w6 _
                  have h7 := h6.alloc (.cells #[.int .u64 Q, .int .i64 a.r, .int .i64 a.k, .int .i64 a.d] 24)
                  go_upto_region 21 with fail
                  generalize w6.alloc (.cells #[.int .u64 Q, .int .i64 a.r, .int .i64 a.k, .int .i64 a.d] 24) = W7 at *
                  generalize w6.heap.size = xb at *
                  obtain ⟨d0, d1, d2, d3⟩ := hM7.cells
                  obtain ⟨f0, f1, f2, f3⟩ := hm7.cells
                  obtain ⟨g0', g1', g2', g3'⟩ := hm7.frozen
                  obtain ⟨j0, j1, j2, j3⟩ := hx7.cells
                  go_wp2_with (first | (go_at_call 14; refine (num_any _ _ (by omega) (by omega)).mono ?_; rintro e w' ⟨rfl, hw'⟩; subst w'))
                  refine ⟨⟨k + 1, F5, _, ⟨Q, a.r, a.k, a.d⟩, by omega, by go_num, held_four h7 hwb nF5 _ _ _ _, hs5, metaSet hm7, nF5, by first | (show Q ≤ k + 1 + 1; omega) | omega, ?_⟩, ?_⟩
                  · have := hopsT; show _ ≤ _; exact (by omega : _)
                  · simp [intOf]; omega
        · obtain ⟨e1, e2⟩ := sw_arg (s := s) (m := m) a.n a.r a.k a.d (by rw [← hQ.out]; exact hok)
          rw [← hQ.out] at e1 e2
          rw [e1]
          rw [e2] at h3
          as_aux_lemma =>
            go_wp2_with (first | (go_at_call 14; refine (num_any _ _ (by omega) (by omega)).mono ?_; rintro e w' ⟨rfl, hw'⟩; subst w'))
            refine (held_arm h3 (-1) (by omega) (by omega)).mono ?_
            rintro e w4 ⟨rfl, h4, hf4⟩
            have hm4 := hm3.keep (hf4.block _ hm3.lt nW3)
            have ho4 := arm_ops (s.arm a.n) (-1)
            go_wp2_with fail
            refine ⟨⟨k + 1, F3, _, m, by omega, by go_num, h4, sw_arm (sw_arm hsw a.n) (-1), hm4, nW3, by omega, by omega⟩, ?_⟩
            simp [intOf]; omega
      · have hkd : decide ((k : Int) < (n0 : Int)) = false := by simp; omega
        have hbw := h.below
        go_wp2_with (first | (go_at_call 9; refine (live_any _).mono ?_; rintro e w9 ⟨rfl, hb9⟩))
        go_ret
        exact ⟨rfl, hbw.trans (hb9.mono hbw.size)⟩
end Go.Proofs.YtcgjolonapndgabDoor
