/- The walk of MetaPlays. -/
import Derived.Test.YtcgjolonapndgabDoorMActs
import Derived.Test.YtcgjolonapndgabDoorRMWri
import Derived.Test.YtcgjolonapndgabDoorRMBst
import Derived.Test.YtcgjolonapndgabDoorTwoW
import Derived.Deep.RegionHeld3
import Derived.Deep.CutBlock
import Derived.Deep.DeepCutAuto
namespace Go.Proofs.YtcgjolonapndgabDoor
set_option linter.unusedVariables false
open Go.RowKit Go.Maps Go.ChangeMaps Go.MapKept
theorem sync_dims (s : St) : s.sync.ops ≤ s.ops + 1 ∧ s.sync.sectors = s.sectors ∧ s.sync.size = s.size := by
  obtain ⟨e1, e2, _, _, _, e6⟩ := op_same s
  unfold St.sync
  split
  · exact ⟨e6, e1, e2⟩
  · exact ⟨e6, e1, e2⟩
theorem arm_dims (s : St) (n : Int) : (s.arm n).ops = s.ops ∧ (s.arm n).sectors = s.sectors ∧ (s.arm n).size = s.size := by
  unfold St.arm
  split <;> exact ⟨rfl, rfl, rfl⟩
theorem byt_arm {s : St} (h : Byt s) (n : Int) : Byt (s.arm n) := by
  unfold St.arm
  split
  · exact h
  · exact h
theorem writeM_dims (s : St) (per : Int) (q : Nat) (r k d : Int) : (s.writeM per q r k d).ops ≤ s.ops + 1 ∧ (s.writeM per q r k d).sectors = s.sectors ∧ (s.writeM per q r k d).size = s.size := by
  unfold St.writeM
  split
  · exact ⟨by omega, rfl, rfl⟩
  · exact write_dims s _ _
theorem errM_in (s : St) (per : Int) (q : Nat) (r k d : Int) : 0 ≤ s.errM per q r k d ∧ s.errM per q r k d ≤ 20 := by
  unfold St.errM
  split
  · omega
  · exact errWrite_in s _ _
theorem errB_in (s : St) (per : Int) : 0 ≤ s.errB per ∧ s.errB per ≤ 40 := by
  unfold St.errB
  split <;> (try split) <;> (try split) <;> omega
section
variable {w wr : World} {p r : Nat} {F G : Nat → Prop} {s t : St}
theorem two_mwrite (h : Two w wr p r F G s t) (hops : s.ops < 17592186044416) (per : Int) (q : Nat) (x k d : Int) (hq : q < 2 ^ 64) (hk : -9223372036854775808 ≤ k ∧ k ≤ 9223372036854775807) (W : World) (hW : Below wr.heap.size wr W) :
    Calls Tryd.prog 18 #[.pointer (some ⟨p, 0, none⟩), .int .i64 per, .agg #[.int .u64 q, .int .i64 x, .int .i64 k, .int .i64 d]] W fun e w' => e = .returned (.int .i64 (s.errM per q x k d)) ∧ ∃ F', Two w w' p r F' G (s.writeM per q x k d) t ∧ Frm F wr w' := by
  have hT := h.grow hW
  refine (mwrite_any hT.held hops per q x k d hq hk).mono ?_
  rintro e w' ⟨rfl, hg⟩
  obtain ⟨F', h1, _, h3⟩ := hT.gone hg
  exact ⟨rfl, F', h1, (Frm.of_below hW F).trans h3 (fun _ h => .inl h)⟩
theorem two_rmwrite (h : Two w wr p r F G s t) (hops : t.ops < 17592186044416) (per : Int) (q : Nat) (x k d : Int) (hq : q < 2 ^ 64) (hk : -9223372036854775808 ≤ k ∧ k ≤ 9223372036854775807) :
    Calls Tryd.prog 19 #[.pointer (some ⟨r, 0, none⟩), .int .i64 per, .agg #[.int .u64 q, .int .i64 x, .int .i64 k, .int .i64 d]] wr fun e w' => e = .returned (.int .i64 (t.errM per q x k d)) ∧ ∃ G', Two w w' p r F G' s (t.writeM per q x k d) ∧ Frm G wr w' := by
  refine (rmwrite_any h.ref (fun k hk => (h.gb k hk).2) hops per q x k d hq hk).mono ?_
  rintro e w' ⟨rfl, hg⟩
  obtain ⟨G', h1, _, h3⟩ := h.turned hg
  exact ⟨rfl, G', h1, h3⟩
theorem two_write1 (h : Two w wr p r F G s t) (hops : s.ops < 17592186044416) (n : Int) (hn : In64 n) (u : Value) (x : List Int) (hu : Bts wr u x) (b1 : x ≠ [] → ∀ j, u.ownBlock = some j → ¬ F j) :
    Calls Tryd.prog 20 #[.pointer (some ⟨p, 0, none⟩), .int .i64 n, .slice (some ⟨wr.heap.size, 0, none⟩) 1 1] (wr.alloc (.cells #[u] 25)) fun e w' => e = .returned (.int .i64 (s.errWrite n [x])) ∧ ∃ F', Two w w' p r F' G (s.write n [x]) t ∧ Frm F wr w' := by
  have hb0 : Below wr.heap.size wr (wr.alloc (.cells #[u] 25)) := (Below.refl _ wr).alloc (Nat.le_refl _) _
  have hT := h.grow hb0
  refine (held_write hT.held hops n _ [x] (listsB1 (P := fun b => ¬ F b) hu (fun hf => by have := (h.held.blocks _ hf).2; omega) b1) (by simp) hn.1 hn.2).mono ?_
  rintro e w' ⟨rfl, hg⟩
  obtain ⟨F', h1, _, h3⟩ := hT.gone hg
  exact ⟨rfl, F', h1, (Frm.of_below hb0 F).trans h3 (fun _ h => .inl h)⟩
theorem Two.notIn (h : Two w wr p r F G s t) : ¬ F wr.heap.size ∧ ¬ G wr.heap.size := ⟨fun hh => absurd (h.held.blocks _ hh).2 (by omega), fun hh => absurd (h.gb _ hh).2 (by omega)⟩
end
/-- The nine cells of an act's copy. -/
def Copy (W : World) (A : Nat) (c : Array Value) : Prop := W.heap[A]? = some (.cells c 47 (0, 0))
theorem Copy.cell {W : World} {A : Nat} {c : Array Value} (h : Copy W A c) (i : Nat) (v : Value) (hv : c[i]? = some v) : W.cell? ⟨A, i, none⟩ = some v := by
  unfold Copy at h
  simp [World.cell?, h, hv]
theorem Copy.keep {W W' : World} {A : Nat} {c : Array Value} (h : Copy W A c) (e : W'.heap[A]? = W.heap[A]?) : Copy W' A c := e.trans h
theorem Copy.lt {W : World} {A : Nat} {c : Array Value} (h : Copy W A c) : A < W.heap.size := (Array.getElem?_eq_some_iff.1 h).1
set_option maxRecDepth 100000 in
set_option maxHeartbeats 16000000 in
theorem mp_main (w : World) (sectors size : Nat) (q1 : 1 ≤ sectors) (q2 : sectors ≤ 60) (q3 : 64 ≤ size) (q4 : size ≤ 200) (per : Int) (a0 : Option Addr) (n0 c0 : Nat) (l : List Deed) (h0 : Acts w (.slice a0 n0 c0) l) (e0 : Hid (n0 = l.length)) (hlen0 : Hid (∀ x ∈ l, x.p.length ≤ 140737488355328 ∧ x.keep.length ≤ 140737488355328 ∧ x.torn.length ≤ 140737488355328)) :
    Calls Tryd.prog 4 #[.int .i64 sectors, .int .i64 size, .int .i64 per, .slice a0 n0 c0] w fun e w' => e = .returned (.bool true) ∧ Below w.heap.size w w' := by
  have hu0 := huge2_any _ _ h0 hlen0.out
  have g0 : Hid (∀ t, t < n0 → ∃ b o, a0 = some ⟨b, o, none⟩ ∧ ActAt w b (o + t * 9) (l.getD t act0) ∧ ActIn (l.getD t act0)) := by
    show ∀ t, _ → _
    intro t ht
    have := e0.out
    obtain ⟨a, c, q1, q2, q3⟩ := h0
    cases q1
    rcases q3 with q3 | ⟨b, o, q3, q4⟩
    · rw [q3] at ht; simp at ht
    · exact ⟨b, o, q3, q4 t (by omega), q2 _ (by rw [List.getD_eq_getElem?_getD, List.getElem?_eq_getElem (by omega)]; simp)⟩
  clear h0
  have dd1 : decide ((60 : Int) < (sectors : Int)) = false := by simp; omega
  have dd2 : decide ((200 : Int) < (size : Int)) = false := by simp; omega
  go_enter Tryd.func4, Tryd.ntmps4
  go_wp2_with fail
  refine hu0.mono ?_
  rintro e w1 ⟨B0, rfl, hB0, m0, rfl⟩
  clear hu0
  have hb1 : Below w.heap.size w (w.drewN m0) := (Frm.of_below (Below.refl _ w) (fun _ => False)).drewN m0 |>.below (Nat.le_refl _) (fun _ h => h.elim)
  cases B0 with
  | true =>
    clear hB0
    go_wp2_with (first | (go_at_call 9; refine (live_any _).mono ?_; rintro e w2 ⟨rfl, hb2⟩))
    go_ret
    exact ⟨rfl, hb1.trans (hb2.mono hb1.size)⟩
  | false =>
    have hn0 : n0 ≤ 60 := by rw [e0.out]; exact (hB0 rfl).1
    have hlen : Hid (∀ x ∈ l, x.p.length ≤ 20000 ∧ x.keep.length ≤ 20000 ∧ x.torn.length ≤ 20000) := (hB0 rfl).2
    clear hB0
    generalize w.drewN m0 = w1 at hb1 ⊢
    have hnew := held_new (w := w) (W := w1) sectors size q1 (by omega) q3 (by omega) hb1
    go_wp2_with (first | (go_at_call 16; refine hnew.mono ?_; rintro e w2 ⟨p, rfl, hh2, hx2⟩) | (go_at_call 17; refine (refNew_ok sectors size q1 (by omega) q3 (by omega) _).mono ?_; rintro e w3 ⟨r, rfl, hr3, hb3⟩) | (go_at_call 14; refine (num_any _ _ (by omega) (by omega)).mono ?_; rintro e w4 ⟨rfl, hw4⟩; subst w4))
    have t3 : Two w w3 p r (fun k => w1.heap.size ≤ k ∧ k < w2.heap.size) (fun k => w2.heap.size ≤ k ∧ k < w3.heap.size) (St.new sectors size) (St.new sectors size) :=
      ⟨hh2.grow hb3, hr3, fun k hk => ⟨Nat.le_trans hh2.le hk.1, hk.2⟩, fun k hk hk2 => by omega⟩
    clear hh2 hr3 hb3 hx2 hnew hb1
    go_loopw [13] (fun i wr => ∃ (k : Nat) (F G : Nat → Prop) (s : St), k ≤ n0 ∧ i = .int .i64 k ∧ Two w wr p r F G s s ∧ s.ops ≤ k ∧ Byt s) (fun i _ => n0 - (intOf i).toNat)
    case atStart => exact ⟨0, _, _, _, Nat.zero_le _, rfl, t3, Nat.le_refl _, byt_new _ _⟩
    case round =>
      clear t3
      obtain ⟨k, F, G, s, hk, rfl, h2, hops, hbyt⟩ := hrel
      by_cases hlt : k < n0
      · have hkn : (k : Int) < (n0 : Int) := by omega
        obtain ⟨b, o, rfl, hact, hin⟩ := g0.out k hlt
        have hle := hlen.out (l.getD k act0) (by have := e0.out; rw [List.getD_eq_getElem?_getD, List.getElem?_eq_getElem (by omega)]; simp)
        generalize l.getD k act0 = a at hact hin hle
        obtain ⟨vp, vk, vt, p0, p1, p2, p3, p4, p5, p6, p7, p8, z5, z6, z7⟩ := hact
        have hbw := h2.held.below
        have key : ∀ q u, w.cell? ⟨b, q, none⟩ = some u → wr.cell? ⟨b, q, none⟩ = some u := fun q u hh => (hbw.cell (p := ⟨b, q, none⟩) (World.block_lt_of_cell? w _ hh)).trans hh
        have x0 := key _ _ p0
        have x1 := key _ _ p1
        have x2 := key _ _ p2
        have x3 := key _ _ p3
        have x4 := key _ _ p4
        have x5 := key _ _ p5
        have x6 := key _ _ p6
        have x7 := key _ _ p7
        have x8 := key _ _ p8
        clear p0 p1 p2 p3 p4 p5 p6 p7 p8 key
        have z5' := z5
        have z6' := z6
        have z7' := z7
        obtain ⟨ap, cp, rfl, _⟩ := z5'
        obtain ⟨ak, ck, rfl, _⟩ := z6'
        obtain ⟨at', ct, rfl, _⟩ := z7'
        generalize hlp : a.p.length = lp at x6 z5 hle
        generalize hlk : a.keep.length = lk at x7 z6 hle
        generalize hlt' : a.torn.length = lt' at x8 z7 hle
        replace z5 : Hid _ := z5
        replace z6 : Hid _ := z6
        replace z7 : Hid _ := z7
        replace hlp : Hid _ := hlp
        replace hlk : Hid _ := hlk
        replace hlt' : Hid _ := hlt'
        obtain ⟨hdk, ⟨hq1, hq2, hq3, hq4⟩, hdn, hdp, hkk, htt⟩ := hin
        obtain ⟨C, hC⟩ : ∃ C : Array Value, C = #[.int .i64 a.kind, .int .u64 a.q, .int .i64 a.r, .int .i64 a.k, .int .i64 a.d, .int .i64 a.n, .slice ap lp cp, .slice ak lk ck, .slice at' lt' ct] := ⟨_, rfl⟩
        go_upto_block 2 with fail
        rw [← hC]
        have t2 := h2.grow ((Below.refl _ wr).alloc (Nat.le_refl _) (.cells C 47))
        have hA : Copy (wr.alloc (.cells C 47)) wr.heap.size C := heap_alloc_new wr _
        obtain ⟨nAF, nAG⟩ := h2.notIn
        generalize wr.alloc (.cells C 47) = wq at *
        generalize wr.heap.size = A at *
        clear x0 x1 x2 x3 x4 x5 x6 x7 x8 hbw h2
        have cAll : Hid (∀ W : World, W.heap[A]? = wq.heap[A]? → W.cell? ⟨A, 0, none⟩ = some (.int .i64 a.kind) ∧ W.cell? ⟨A, 1, none⟩ = some (.int .u64 a.q) ∧ W.cell? ⟨A, 2, none⟩ = some (.int .i64 a.r) ∧ W.cell? ⟨A, 3, none⟩ = some (.int .i64 a.k) ∧ W.cell? ⟨A, 4, none⟩ = some (.int .i64 a.d) ∧ W.cell? ⟨A, 5, none⟩ = some (.int .i64 a.n) ∧ W.cell? ⟨A, 6, none⟩ = some (.slice ap lp cp) ∧ W.cell? ⟨A, 7, none⟩ = some (.slice ak lk ck) ∧ W.cell? ⟨A, 8, none⟩ = some (.slice at' lt' ct)) := by
          show ∀ W, _ → _
          intro W hW
          have hh := hA.keep hW
          rw [hC] at hh
          exact ⟨hh.cell 0 _ rfl, hh.cell 1 _ rfl, hh.cell 2 _ rfl, hh.cell 3 _ rfl, hh.cell 4 _ rfl, hh.cell 5 _ rfl, hh.cell 6 _ rfl, hh.cell 7 _ rfl, hh.cell 8 _ rfl⟩
        clear hC
        obtain ⟨y0, y1, y2, y3, y4, y5, y6, y7, y8⟩ := cAll.out wq rfl
        have hAl := hA.lt
        go_cut [14] (fun x14 wc => ∃ (F' G' : Nat → Prop) (s' : St), Two w wc p r F' G' s' s' ∧ s'.ops ≤ k + 1 ∧ Byt s')
        case first => as_aux_lemma =>
          have hop2 : s.ops < 17592186044416 := by omega
          by_cases k0 : a.kind = 0
          · have e0 : (a.kind == 0) = true := by simp [k0]
            clear k0
            as_aux_lemma =>
              have hmw := fun W hW => two_mwrite t2 hop2 per a.q a.r a.k a.d hq1 ⟨hq3.1, hq3.2⟩ W hW
              have hme := errM_in s per a.q a.r a.k a.d
              have hdm := writeM_dims s per a.q a.r a.k a.d
              have hbm := byt_writeM hbyt per a.q a.r a.k a.d
              have cM : ∀ W : World, W.heap[A]? = wq.heap[A]? → (fun W : World => W.cell? ⟨A, 1, none⟩ = some (.int .u64 a.q) ∧ W.cell? ⟨A, 2, none⟩ = some (.int .i64 a.r) ∧ W.cell? ⟨A, 3, none⟩ = some (.int .i64 a.k) ∧ W.cell? ⟨A, 4, none⟩ = some (.int .i64 a.d)) W := fun W hW => by
                obtain ⟨_, i1, i2, i3, i4, _⟩ := cAll.out W hW
                exact ⟨i1, i2, i3, i4⟩
              go_wp2_with fail
              go_region_held3 (fun W : World => W.cell? ⟨A, 1, none⟩ = some (.int .u64 a.q) ∧ W.cell? ⟨A, 2, none⟩ = some (.int .i64 a.r) ∧ W.cell? ⟨A, 3, none⟩ = some (.int .i64 a.k) ∧ W.cell? ⟨A, 4, none⟩ = some (.int .i64 a.d)) (first | exact cM _ rfl | exact cM _ hA4 | exact cM _ hA5)
                (first
                  | (go_at_call 18; refine (hmw _ ((Below.refl _ _).drew)).mono ?_; rintro e w4 ⟨rfl, F4, t4, f4⟩; have hA4 : w4.heap[A]? = wq.heap[A]? := f4.block _ hAl nAF)
                  | (go_at_call 14; refine (num_any _ _ (by omega) (by omega)).mono ?_; rintro e w' ⟨rfl, hw'⟩; subst w')
                  | (go_at_call 19; refine (two_rmwrite t4 hop2 per a.q a.r a.k a.d hq1 ⟨hq3.1, hq3.2⟩).mono ?_; rintro e w5 ⟨rfl, G5, t5, f5⟩; have hA5 : w5.heap[A]? = wq.heap[A]? := (f5.block _ (Nat.lt_of_lt_of_le hAl f4.size) nAG).trans hA4))
              go_wp2_with fail
              go_meet
              case rel => exact ⟨F4, G5, _, t5, by omega, hbm⟩
          · have e0 : (a.kind == 0) = false := by simp [k0]
            by_cases k1 : a.kind = 1
            · have e1 : (a.kind == 1) = true := by simp [k1]
              clear k0 k1
              as_aux_lemma =>
                have hw1 := two_write1 t2 hop2 a.n hdn (.slice ap lp cp) a.p (Bts.grow z5.out t2.held.below) (fun hne j hj hF => absurd (Bts.lt z5.out hne j hj) (by have := (t2.held.blocks j hF).1; omega))
                have hdm := write_dims s a.n [a.p]
                have hbm := byt_write hbyt a.n [a.p] (by simpa using hdp)
                go_wp2_with (first
                  | (go_at_call 20; refine hw1.mono ?_; rintro e w4 ⟨rfl, F4, t4, f4⟩; have hA4 : w4.heap[A]? = wq.heap[A]? := f4.block _ hAl nAF; obtain ⟨i0, i1, i2, i3, i4, i5, i6, i7, i8⟩ := cAll.out w4 hA4; have hcv := conv_str (Bts.grow z5.out t4.held.below))
                  | (go_at_call 21; refine (two_refWrite t4 hop2 a.n a.p).mono ?_; rintro e w5 ⟨rfl, G5, t5, _, f5⟩))
                go_meet
                case rel => exact ⟨F4, G5, _, t5, by omega, hbm⟩
            · have e1 : (a.kind == 1) = false := by simp [k1]
              by_cases k2 : a.kind = 2
              · have e2 : (a.kind == 2) = true := by simp [k2]
                clear k0 k1 k2
                as_aux_lemma =>
                  have hsy := two_sync t2 hop2
                  have hsd := sync_dims s
                  go_wp2_with (first
                    | (go_at_call 22; refine hsy.mono ?_; rintro e w4 ⟨rfl, F4, t4⟩)
                    | (go_at_call 23; refine (two_refSync t4 hop2).mono ?_; rintro e w5 ⟨rfl, G5, t5⟩))
                  go_meet
                  case rel => exact ⟨F4, G5, _, t5, by omega, byt_sync hbyt⟩
              · have e2 : (a.kind == 2) = false := by simp [k2]
                by_cases k3 : a.kind = 3
                · have e3 : (a.kind == 3) = true := by simp [k3]
                  clear k0 k1 k2 k3
                  as_aux_lemma =>
                    have har := two_arm t2 a.n hdn
                    have hsd := arm_dims s a.n
                    go_wp2_with (first
                      | (go_at_call 24; refine har.mono ?_; rintro e w4 ⟨rfl, t4, f4⟩; obtain ⟨i0, i1, i2, i3, i4, i5, i6, i7, i8⟩ := cAll.out w4 (f4.block _ hAl nAF))
                      | (go_at_call 25; refine (two_refArm t4 a.n hdn).mono ?_; rintro e w5 ⟨rfl, t5⟩))
                    go_meet
                    case rel => exact ⟨F, G, _, t5, by omega, byt_arm hbyt a.n⟩
                · have e3 : (a.kind == 3) = false := by simp [k3]
                  by_cases k4 : a.kind = 4
                  · have e4 : (a.kind == 4) = true := by simp [k4]
                    clear k0 k1 k2 k3 k4
                    as_aux_lemma =>
                      have hcr := two_crash t2 hop2 a.keep a.torn _ _ (Ints.grow z6.out t2.held.below) (Torns.grow z7.out t2.held.below) (by have := hlk.out; omega) (by have := hlt'.out; omega) hkk htt
                      go_wp2_with (first
                        | (go_at_call 26; refine hcr.mono ?_; rintro e w4 ⟨rfl, F4, t4, f4⟩; obtain ⟨i0, i1, i2, i3, i4, i5, i6, i7, i8⟩ := cAll.out w4 (f4.block _ hAl nAF))
                        | (go_at_call 27; refine (two_refCrash t4 a.keep a.torn _ _ z6.out z7.out (by have := hlk.out; omega) (by have := hlt'.out; omega)).mono ?_; rintro e w5 ⟨rfl, G5, t5⟩))
                      go_meet
                      case rel => exact ⟨F4, G5, _, t5, (by show s.ops ≤ _; omega), byt_crash hbyt _ _⟩
                  · have e4 : (a.kind == 4) = false := by simp [k4]
                    clear k0 k1 k2 k3 k4
                    as_aux_lemma =>
                      go_wp2_with fail
                      go_meet
                      case rel => exact ⟨F, G, s, t2, by omega, hbyt⟩
        case rest => as_aux_lemma =>
          clear t2 y0 y1 y2 y3 y4 y5 y6 y7 y8 cAll hAl hA nAF nAG hops hbyt
          obtain ⟨F5, G5, s5, t5, hops5, hbyt5⟩ := hcut
          have hbest := best_any t5.held.disk (fun n => byt_now hbyt5 n) per
          have hln : ∀ n, (s5.now n).length ≤ 1000000 := by
            obtain ⟨gn, cn, gs, cs, gu, cu, hr⟩ := t5.ref
            intro n
            rw [hr.nowLen n]
            have := hr.size2
            omega
          have hrb := fun W (hW : Below _ _ W) => rmbest_any (t5.grow hW).ref (fun n => byt_now hbyt5 n) hln per
          have heb := errB_in s5 per
          simp only [Mt.val] at hbest hrb
          generalize (s5.best per).q = bq at *
          generalize (s5.best per).r = br at *
          generalize (s5.best per).k = bk at *
          generalize (s5.best per).d = bd at *
          generalize s5.errB per = be at *
          go_wp2_with fail
          refine hbest.mono ?_
          rintro e w6 ⟨rfl, hb6⟩
          have hb7 := hb6.alloc hb6.size (.cells #[.int .u64 bq, .int .i64 br, .int .i64 bk, .int .i64 bd] 24)
          have hx7 : MetaAt (w6.alloc (.cells #[.int .u64 bq, .int .i64 br, .int .i64 bk, .int .i64 bd] 24)) w6.heap.size bq br bk bd := heap_alloc_new w6 _
          go_upto_region 28 with fail
          generalize w6.alloc (.cells #[.int .u64 bq, .int .i64 br, .int .i64 bk, .int .i64 bd] 24) = W7 at *
          generalize w6.heap.size = xb at *
          go_wp2_with fail
          refine (hrb _ hb7).mono ?_
          rintro e w8 ⟨rfl, hb8⟩
          have hb8' := hb7.trans (hb8.mono hb7.size)
          have hx8 := hx7.keep (hb8.block _ hx7.lt)
          have hlx := hx8.lt
          obtain ⟨v0, v1, v2, v3⟩ := hx8.cells
          have hb9 := hb8'.alloc hb8'.size (.cells #[.int .u64 bq, .int .i64 br, .int .i64 bk, .int .i64 bd] 24)
          have t9 := t5.grow hb9
          clear hbest hrb hb6 hb7 hx7 hb8 t5
          go_wp2_with (first | (go_at_call 14; refine (num_any _ _ (by omega) (by omega)).mono ?_; rintro e w' ⟨rfl, hw'⟩; subst w'))
          refine ⟨⟨k + 1, F5, G5, s5, by omega, by go_num, t9, hops5, hbyt5⟩, ?_⟩
          simp [intOf]; omega
      · have hkd : decide ((k : Int) < (n0 : Int)) = false := by simp; omega
        have hbw := h2.held.below
        go_wp2_with (first | (go_at_call 9; refine (live_any _).mono ?_; rintro e w9 ⟨rfl, hb9⟩))
        go_ret
        exact ⟨rfl, hbw.trans (hb9.mono hbw.size)⟩
end Go.Proofs.YtcgjolonapndgabDoor
