/- The walk of DiskPlays. -/
import Derived.Test.YtcjmfibehofepaaTwoW
import Derived.Test.YtcjmfibehofepaaSafeW
import Derived.Test.YtcjmfibehofepaaCopyE
import Derived.Test.YtcjmfibehofepaaHuge2
import Derived.Deep.RegionHeld3
import Derived.Deep.CutBlock
import Derived.Deep.DeepCutAuto
namespace Go.Proofs.Ytcjmfibehofepaa
open Go.RowKit Go.Maps Go.ChangeMaps Go.MapKept
theorem below_dr (W : World) (n : Nat) : Below W.heap.size W (W.drewN n) := ⟨rfl, rfl, rfl, Nat.le_refl _, fun _ _ => rfl⟩
theorem row_bts {w : World} {g n : Nat} {xs : List Int} (h : Row w g xs) (hl : xs.length = n) : Bts w (slV n g) xs := by
  have := h.bts
  rw [hl] at this
  exact this
theorem sync_dims (s : St) : s.sync.ops ≤ s.ops + 1 ∧ s.sync.sectors = s.sectors ∧ s.sync.size = s.size := by
  obtain ⟨e1, e2, _, _, _, e6⟩ := op_same s
  unfold St.sync
  split
  · exact ⟨e6, e1, e2⟩
  · exact ⟨e6, e1, e2⟩
theorem arm_dims (s : St) (n : Int) : (s.arm n).ops = s.ops ∧ (s.arm n).sectors = s.sectors ∧ (s.arm n).size = s.size := by
  unfold St.arm
  split <;> exact ⟨rfl, rfl, rfl⟩
theorem errOp_in (s : St) : 0 ≤ s.errOp ∧ s.errOp ≤ 20 := by
  unfold St.errOp
  split <;> omega
theorem errRead_zero {s : St} {n : Int} (h : s.errRead n = 0) : (0 ≤ n ∧ n < s.sectors) ∧ s.dead = false := by
  unfold St.errRead at h
  by_cases hn : 0 ≤ n ∧ n < s.sectors
  · rw [if_pos hn] at h
    refine ⟨hn, ?_⟩
    cases hd : s.dead
    · rfl
    · rw [hd] at h; simp at h
  · rw [if_neg hn] at h; omega
theorem row_vrow {w : World} {g n : Nat} {xs : List Int} (h : Row w g xs) (hl : xs.length = n) : VRow 5 w g n n (fun i => .int .u8 (xs.getD i 0)) := by
  refine ⟨_, h, Nat.le_refl _, by simp [hl], fun i hi => ?_⟩
  have hi' : i < xs.length := by omega
  simp [hi']
theorem np {Q : Exit → Act → World → Prop} (d : Option Tmp) (v : Value) : ∀ c a w, NoPanic Q (.panic c) (a.put d v) w → NoPanic Q (.panic c) a w := fun _ _ _ h => False.elim h
/-- An operation of a drawn region that yields in every world that meets S. -/
theorem takeW {P : Program} {ops : Array Oper} {Q : Exit → Act → World → Prop} {md : Region.Mode} {S : World → Prop} {i : Nat} {oi : Oper} {v : Value} {fuel : Nat} {listed : Array Bool} {a : Act} {w : World} (d : Option Tmp) (hi : ops[i]? = some oi) (hd : oi.dst = d)
    (hs : Region.noSelect ops = true) (hf : Region.free md ops listed i = true) (hr : (Region.ready md ops listed).contains i = true)
    (hw : Region.wanted oi (yielded ops a.tmps) = true) (hS : S w) (hy : ∀ w, S w → (execOp a.eval oi).run P w = .ok (.value v) w)
    (h : wpAnyH P md ops (NoPanic Q) S fuel (listed.setIfInBounds i true) (a.put d v) w) : wpAnyH P md ops (NoPanic Q) S (fuel + 1) listed a w := by
  subst hd
  exact wpAnyH_take hi hs hf hr (np _ _) (Or.inl ⟨hw, hy⟩) hS h
theorem lt_of_cells {W : World} {g : Nat} {o : Obj} (h : W.heap[g]? = some o) : g < W.heap.size := (Array.getElem?_eq_some_iff.1 h).1
theorem crash_dims (s : St) (keep : List Int) (ts : List (Int × Int)) : (s.crash keep ts).ops = s.ops ∧ (s.crash keep ts).sectors = s.sectors ∧ (s.crash keep ts).size = s.size := ⟨rfl, rfl, rfl⟩
/-- Behind the copies of an act and of its bytes. -/
theorem play_step {w wr wq : World} {p r : Nat} {F G : Nat → Prop} {s : St} {x0 x1 x2 x3 x4 : Value} (h2 : Two w wr p r F G s s) (hbq : Below (wr.heap.size + 1) ((wr.alloc (.cells #[x0, x1, x2, x3, x4] 37)).alloc (.cells #[] 5)) wq) :
    Two w wq p r F G s s ∧ wq.cell? ⟨wr.heap.size, 0, none⟩ = some x0 ∧ wq.cell? ⟨wr.heap.size, 1, none⟩ = some x1 ∧ wq.cell? ⟨wr.heap.size, 2, none⟩ = some x2 ∧ wq.cell? ⟨wr.heap.size, 3, none⟩ = some x3 ∧ wq.cell? ⟨wr.heap.size, 4, none⟩ = some x4 := by
  have hb1 : Below wr.heap.size wr ((wr.alloc (.cells #[x0, x1, x2, x3, x4] 37)).alloc (.cells #[] 5)) := ((Below.refl _ wr).alloc (Nat.le_refl _) _).alloc (by simp) _
  have hb2 := hb1.trans (hbq.mono (Nat.le_succ _))
  have hc : wq.heap[wr.heap.size]? = some (.cells #[x0, x1, x2, x3, x4] 37 (0, 0)) := (hbq.block _ (Nat.lt_succ_self _)).trans (((heap_alloc (wr.alloc _) _).2 _ (by simp)).trans (heap_alloc wr _).1)
  refine ⟨h2.grow hb2, ?_, ?_, ?_, ?_, ?_⟩ <;> simp [World.cell?, hc]

set_option maxRecDepth 100000 in
set_option maxHeartbeats 16000000 in
theorem plays_main (w : World) (sectors size : Nat) (q1 : 1 ≤ sectors) (q2 : sectors ≤ 65536) (q3 : 64 ≤ size) (q4 : size ≤ 1024) (hroom : sectors * size ≤ 131072) (a0 : Option Addr) (n0 c0 : Nat) (l : List Deed) (h0 : Acts w (.slice a0 n0 c0) l) (e0 : Hid (n0 = l.length)) (hlen0 : Hid (∀ x ∈ l, x.p.length ≤ 140737488355328 ∧ x.keep.length ≤ 140737488355328 ∧ x.torn.length ≤ 140737488355328)) :
    Calls Try.prog 3 #[.int .i64 sectors, .int .i64 size, .slice a0 n0 c0] w fun e w' => e = .returned (.bool true) ∧ Below w.heap.size w w' := by
  have hu0 := huge2_any _ _ h0 hlen0.out
  have g0 : Hid (∀ t, t < n0 → ∃ b o, a0 = some ⟨b, o, none⟩ ∧ ActAt w b (o + t * 5) (l.getD t act0) ∧ ActIn (l.getD t act0)) := by
    show ∀ t, _ → _
    intro t ht
    have := e0.out
    obtain ⟨a, c, q1, q2, q3⟩ := h0
    cases q1
    rcases q3 with q3 | ⟨b, o, q3, q4⟩
    · rw [q3] at ht; simp at ht
    · exact ⟨b, o, q3, q4 t (by omega), q2 _ (by rw [List.getD_eq_getElem?_getD, List.getElem?_eq_getElem (by omega)]; simp)⟩
  clear h0
  have d1 : (0 : Int) < (sectors : Int) := by omega
  have d2 : (0 : Int) < (size : Int) := by omega
  have d3 : (sectors : Int) ≤ 65536 := by omega
  have d4 : (size : Int) ≤ 1024 := by omega
  have d5 : decide ((131072 : Int) < (sectors : Int) * (size : Int)) = false := by
    have : ((sectors * size : Nat) : Int) ≤ 131072 := by omega
    simp only [decide_eq_false_iff_not]
    rw [Int.natCast_mul] at this
    omega
  have d6 : IntKind.i64.wrap ((sectors : Int) * (size : Int)) = (sectors : Int) * (size : Int) := by
    have h1 : ((sectors * size : Nat) : Int) = (sectors : Int) * (size : Int) := Int.natCast_mul _ _
    rw [← h1]
    have h2 : ((sectors * size : Nat) : Int) ≤ 131072 := Int.ofNat_le.2 hroom
    have h3 : (0 : Int) ≤ ((sectors * size : Nat) : Int) := Int.natCast_nonneg _
    generalize ((sectors * size : Nat) : Int) = z at h2 h3 ⊢
    exact Go.IntWalk.i64_in z (by omega)
  go_enter Try.func3, Try.ntmps3
  go_wp2_with fail
  refine hu0.mono ?_
  rintro e w1 ⟨B0, rfl, hB0, m0, rfl⟩
  clear hu0
  cases B0 with
  | true =>
    clear hB0
    go_wp2_with (first | (go_at_call 9; refine (live_any _).mono ?_; rintro e w2 ⟨rfl, hb2⟩))
    go_ret
    exact ⟨rfl, (below_drewN (Below.refl _ w) m0).trans hb2⟩
  | false =>
    have hn0 : n0 ≤ 150 := by rw [e0.out]; exact (hB0 rfl).1
    have hlen : Hid (∀ x ∈ l, x.p.length ≤ 40000 ∧ x.keep.length ≤ 40000 ∧ x.torn.length ≤ 40000) := (hB0 rfl).2
    clear hB0
    have hb1 : Below w.heap.size w (w.drewN m0) := below_drewN (Below.refl _ w) m0
    generalize w.drewN m0 = w1 at hb1 ⊢
    have hnew := held_new (w := w) (W := w1) sectors size q1 q2 q3 q4 hb1
    go_wp2_with (first | (go_at_call 10; refine hnew.mono ?_; rintro e w2 ⟨p, rfl, hh2, hx2⟩) | (go_at_call 11; refine (refNew_ok sectors size q1 q2 q3 q4 _).mono ?_; rintro e w3 ⟨r, rfl, hr3, hb3⟩) | (go_at_call 12; refine (num_any _ _ (by omega) (by omega)).mono ?_; rintro e w4 ⟨rfl, hw4⟩; subst w4))
    have t3 : Two w w3 p r (fun k => w1.heap.size ≤ k ∧ k < w2.heap.size) (fun k => w2.heap.size ≤ k ∧ k < w3.heap.size) (St.new sectors size) (St.new sectors size) :=
      ⟨hh2.grow hb3, hr3, fun k hk => ⟨Nat.le_trans hh2.le hk.1, hk.2⟩, fun k hk hk2 => by omega⟩
    clear hh2 hr3 hb3 hx2 hnew hb1
    go_loopw [11] (fun i wr => ∃ (k : Nat) (F G : Nat → Prop) (s : St), k ≤ n0 ∧ i = .int .i64 k ∧ Two w wr p r F G s s ∧ s.ops ≤ k ∧ s.sectors = sectors ∧ s.size = size) (fun i _ => n0 - (intOf i).toNat)
    case atStart => exact ⟨0, _, _, _, Nat.zero_le _, rfl, t3, Nat.le_refl _, rfl, rfl⟩
    case round =>
      clear t3
      obtain ⟨k, F, G, s, hk, rfl, h2, hops, hsec, hsiz⟩ := hrel
      by_cases hlt : k < n0
      · have hkn : (k : Int) < (n0 : Int) := by omega
        obtain ⟨b, o, rfl, hact, hin⟩ := g0.out k hlt
        have hle := hlen.out (l.getD k act0) (by have := e0.out; rw [List.getD_eq_getElem?_getD, List.getElem?_eq_getElem (by omega)]; simp)
        generalize l.getD k act0 = d at hact hin hle
        obtain ⟨vp, vk, vt, p0, p1, p2, p3, p4, z5, z6, z7⟩ := hact
        have hbw0 := h2.held.below
        have z0 := (hbw0.cell (p := ⟨b, o + k * 5, none⟩) (World.block_lt_of_cell? w _ p0)).trans p0
        have z1 := (hbw0.cell (p := ⟨b, o + k * 5 + 1, none⟩) (World.block_lt_of_cell? w _ p1)).trans p1
        have z2 := (hbw0.cell (p := ⟨b, o + k * 5 + 2, none⟩) (World.block_lt_of_cell? w _ p2)).trans p2
        have z3 := (hbw0.cell (p := ⟨b, o + k * 5 + 3, none⟩) (World.block_lt_of_cell? w _ p3)).trans p3
        have z4 := (hbw0.cell (p := ⟨b, o + k * 5 + 4, none⟩) (World.block_lt_of_cell? w _ p4)).trans p4
        clear p0 p1 p2 p3 p4
        have z5' := z5
        have z6' := z6
        have z7' := z7
        obtain ⟨ap, cp, rfl, _⟩ := z5'
        obtain ⟨ak, ck, rfl, _⟩ := z6'
        obtain ⟨at', ct, rfl, _⟩ := z7'
        generalize hlp : d.p.length = lp at z2 z5 hle
        generalize hlk : d.keep.length = lk at z3 z6 hle
        generalize hlt' : d.torn.length = lt' at z4 z7 hle
        replace z5 : Hid _ := z5
        replace z6 : Hid _ := z6
        replace z7 : Hid _ := z7
        replace hlp : Hid _ := hlp
        replace hlk : Hid _ := hlk
        replace hlt' : Hid _ := hlt'
        obtain ⟨hdk, hdn, hdp, hdkk, hdt⟩ := hin
        have hO : Hid (Own ((wr.alloc (.cells #[.int .i64 d.kind, .int .i64 d.n, .slice ap lp cp, .slice ak lk ck, .slice at' lt' ct] 37)).alloc (.cells #[] 5)) (wr.heap.size + 1) (.slice (some ⟨wr.heap.size + 1, 0, none⟩) 0 0) []) := by
          have := own_empty (wr.alloc (.cells #[.int .i64 d.kind, .int .i64 d.n, .slice ap lp cp, .slice ak lk ck, .slice at' lt' ct] 37))
          rw [World.size_alloc] at this
          exact this
        have hBt : Hid (Bts ((wr.alloc (.cells #[.int .i64 d.kind, .int .i64 d.n, .slice ap lp cp, .slice ak lk ck, .slice at' lt' ct] 37)).alloc (.cells #[] 5)) (.slice ap lp cp) d.p) := Bts.alloc (Bts.alloc (Bts.grow z5.out hbw0) _) _
        go_upto_block 2 with (first | (at_builtin; refine appX rfl _ _ rfl (wr.heap.size + 1) _ (.slice ap lp cp) [] d.p rfl rfl hO.out hBt.out (by simp) (by rw [hlp.out]; simp; omega) ?_; intro vq wq hoq hbq hnq; have hsh := hoq.shape; rw [List.nil_append, hlp.out] at hsh; obtain ⟨aq, cq, hvq⟩ := hsh; subst hvq; rw [List.nil_append] at hoq; have hA := (hbq.mono (Nat.le_succ wr.heap.size)); have hstep := play_step (h2 := h2) (hbq := hbq); obtain ⟨t2, y0, y1, y2, y3, y4⟩ := hstep; replace hoq : Hid _ := hoq; clear hbq hA hnq))
        clear hO hBt z0 z1 z2 z3 z4
        go_cut [14] (fun ok wc => ok = .bool true ∧ ∃ (F' G' : Nat → Prop) (s' : St), Two w wc p r F' G' s' s' ∧ s'.ops ≤ k + 1 ∧ s'.sectors = sectors ∧ s'.size = size)
        case first => as_aux_lemma =>
          have hop2 : s.ops < 17592186044416 := by omega
          have hAF : ¬ F wr.heap.size := fun h => by have := (h2.held.blocks _ h).2; omega
          have hAq : wr.heap.size < wq.heap.size := World.block_lt_of_cell? wq _ y0
          by_cases k2 : d.kind = 2
          · have e2 : (d.kind == 2) = true := by simp [k2]
            have e0 : (d.kind == 0) = false := by simp [k2]
            have e1 : (d.kind == 1) = false := by simp [k2]
            clear k2
            have hsy := two_sync t2 hop2
            have hsd := sync_dims s
            go_wp2_with (first
              | (go_at_call 17; refine hsy.mono ?_; rintro e w4 ⟨rfl, F4, t4⟩)
              | (go_at_call 18; refine (two_refSync t4 hop2).mono ?_; rintro e w5 ⟨rfl, G5, t5⟩)
              | (go_at_call 12; refine (num_any _ _ (by have := errOp_in s; omega) (by have := errOp_in s; omega)).mono ?_; rintro e w6 ⟨rfl, hw6⟩; subst w6))
            go_meet
            case rel => exact ⟨rfl, F4, G5, s.sync, t5, by omega, by omega, by omega⟩
          · have e2 : (d.kind == 2) = false := by simp [k2]
            by_cases k3 : d.kind = 3
            · have e3 : (d.kind == 3) = true := by simp [k3]
              have e0 : (d.kind == 0) = false := by simp [k3]
              have e1 : (d.kind == 1) = false := by simp [k3]
              clear k2 k3
              have har := two_arm t2 d.n hdn
              have hsd := arm_dims s d.n
              go_wp2_with (first
                | (go_at_call 19; refine har.mono ?_; rintro e w4 ⟨rfl, t4, f4⟩; have y1' := (World.cell?_of_block (w := wq) (w' := w4) (a := ⟨wr.heap.size, 1, none⟩) (f4.block wr.heap.size hAq hAF)).trans y1)
                | (go_at_call 20; refine (two_refArm t4 d.n hdn).mono ?_; rintro e w5 ⟨rfl, t5⟩))
              go_meet
              case rel => exact ⟨rfl, F, G, s.arm d.n, t5, by omega, by omega, by omega⟩
            · have e3 : (d.kind == 3) = false := by simp [k3]
              by_cases k4 : d.kind = 4
              · have e4 : (d.kind == 4) = true := by simp [k4]
                have e0 : (d.kind == 0) = false := by simp [k4]
                have e1 : (d.kind == 1) = false := by simp [k4]
                clear k2 k3 k4
                as_aux_lemma =>
                  have hsd := crash_dims s d.keep d.torn
                  have hkB : ∀ W, Below wq.heap.size wq W → Ints W (.slice ak lk ck) d.keep := fun W hW => Ints.grow z6.out (t2.held.below.trans (hW.mono t2.held.le))
                  have htB : ∀ W, Below wq.heap.size wq W → Torns W (.slice at' lt' ct) d.torn := fun W hW => Torns.grow z7.out (t2.held.below.trans (hW.mono t2.held.le))
                  have hAll : ∀ W : World, W.heap[wr.heap.size]? = wq.heap[wr.heap.size]? → (fun W => W.cell? ⟨wr.heap.size, 3, none⟩ = some (.slice ak lk ck) ∧ W.cell? ⟨wr.heap.size, 4, none⟩ = some (.slice at' lt' ct)) W := fun W hA => ⟨(World.cell?_of_block (w := wq) hA).trans y3, (World.cell?_of_block (w := wq) hA).trans y4⟩
                  go_wp2_with fail
                  refine wp_region_noPanic ?_
                  refine wp_region_held_drew (S := fun W => W.cell? ⟨wr.heap.size, 3, none⟩ = some (.slice ak lk ck) ∧ W.cell? ⟨wr.heap.size, 4, none⟩ = some (.slice at' lt' ct)) (by kernel_rfl) (hAll _ rfl) (fun hHeld => ?_)
                  have hBW : Below wq.heap.size wq wq.drew := (Below.refl _ _).drew
                  generalize hW0 : wq.drew = W0 at *
                  clear hW0
                  refine takeW (i := 0) (v := ?_) (some 189) rfl (by kernel_rfl) (by kernel_rfl) (by kernel_rfl) (by kernel_rfl) (by kernel_rfl) (by assumption) ?_ ?_
                  rotate_left
                  · intro w hSw; (try dsimp only at hSw); go_simp; try with_reducible rfl
                  try simp only [Act.put, List.setIfInBounds_toArray, List.set_cons_zero, List.set_cons_succ]
                  refine takeW (i := 2) (v := ?_) (some 191) rfl (by kernel_rfl) (by kernel_rfl) (by kernel_rfl) (by kernel_rfl) (by kernel_rfl) (by assumption) ?_ ?_
                  rotate_left
                  · intro w hSw; (try dsimp only at hSw); go_simp; try with_reducible rfl
                  try simp only [Act.put, List.setIfInBounds_toArray, List.set_cons_zero, List.set_cons_succ]
                  refine takeW (i := 3) (v := ?_) (some 192) rfl (by kernel_rfl) (by kernel_rfl) (by kernel_rfl) (by kernel_rfl) (by kernel_rfl) (by assumption) ?_ ?_
                  rotate_left
                  · intro w hSw; (try dsimp only at hSw); go_simp; try with_reducible rfl
                  try simp only [Act.put, List.setIfInBounds_toArray, List.set_cons_zero, List.set_cons_succ]
                  refine takeW (i := 6) (v := ?_) (some 195) rfl (by kernel_rfl) (by kernel_rfl) (by kernel_rfl) (by kernel_rfl) (by kernel_rfl) (by assumption) ?_ ?_
                  rotate_left
                  · intro w hSw; (try dsimp only at hSw); go_simp; try with_reducible rfl
                  try simp only [Act.put, List.setIfInBounds_toArray, List.set_cons_zero, List.set_cons_succ]
                  refine takeW (i := 7) (v := ?_) (some 196) rfl (by kernel_rfl) (by kernel_rfl) (by kernel_rfl) (by kernel_rfl) (by kernel_rfl) (by assumption) ?_ ?_
                  rotate_left
                  · intro w hSw; (try dsimp only at hSw); go_simp; try with_reducible rfl
                  try simp only [Act.put, List.setIfInBounds_toArray, List.set_cons_zero, List.set_cons_succ]
                  refine wpAnyH_ready (rs := [1, 5]) (by kernel_rfl) (by simp) ?_
                  refine AllReadyH.cons rfl (fun K hK => ?_) (AllReadyH.cons rfl (fun K hK => ?_) AllReadyH.nil)
                  · go_simp
                    have hst : Below W0.heap.size W0 (W0.alloc (.cells #[] 3)) := (Below.refl _ _).alloc (Nat.le_refl _) _
                    have g1n : (W0.alloc (.cells #[] 3)).heap[W0.heap.size]? = some (.cells #[] 3 (0, 0)) := heap_alloc_new _ _
                    have hBn := hBW.trans (hst.mono hBW.size)
                    refine hK.out _ _ (hAll _ (hBn.block _ hAq)) (fun hHeld => ?_)
                    clear hK K hBW hst
                    try simp only [Act.put, List.setIfInBounds_toArray, List.set_cons_zero, List.set_cons_succ]
                    generalize W0.alloc (.cells #[] 3) = W1 at *
                    generalize W0.heap.size = bl1 at *
                    have hBW := hBn
                    clear hBn
                    have g1 := g1n
                    clear g1n
                    refine wpAnyH_ready (rs := [4, 5]) (by kernel_rfl) (by simp) ?_
                    refine AllReadyH.cons rfl (fun K hK => ?_) (AllReadyH.cons rfl (fun K hK => ?_) AllReadyH.nil)
                    · obtain ⟨v1, W2, hr1, i1n, hst⟩ := copyI (hkB _ hBW) (by have := hlk.out; omega) g1
                      rw [if_pos (by kernel_rfl)]
                      refine copyWp (.tmp 190) (.tmp 192) 34 rfl (some 193) (by kernel_rfl) _ _ _ _ rfl rfl hr1 ?_
                      have hBn := hBW.trans (hst.mono hBW.size)
                      refine hK.out _ _ (hAll _ (hBn.block _ hAq)) (fun hHeld => ?_)
                      clear hK K hBW hst g1 hr1
                      try simp only [Act.put, List.setIfInBounds_toArray, List.set_cons_zero, List.set_cons_succ]
                      have hBW := hBn
                      clear hBn
                      have i1 := i1n
                      clear i1n
                      refine wpAnyH_ready (rs := [5]) (by kernel_rfl) (by simp) ?_
                      refine AllReadyH.cons rfl (fun K hK => ?_) AllReadyH.nil
                      go_simp
                      have hst : Below W2.heap.size W2 (W2.alloc (.cells #[] 58)) := (Below.refl _ _).alloc (Nat.le_refl _) _
                      have g2n : (W2.alloc (.cells #[] 58)).heap[W2.heap.size]? = some (.cells #[] 58 (0, 0)) := heap_alloc_new _ _
                      have i1n := i1.grow hst
                      have hBn := hBW.trans (hst.mono hBW.size)
                      refine hK.out _ _ (hAll _ (hBn.block _ hAq)) (fun hHeld => ?_)
                      clear hK K hBW hst i1
                      try simp only [Act.put, List.setIfInBounds_toArray, List.set_cons_zero, List.set_cons_succ]
                      generalize W2.alloc (.cells #[] 58) = W3 at *
                      generalize W2.heap.size = bl3 at *
                      have hBW := hBn
                      clear hBn
                      have i1 := i1n
                      clear i1n
                      have g2 := g2n
                      clear g2n
                      refine wpAnyH_ready (rs := [8]) (by kernel_rfl) (by simp) ?_
                      refine AllReadyH.cons rfl (fun K hK => ?_) AllReadyH.nil
                      obtain ⟨v2, W4, hr2, t2xn, hst⟩ := copyT (htB _ hBW) (by have := hlt'.out; omega) g2
                      rw [if_pos (by kernel_rfl)]
                      refine copyWp (.tmp 194) (.tmp 196) 35 rfl (some 197) (by kernel_rfl) _ _ _ _ rfl rfl hr2 ?_
                      have i1n := i1.grow hst
                      have hBn := hBW.trans (hst.mono hBW.size)
                      refine hK.out _ _ (hAll _ (hBn.block _ hAq)) (fun hHeld => ?_)
                      clear hK K hBW hst g2 hr2 i1
                      try simp only [Act.put, List.setIfInBounds_toArray, List.set_cons_zero, List.set_cons_succ]
                      have hBW := hBn
                      clear hBn
                      have i1 := i1n
                      clear i1n
                      have t2x := t2xn
                      clear t2xn
                      refine wpAnyH_ready (rs := [9]) (by kernel_rfl) (by simp) ?_
                      refine AllReadyH.cons rfl (fun K hK => ?_) AllReadyH.nil
                      go_simp
                      refine (two_crash (t2.grow hBW) hop2 d.keep d.torn _ _ i1 t2x (by have := hlk.out; omega) (by have := hlt'.out; omega) hdkk hdt).mono ?_
                      rintro e w8 ⟨rfl, F8, t8, f8⟩
                      refine hK.out _ _ (hAll _ ((f8.block _ (Nat.lt_of_lt_of_le hAq hBW.size) hAF).trans (hBW.block _ hAq))) (fun hHeld => ?_)
                      clear hK K
                      try simp only [Act.put, List.setIfInBounds_toArray, List.set_cons_zero, List.set_cons_succ]
                      refine wpAnyH_done (by kernel_rfl) ?_ _
                      refine NoPanic.normal ?_
                      obtain ⟨yA, yB⟩ := hHeld
                      clear i1 t2x hBW f8
                      go_wp2_with (first | (go_at_call 22; refine (two_refCrash t8 d.keep d.torn _ _ z6.out z7.out (by have := hlk.out; omega) (by have := hlt'.out; omega)).mono ?_; rintro e w9 ⟨rfl, G9, t9⟩))
                      go_meet
                      case rel => exact ⟨rfl, F8, G9, s.crash d.keep d.torn, t9, by omega, by omega, by omega⟩
                    · go_simp
                      have hst : Below W1.heap.size W1 (W1.alloc (.cells #[] 58)) := (Below.refl _ _).alloc (Nat.le_refl _) _
                      have g2n : (W1.alloc (.cells #[] 58)).heap[W1.heap.size]? = some (.cells #[] 58 (0, 0)) := heap_alloc_new _ _
                      have g1n := (hst.block _ (lt_of_cells g1)).trans g1
                      have hBn := hBW.trans (hst.mono hBW.size)
                      refine hK.out _ _ (hAll _ (hBn.block _ hAq)) (fun hHeld => ?_)
                      clear hK K hBW hst g1
                      try simp only [Act.put, List.setIfInBounds_toArray, List.set_cons_zero, List.set_cons_succ]
                      generalize W1.alloc (.cells #[] 58) = W2 at *
                      generalize W1.heap.size = bl2 at *
                      have hBW := hBn
                      clear hBn
                      have g1 := g1n
                      clear g1n
                      have g2 := g2n
                      clear g2n
                      refine wpAnyH_ready (rs := [4]) (by kernel_rfl) (by simp) ?_
                      refine AllReadyH.cons rfl (fun K hK => ?_) AllReadyH.nil
                      obtain ⟨v1, W3, hr1, i1n, hst⟩ := copyI (hkB _ hBW) (by have := hlk.out; omega) g1
                      rw [if_pos (by kernel_rfl)]
                      refine copyWp (.tmp 190) (.tmp 192) 34 rfl (some 193) (by kernel_rfl) _ _ _ _ rfl rfl hr1 ?_
                      have g2n := (hst.block _ (lt_of_cells g2)).trans g2
                      have hBn := hBW.trans (hst.mono hBW.size)
                      refine hK.out _ _ (hAll _ (hBn.block _ hAq)) (fun hHeld => ?_)
                      clear hK K hBW hst g1 hr1 g2
                      try simp only [Act.put, List.setIfInBounds_toArray, List.set_cons_zero, List.set_cons_succ]
                      have hBW := hBn
                      clear hBn
                      have g2 := g2n
                      clear g2n
                      have i1 := i1n
                      clear i1n
                      refine wpAnyH_ready (rs := [8]) (by kernel_rfl) (by simp) ?_
                      refine AllReadyH.cons rfl (fun K hK => ?_) AllReadyH.nil
                      obtain ⟨v2, W4, hr2, t2xn, hst⟩ := copyT (htB _ hBW) (by have := hlt'.out; omega) g2
                      rw [if_pos (by kernel_rfl)]
                      refine copyWp (.tmp 194) (.tmp 196) 35 rfl (some 197) (by kernel_rfl) _ _ _ _ rfl rfl hr2 ?_
                      have i1n := i1.grow hst
                      have hBn := hBW.trans (hst.mono hBW.size)
                      refine hK.out _ _ (hAll _ (hBn.block _ hAq)) (fun hHeld => ?_)
                      clear hK K hBW hst g2 hr2 i1
                      try simp only [Act.put, List.setIfInBounds_toArray, List.set_cons_zero, List.set_cons_succ]
                      have hBW := hBn
                      clear hBn
                      have i1 := i1n
                      clear i1n
                      have t2x := t2xn
                      clear t2xn
                      refine wpAnyH_ready (rs := [9]) (by kernel_rfl) (by simp) ?_
                      refine AllReadyH.cons rfl (fun K hK => ?_) AllReadyH.nil
                      go_simp
                      refine (two_crash (t2.grow hBW) hop2 d.keep d.torn _ _ i1 t2x (by have := hlk.out; omega) (by have := hlt'.out; omega) hdkk hdt).mono ?_
                      rintro e w8 ⟨rfl, F8, t8, f8⟩
                      refine hK.out _ _ (hAll _ ((f8.block _ (Nat.lt_of_lt_of_le hAq hBW.size) hAF).trans (hBW.block _ hAq))) (fun hHeld => ?_)
                      clear hK K
                      try simp only [Act.put, List.setIfInBounds_toArray, List.set_cons_zero, List.set_cons_succ]
                      refine wpAnyH_done (by kernel_rfl) ?_ _
                      refine NoPanic.normal ?_
                      obtain ⟨yA, yB⟩ := hHeld
                      clear i1 t2x hBW f8
                      go_wp2_with (first | (go_at_call 22; refine (two_refCrash t8 d.keep d.torn _ _ z6.out z7.out (by have := hlk.out; omega) (by have := hlt'.out; omega)).mono ?_; rintro e w9 ⟨rfl, G9, t9⟩))
                      go_meet
                      case rel => exact ⟨rfl, F8, G9, s.crash d.keep d.torn, t9, by omega, by omega, by omega⟩
                  · go_simp
                    have hst : Below W0.heap.size W0 (W0.alloc (.cells #[] 58)) := (Below.refl _ _).alloc (Nat.le_refl _) _
                    have g2n : (W0.alloc (.cells #[] 58)).heap[W0.heap.size]? = some (.cells #[] 58 (0, 0)) := heap_alloc_new _ _
                    have hBn := hBW.trans (hst.mono hBW.size)
                    refine hK.out _ _ (hAll _ (hBn.block _ hAq)) (fun hHeld => ?_)
                    clear hK K hBW hst
                    try simp only [Act.put, List.setIfInBounds_toArray, List.set_cons_zero, List.set_cons_succ]
                    generalize W0.alloc (.cells #[] 58) = W1 at *
                    generalize W0.heap.size = bl1 at *
                    have hBW := hBn
                    clear hBn
                    have g2 := g2n
                    clear g2n
                    refine wpAnyH_ready (rs := [1]) (by kernel_rfl) (by simp) ?_
                    refine AllReadyH.cons rfl (fun K hK => ?_) AllReadyH.nil
                    go_simp
                    have hst : Below W1.heap.size W1 (W1.alloc (.cells #[] 3)) := (Below.refl _ _).alloc (Nat.le_refl _) _
                    have g1n : (W1.alloc (.cells #[] 3)).heap[W1.heap.size]? = some (.cells #[] 3 (0, 0)) := heap_alloc_new _ _
                    have g2n := (hst.block _ (lt_of_cells g2)).trans g2
                    have hBn := hBW.trans (hst.mono hBW.size)
                    refine hK.out _ _ (hAll _ (hBn.block _ hAq)) (fun hHeld => ?_)
                    clear hK K hBW hst g2
                    try simp only [Act.put, List.setIfInBounds_toArray, List.set_cons_zero, List.set_cons_succ]
                    generalize W1.alloc (.cells #[] 3) = W2 at *
                    generalize W1.heap.size = bl2 at *
                    have hBW := hBn
                    clear hBn
                    have g2 := g2n
                    clear g2n
                    have g1 := g1n
                    clear g1n
                    refine wpAnyH_ready (rs := [4]) (by kernel_rfl) (by simp) ?_
                    refine AllReadyH.cons rfl (fun K hK => ?_) AllReadyH.nil
                    obtain ⟨v1, W3, hr1, i1n, hst⟩ := copyI (hkB _ hBW) (by have := hlk.out; omega) g1
                    rw [if_pos (by kernel_rfl)]
                    refine copyWp (.tmp 190) (.tmp 192) 34 rfl (some 193) (by kernel_rfl) _ _ _ _ rfl rfl hr1 ?_
                    have g2n := (hst.block _ (lt_of_cells g2)).trans g2
                    have hBn := hBW.trans (hst.mono hBW.size)
                    refine hK.out _ _ (hAll _ (hBn.block _ hAq)) (fun hHeld => ?_)
                    clear hK K hBW hst g1 hr1 g2
                    try simp only [Act.put, List.setIfInBounds_toArray, List.set_cons_zero, List.set_cons_succ]
                    have hBW := hBn
                    clear hBn
                    have g2 := g2n
                    clear g2n
                    have i1 := i1n
                    clear i1n
                    refine wpAnyH_ready (rs := [8]) (by kernel_rfl) (by simp) ?_
                    refine AllReadyH.cons rfl (fun K hK => ?_) AllReadyH.nil
                    obtain ⟨v2, W4, hr2, t2xn, hst⟩ := copyT (htB _ hBW) (by have := hlt'.out; omega) g2
                    rw [if_pos (by kernel_rfl)]
                    refine copyWp (.tmp 194) (.tmp 196) 35 rfl (some 197) (by kernel_rfl) _ _ _ _ rfl rfl hr2 ?_
                    have i1n := i1.grow hst
                    have hBn := hBW.trans (hst.mono hBW.size)
                    refine hK.out _ _ (hAll _ (hBn.block _ hAq)) (fun hHeld => ?_)
                    clear hK K hBW hst g2 hr2 i1
                    try simp only [Act.put, List.setIfInBounds_toArray, List.set_cons_zero, List.set_cons_succ]
                    have hBW := hBn
                    clear hBn
                    have i1 := i1n
                    clear i1n
                    have t2x := t2xn
                    clear t2xn
                    refine wpAnyH_ready (rs := [9]) (by kernel_rfl) (by simp) ?_
                    refine AllReadyH.cons rfl (fun K hK => ?_) AllReadyH.nil
                    go_simp
                    refine (two_crash (t2.grow hBW) hop2 d.keep d.torn _ _ i1 t2x (by have := hlk.out; omega) (by have := hlt'.out; omega) hdkk hdt).mono ?_
                    rintro e w8 ⟨rfl, F8, t8, f8⟩
                    refine hK.out _ _ (hAll _ ((f8.block _ (Nat.lt_of_lt_of_le hAq hBW.size) hAF).trans (hBW.block _ hAq))) (fun hHeld => ?_)
                    clear hK K
                    try simp only [Act.put, List.setIfInBounds_toArray, List.set_cons_zero, List.set_cons_succ]
                    refine wpAnyH_done (by kernel_rfl) ?_ _
                    refine NoPanic.normal ?_
                    obtain ⟨yA, yB⟩ := hHeld
                    clear i1 t2x hBW f8
                    go_wp2_with (first | (go_at_call 22; refine (two_refCrash t8 d.keep d.torn _ _ z6.out z7.out (by have := hlk.out; omega) (by have := hlt'.out; omega)).mono ?_; rintro e w9 ⟨rfl, G9, t9⟩))
                    go_meet
                    case rel => exact ⟨rfl, F8, G9, s.crash d.keep d.torn, t9, by omega, by omega, by omega⟩
              · have e4 : (d.kind == 4) = false := by simp [k4]
                by_cases k0 : d.kind = 0
                · have e0 : (d.kind == 0) = true := by simp [k0]
                  clear k0 k2 k3 k4
                  have hAG : ¬ G wr.heap.size := fun h => by have := (h2.gb _ h).2; omega
                  have hoq' : Own wq (wr.heap.size + 1) (.slice aq lp cq) d.p := hoq.out
                  have hbq := hoq'.bts
                  have hdl : d.p.length = lp := hlp.out
                  obtain ⟨v1, s1, q1b, o1⟩ := slice_toB hbq (lp / 2) (by omega)
                  obtain ⟨v2, s2, q2b, o2⟩ := slice_from hbq (lp / 2) (by omega)
                  have q1c := q1b
                  have q2c := q2b
                  obtain ⟨av1, cv1, hv1, _⟩ := q1c
                  obtain ⟨av2, cv2, hv2, _⟩ := q2c
                  generalize (List.take (lp / 2) d.p).length = lv1 at hv1
                  generalize (List.drop (lp / 2) d.p).length = lv2 at hv2
                  subst hv1 hv2
                  have hnF : ∀ j, (Value.slice aq lp cq).ownBlock = some j → ¬ F j := fun j hj hf => by have h1 := (hoq'.lt j hj).1; have h3 := (h2.held.blocks _ hf).2; omega
                  have hwr := fun W hW => play_write t2 hop2 d.n hdn _ _ _ _ q1b q2b (fun _ j hj => hnF j (o1 j hj)) (fun _ j hj => hnF j (o2 j hj)) W hW
                  rw [List.take_append_drop] at hwr
                  have j0 : Hid _ := hwr _ (Below.refl _ _)
                  have j1 : Hid _ := hwr _ (below_d1 _)
                  have j2 : Hid _ := hwr _ (below_d2 _)
                  have hei := errWrite_in s d.n [d.p]
                  have hdm := write_dims s d.n [d.p]
                  have ehalf : ((lp / 2 : Nat) : Int) = (lp : Int) / 2 := by omega
                  rw [ehalf] at s1 s2
                  have hS : Hid (∀ W, Below w.heap.size w W → W.heap[wr.heap.size]? = wq.heap[wr.heap.size]? → W.cell? ⟨wr.heap.size, 1, none⟩ = some (.int .i64 d.n) ∧ W.cell? ⟨wr.heap.size, 2, none⟩ = some (.slice ap lp cp) ∧ (convert 33 9 (.slice ap lp cp)).run Try.prog W = .ok (.string (strOfNums d.p)) W) := by
                    show ∀ W, _ → _
                    intro W hW hA
                    exact ⟨(World.cell?_of_block (w := wq) hA).trans y1, (World.cell?_of_block (w := wq) hA).trans y2, conv_str (Bts.grow z5.out hW)⟩
                  obtain ⟨_, _, y5⟩ := hS.out wq t2.held.below rfl
                  have y6 := (hS.out wq.drew (t2.held.below.trans ((below_d1 wq).mono t2.held.le)) rfl).2.2
                  have y7 := (hS.out (wq.drew.alloc (.cells #[.slice av1 lv1 cv1, .slice av2 lv2 cv2] 33)) ((t2.held.below.trans ((below_d1 wq).mono t2.held.le)).alloc t2.held.le _) ((heap_alloc wq.drew _).2 _ hAq)).2.2
                  have y8 := (hS.out (wq.alloc (.cells #[.slice av1 lv1 cv1, .slice av2 lv2 cv2] 33)).drew ((t2.held.below.alloc t2.held.le _).trans ((below_d1 _).mono (Nat.le_trans t2.held.le (by simp)))) ((heap_alloc wq _).2 _ hAq)).2.2
                  clear hwr q1b q2b o1 o2 hnF hbq hoq'
                  generalize hEr : s.errWrite d.n [d.p] = er at j0 j1 j2 hei
                  generalize hSt : strOfNums d.p = St' at y5 y6 y7 y8 hS
                  have hrw : Hid (∀ W F' s1, Two w W p r F' G s1 s → Calls Try.prog 14 #[.pointer (some ⟨r, 0, none⟩), .int .i64 d.n, .string St'] W fun e w' => e = .returned (.int .i64 er) ∧ ∃ G', Two w w' p r F' G' s1 (s.write d.n [d.p]) ∧ (∀ k, G' k → G k ∨ W.heap.size ≤ k) ∧ Frm G W w') := by
                    show ∀ W F' s1, _ → _
                    intro W F' s1 hT
                    have := two_refWrite hT hop2 d.n d.p
                    rw [hEr, hSt] at this
                    exact this
                  clear hEr hSt
                  go_wp2
                  go_region_held3 (fun W => W.cell? ⟨wr.heap.size, 1, none⟩ = some (.int .i64 d.n) ∧ W.cell? ⟨wr.heap.size, 2, none⟩ = some (.slice ap lp cp) ∧ (convert 33 9 (.slice ap lp cp)).run Try.prog W = .ok (.string St') W) (go_keep) (first
                    | (go_at_call 13; (first | refine Calls.mono j1.out ?_ | refine Calls.mono j0.out ?_ | refine Calls.mono j2.out ?_); rintro e w4 ⟨rfl, F4, t4, hF4, f4⟩; obtain ⟨yA, yB, yC⟩ := hS.out w4 t4.held.below (f4.block wr.heap.size hAq hAF))
                    | (go_at_call 12; refine (num_any _ _ (by omega) (by omega)).mono ?_; rintro e w8 ⟨rfl, hw8⟩; subst w8)
                    | (go_at_call 14; refine Calls.mono (hrw.out _ _ _ (t4.grow (by first | exact below_dr _ _ | exact Below.refl _ _))) ?_; rintro e w5 ⟨rfl, G5, t5, hG5, f5⟩; obtain ⟨yA, yB, yC⟩ := hS.out w5 t5.held.below ((f5.block wr.heap.size (Nat.lt_of_lt_of_le hAq f4.size) hAG).trans (f4.block wr.heap.size hAq hAF))))
                  clear y5 y6 y7 y8 yA yB yC j0 j1 j2 hS hrw s1 s2
                  by_cases hl0 : lp = 0
                  · have hl0' : (lp : Int) = 0 := by omega
                    have hjd : decide ((0 : Int) < (lp : Int)) = false := by simp [hl0]
                    go_wp2
                    go_loopw [16] (fun i wy => i = .int .i64 0 ∧ wy = w5) (fun _ _ => 0)
                    case atStart => exact ⟨rfl, rfl⟩
                    case round =>
                      obtain ⟨rfl, rfl⟩ := hrel
                      clear hl0'
                      go_wp2
                      go_meet
                      case rel => exact ⟨rfl, F4, G5, s.write d.n [d.p], t5, by omega, by omega, by omega⟩
                  · have hoq2 : Own wq (wr.heap.size + 1) (.slice aq lp cq) d.p := hoq.out
                    obtain ⟨g, rfl, hgb, hv0⟩ := own_vrow hoq2 (by rw [hdl]) (by omega)
                    have hgl := hv0.lt
                    have hgF : ¬ F g := fun h => by have h3 := (h2.held.blocks _ h).2; omega
                    have hgG : ¬ G g := fun h => by have h3 := (h2.gb _ h).2; omega
                    have hgF4 : ¬ F4 g := fun h => by
                      rcases hF4 g h with h | h
                      · exact hgF h
                      · omega
                    have hgG5 : ¬ G5 g := fun h => by
                      rcases hG5 g h with h | h
                      · exact hgG h
                      · have h3 : wq.heap.size ≤ w4.heap.size := f4.size
                        have h5 : w4.heap.size ≤ g := h
                        omega
                    have hv5 : VRow 5 w5 g cq lp (fun i => .int .u8 (d.p.getD i 0)) := by
                      rw [hdl] at hv0
                      exact hv0.keep ((f5.block g (Nat.lt_of_lt_of_le hgl f4.size) hgG).trans (f4.block g hgl hgF))
                    have hg0 : w.heap.size ≤ g := by have := t2.held.le; have := h2.held.le; omega
                    clear hv0 hoq2
                    replace hv5 : Hid _ := hv5
                    go_wp2
                    go_loopw [16] (fun i wy => ∃ (j : Nat) (ff : Nat → Int), j ≤ lp ∧ i = .int .i64 j ∧ VRow 5 wy g cq lp (fun i => .int .u8 (ff i)) ∧ Frm (fun i => i = g) w5 wy) (fun i _ => lp - (intOf i).toNat)
                    case atStart => exact ⟨0, _, Nat.zero_le _, rfl, hv5.out, Frm.refl _ _⟩
                    case round =>
                      clear hv5
                      obtain ⟨j, ff, hj, rfl, hv, hfy⟩ := hrel
                      by_cases hjl : j < lp
                      · have hji : (j : Int) < (lp : Int) := by omega
                        obtain ⟨c1, c2⟩ := hv.cell j hjl
                        generalize ff j = xx at c1
                        replace hv : Hid _ := hv
                        go_wp2
                        refine ⟨⟨j + 1, fun i => if i = j then bits BinOp.xor IntKind.u8 xx 85 else ff i, by omega, by go_num, (VRow.store hv.out j _).congr (fun i _ => by by_cases e : i = j <;> simp [e]), hfy.trans (Frm.mk (F := fun i => i = g) rfl rfl rfl (by simp [World.setCell]) (fun i _ hn => other_set _ _ _ _ i hn)) (fun _ h => .inl h)⟩, ?_⟩
                        simp [intOf]; omega
                      · have hjd : decide ((j : Int) < (lp : Int)) = false := by simp; omega
                        have t7 := t5.frm hfy (fun i hi => by rw [hi]; exact ⟨hg0, hgF4, hgG5⟩)
                        go_wp2
                        go_meet
                        case rel => exact ⟨rfl, F4, G5, s.write d.n [d.p], t7, by omega, by omega, by omega⟩
                · have e0 : (d.kind == 0) = false := by simp [k0]
                  by_cases k1 : d.kind = 1
                  · have e1 : (d.kind == 1) = true := by simp [k1]
                    clear k0 k1 k2 k3 k4
                    by_cases her : s.errRead d.n = 0
                    · obtain ⟨hn1, hdd⟩ := errRead_zero her
                      have hrd := read_ok t2.held.disk d.n hn1 hdd
                      have hta : s.textAt d.n = strOfNums (s.now d.n) := by unfold St.textAt; rw [if_pos her]
                      have hrr : Hid (∀ W, Below wq.heap.size wq W → Calls Try.prog 16 #[.pointer (some ⟨r, 0, none⟩), .int .i64 d.n] W fun e w' => e = .returned (.tuple #[.string (strOfNums (s.now d.n)), .int .i64 0]) ∧ w' = W) := by
                        show ∀ W, _ → _
                        intro W hW
                        have := refRead_any (t2.grow hW).ref d.n
                        rw [her, hta] at this
                        exact this
                      have hnj : (s.now d.n).length = s.size := by obtain ⟨_, ⟨gn, cn, gs, cs, gu, cu, hr⟩, _, _⟩ := t2; exact hr.nowLen _
                      rw [hsiz] at hrd hnj
                      go_wp2_with (first
                        | (go_at_call 15; refine hrd.mono ?_; rintro e w6 ⟨g6, rfl, hg6, hrow6, hb6⟩; have hcv := conv_str (row_bts hrow6 hnj); unfold slV at hcv ⊢; have y1' := (World.cell?_of_block (w := wq) (w' := w6) (a := ⟨wr.heap.size, 1, none⟩) (hb6.block wr.heap.size hAq)).trans y1; replace hrow6 : Hid _ := hrow6)
                        | (go_at_call 16; refine Calls.mono (hrr.out _ hb6) ?_; rintro e w7 ⟨rfl, hw7⟩; subst w7)
                        | (go_at_call 12; refine (num_any _ _ (by omega) (by omega)).mono ?_; rintro e w8 ⟨rfl, hw8⟩; subst w8))
                      have t6 := t2.grow hb6
                      have hv6 := row_vrow hrow6.out hnj
                      clear hcv y1' hrow6 hrd
                      go_loopw [21] (fun i wy => ∃ (j : Nat) (ff : Nat → Int), j ≤ size ∧ i = .int .i64 j ∧ VRow 5 wy g6 size size (fun i => .int .u8 (ff i)) ∧ Frm (fun i => i = g6) w6 wy) (fun i _ => size - (intOf i).toNat)
                      case atStart => exact ⟨0, _, Nat.zero_le _, rfl, hv6, Frm.refl _ _⟩
                      case round =>
                        clear hv6
                        obtain ⟨j, ff, hj, rfl, hv, hfy⟩ := hrel
                        by_cases hjl : j < size
                        · have hji : (j : Int) < (size : Int) := by omega
                          obtain ⟨v1, v2⟩ := hv.cell j hjl
                          have hv' : Hid (VRow 5 (wr.setCell ⟨g6, j, none⟩ (.int .u8 7)) g6 size size (fun i => .int .u8 (if i = j then 7 else ff i))) := (hv.store j (.int .u8 7)).congr (fun i _ => by by_cases e : i = j <;> simp [e])
                          have hf' : Hid (Frm (fun i => i = g6) w6 (wr.setCell ⟨g6, j, none⟩ (.int .u8 7))) := hfy.trans (Frm.mk (F := fun i => i = g6) rfl rfl rfl (by simp [World.setCell]) (fun i _ hn => other_set _ _ _ _ i hn)) (fun _ h => .inl h)
                          clear hv
                          go_wp2
                          refine ⟨⟨j + 1, _, by omega, by go_num, hv'.out, hf'.out⟩, ?_⟩
                          simp [intOf]; omega
                        · obtain rfl : j = size := by omega
                          have hjd : decide ((j : Int) < (j : Int)) = false := by simp
                          have hg6' : w.heap.size ≤ g6 ∧ ¬ F g6 ∧ ¬ G g6 := ⟨Nat.le_trans t2.held.le hg6, fun h => by have := (t2.held.blocks _ h).2; omega, fun h => by have := (t2.gb _ h).2; omega⟩
                          have t7 := t6.frm hfy (fun i hi => by rw [hi]; exact hg6')
                          go_wp2
                          go_meet
                          case rel => exact ⟨rfl, F, G, s, t7, by omega, hsec, hsiz⟩
                    · have hrd := read_err t2.held.disk d.n her
                      have hta : s.textAt d.n = ⟨#[]⟩ := by unfold St.textAt; rw [if_neg her]
                      have hrr := refRead_any t2.ref d.n
                      rw [hta] at hrr
                      have hcv := conv_str (bts_nil wq)
                      have hE : strOfNums [] = ⟨#[]⟩ := rfl
                      rw [hE] at hcv
                      clear hE hta
                      generalize (⟨#[]⟩ : ByteArray) = E at hcv hrr
                      have hei : 0 ≤ s.errRead d.n ∧ s.errRead d.n ≤ 20 := by unfold St.errRead; split <;> (try split) <;> omega
                      generalize s.errRead d.n = er at hrd hrr hei
                      go_wp2_with (first
                        | (go_at_call 15; refine hrd.mono ?_; rintro e w6 ⟨rfl, hw6⟩; subst w6)
                        | (go_at_call 16; refine hrr.mono ?_; rintro e w7 ⟨rfl, hw7⟩; subst w7)
                        | (go_at_call 12; refine (num_any _ _ (by omega) (by omega)).mono ?_; rintro e w8 ⟨rfl, hw8⟩; subst w8))
                      go_loopw [21] (fun i wy => i = .int .i64 0 ∧ wy = wq) (fun _ _ => 0)
                      case atStart => exact ⟨rfl, rfl⟩
                      case round =>
                        obtain ⟨rfl, rfl⟩ := hrel
                        go_wp2
                        go_meet
                        case rel => exact ⟨rfl, F, G, s, t2, by omega, hsec, hsiz⟩
                  · have e1 : (d.kind == 1) = false := by simp [k1]
                    clear k0 k1 k2 k3 k4
                    go_wp2
                    go_meet
                    case rel => exact ⟨rfl, F, G, s, t2, by omega, hsec, hsiz⟩
        case rest => as_aux_lemma =>
          obtain ⟨rfl, F', G', s', t', hops', hsec', hsiz'⟩ := hcut
          clear t2 y0 y1 y2 y3 y4 hoq z5 z6 z7 hlp hlk hlt' hdk hdn hdp hdkk hdt hle
          have t'' := t'
          obtain ⟨_, ⟨gn, cn, gs, cs, gu, cu, hr⟩, _, _⟩ := t''
          have x0 := hr.c0
          have x1 := hr.c1
          have x4 := hr.c4
          have x6 := hr.c6
          have hc : Hid (∀ W, Below wc.heap.size wc W → W.cell? ⟨r, 0, none⟩ = some (.int .i64 s'.size) ∧ W.cell? ⟨r, 1, none⟩ = some (.slice (some ⟨gn, 0, none⟩) s'.sectors cn) ∧ W.cell? ⟨r, 4, none⟩ = some (.int .i64 s'.ops) ∧ W.cell? ⟨r, 6, none⟩ = some (.bool s'.dead)) := by
            show ∀ W, _ → _
            intro W hW
            have e := hW.block r hr.lt
            exact ⟨(World.cell?_of_block (w := wc) e).trans x0, (World.cell?_of_block (w := wc) e).trans x1, (World.cell?_of_block (w := wc) e).trans x4, (World.cell?_of_block (w := wc) e).trans x6⟩
          clear hr
          have u1 : Hid (∀ W, Two w W p r F' G' s' s' → (Calls Try.prog 23 #[.pointer (some ⟨p, 0, none⟩)] W fun e w' => e = .returned (.bool s'.dead) ∧ w' = W) ∧ (Calls Try.prog 24 #[.pointer (some ⟨p, 0, none⟩)] W fun e w' => e = .returned (.int .i64 s'.ops) ∧ w' = W) ∧ (Calls Try.prog 28 #[.pointer (some ⟨p, 0, none⟩)] W fun e w' => e = .returned (.int .i64 s'.sectors) ∧ w' = W) ∧ (Calls Try.prog 29 #[.pointer (some ⟨p, 0, none⟩)] W fun e w' => e = .returned (.int .i64 s'.size) ∧ w' = W)) := by
            show ∀ W, _ → _
            exact fun W h => ⟨dead_any h.held.disk, ops_any h.held.disk, sectors_any h.held.disk, size_any h.held.disk⟩
          have u2 : Hid (∀ W, Below wc.heap.size wc W → Calls Try.prog 26 #[.pointer (some ⟨p, 0, none⟩)] W fun e w' => ∃ v, e = .returned v ∧ Ints w' v s'.unsafes ∧ Below W.heap.size W w' ∧ Below wc.heap.size wc w') := by
            show ∀ W, _ → _
            intro W hW
            refine (unsafe_any (t'.grow hW).held.disk (by omega)).mono ?_
            rintro e w' ⟨v, e1, e2, e3, _⟩
            exact ⟨v, e1, e2, e3, hW.trans (e3.mono hW.size)⟩
          have u3 : Hid (∀ W, Below wc.heap.size wc W → Calls Try.prog 27 #[.pointer (some ⟨r, 0, none⟩)] W fun e w' => ∃ v, e = .returned v ∧ Ints w' v s'.unsafes ∧ Below W.heap.size W w' ∧ Below wc.heap.size wc w') := by
            show ∀ W, _ → _
            intro W hW
            refine (refUnsafe_any (t'.grow hW).ref).mono ?_
            rintro e w' ⟨v, e1, e2, e3⟩
            exact ⟨v, e1, e2, e3, hW.trans (e3.mono hW.size)⟩
          have u4 : Hid (∀ W V v1 v2, Ints V v1 s'.unsafes → Ints V v2 s'.unsafes → Below V.heap.size V W → Below wc.heap.size wc W → Calls Try.prog 25 #[v1, v2] W fun e w' => e = .returned (.bool true) ∧ Below wc.heap.size wc w') := by
            show ∀ W V v1 v2, _ → _
            intro W V v1 v2 h1 h2 hV hW
            refine (ints_eq s'.unsafes v1 v2 W (by have := unsafes_len s'; omega) (h1.grow hV) (h2.grow hV)).mono ?_
            rintro e w' ⟨e1, m, e2⟩
            exact ⟨e1, by rw [e2]; exact below_drewN hW m⟩
          go_wp2
          go_region_held3 (fun W => W.cell? ⟨r, 0, none⟩ = some (.int .i64 s'.size) ∧ W.cell? ⟨r, 1, none⟩ = some (.slice (some ⟨gn, 0, none⟩) s'.sectors cn) ∧ W.cell? ⟨r, 4, none⟩ = some (.int .i64 s'.ops) ∧ W.cell? ⟨r, 6, none⟩ = some (.bool s'.dead)) (go_keep) (first
            | (go_at_call 23; refine Calls.mono (u1.out _ (t'.grow (by first | exact below_dr _ _ | exact Below.refl _ _ | exact bX | exact below_drewN bX _ | exact bU | exact below_drewN bU _ | exact bV | exact below_drewN bV _))).1 ?_; rintro e wA ⟨rfl, hwA⟩; subst wA)
            | (go_at_call 24; refine Calls.mono (u1.out _ (t'.grow (by first | exact below_dr _ _ | exact Below.refl _ _ | exact bX | exact below_drewN bX _ | exact bU | exact below_drewN bU _ | exact bV | exact below_drewN bV _))).2.1 ?_; rintro e wA ⟨rfl, hwA⟩; subst wA)
            | (go_at_call 28; refine Calls.mono (u1.out _ (t'.grow (by first | exact below_dr _ _ | exact Below.refl _ _ | exact bX | exact below_drewN bX _ | exact bU | exact below_drewN bU _ | exact bV | exact below_drewN bV _))).2.2.1 ?_; rintro e wA ⟨rfl, hwA⟩; subst wA)
            | (go_at_call 29; refine Calls.mono (u1.out _ (t'.grow (by first | exact below_dr _ _ | exact Below.refl _ _ | exact bX | exact below_drewN bX _ | exact bU | exact below_drewN bU _ | exact bV | exact below_drewN bV _))).2.2.2 ?_; rintro e wA ⟨rfl, hwA⟩; subst wA)
            | (go_at_call 26; refine Calls.mono (u2.out _ (by first | exact below_dr _ _ | exact Below.refl _ _ | exact bX | exact below_drewN bX _ | exact bU | exact below_drewN bU _ | exact bV | exact below_drewN bV _)) ?_; rintro e wU ⟨vU, rfl, iU, dU, bU⟩; obtain ⟨yA, yB, yC, yD⟩ := hc.out wU bU; replace iU : Hid _ := iU)
            | (go_at_call 27; refine Calls.mono (u3.out _ (by first | exact below_dr _ _ | exact Below.refl _ _ | exact bX | exact below_drewN bX _ | exact bU | exact below_drewN bU _ | exact bV | exact below_drewN bV _)) ?_; rintro e wV ⟨vV, rfl, iV, dV, bV⟩; obtain ⟨yA, yB, yC, yD⟩ := hc.out wV bV; replace iV : Hid _ := iV)
            | (go_at_call 25; (first | refine Calls.mono (u4.out _ wV _ _ (Ints.grow iU.out (by first | exact dV | exact Below.trans (below_dr _ _) dV)) iV.out (by first | exact below_dr _ _ | exact Below.refl _ _) (by first | exact below_dr _ _ | exact Below.refl _ _ | exact bX | exact below_drewN bX _ | exact bU | exact below_drewN bU _ | exact bV | exact below_drewN bV _)) ?_ | refine Calls.mono (u4.out _ wU _ _ iU.out (Ints.grow iV.out (by first | exact dU | exact Below.trans (below_dr _ _) dU)) (by first | exact below_dr _ _ | exact Below.refl _ _) (by first | exact below_dr _ _ | exact Below.refl _ _ | exact bX | exact below_drewN bX _ | exact bU | exact below_drewN bU _ | exact bV | exact below_drewN bV _)) ?_); rintro e wX ⟨rfl, bX⟩; obtain ⟨yA, yB, yC, yD⟩ := hc.out wX bX))
          go_wp2
          refine ⟨⟨k + 1, F', G', s', by omega, by go_num, t'.grow (by first | exact below_dr _ _ | exact Below.refl _ _ | exact bX | exact below_drewN bX _ | exact bU | exact below_drewN bU _ | exact bV | exact below_drewN bV _), hops', hsec', hsiz'⟩, ?_⟩
          simp [intOf]; omega
      · as_aux_lemma =>
        obtain rfl : k = n0 := by omega
        have hkd : decide ((k : Int) < (k : Int)) = false := by simp
        have hse2 := h2.ref
        obtain ⟨gn, cn, gs, cs, gu, cu, hr⟩ := hse2
        have hsec2 := hr.sec2
        have hz2 := hr.size2
        have hnl : Hid (∀ n : Int, (s.now n).length = s.size) := hr.nowLen
        clear hr
        go_wp2
        go_loopw [22] (fun i wr => ∃ j : Nat, j ≤ s.sectors ∧ i = .int .i64 j ∧ Two w wr p r F G s s) (fun i _ => s.sectors - (intOf i).toNat)
        case atStart => exact ⟨0, Nat.zero_le _, rfl, h2⟩
        case round =>
          clear h2
          obtain ⟨j, hj, rfl, h2⟩ := hrel
          have hbw := h2.held.below
          have h2' := h2
          obtain ⟨_, ⟨gn, cn, gs, cs, gu, cu, hr⟩, _, _⟩ := h2'
          have x1 := hr.c1
          have x6 := hr.c6
          clear hr
          cases hdd : s.dead with
          | true =>
            rw [hdd] at x6
            go_wp2_with (first | (go_at_call 9; refine (live_any _).mono ?_; rintro e w9 ⟨rfl, hb9⟩))
            go_ret
            exact ⟨rfl, hbw.trans (hb9.mono hbw.size)⟩
          | false =>
            rw [hdd] at x6
            by_cases hlt2 : j < s.sectors
            · have hji : (j : Int) < (s.sectors : Int) := by omega
              by_cases h200 : (j : Int) < 200
              · have hrd := read_ok h2.held.disk (j : Int) ⟨by omega, hji⟩ hdd
                have her : s.errRead j = 0 := by unfold St.errRead; rw [if_pos ⟨by omega, hji⟩]; simp [hdd]
                have hta : s.textAt j = strOfNums (s.now j) := by unfold St.textAt; rw [if_pos her]
                have hrr : Hid (∀ W, Below wr.heap.size wr W → Calls Try.prog 16 #[.pointer (some ⟨r, 0, none⟩), .int .i64 j] W fun e w' => e = .returned (.tuple #[.string (strOfNums (s.now j)), .int .i64 0]) ∧ w' = W) := by
                  show ∀ W, _ → _
                  intro W hW
                  have := refRead_any (h2.grow hW).ref j
                  rw [her, hta] at this
                  exact this
                have hnj := hnl.out j
                rw [hsiz] at hrd hnj
                go_wp2_with (first
                  | (go_at_call 15; refine hrd.mono ?_; rintro e w6 ⟨g6, rfl, hg6, hrow6, hb6⟩; have hcv := conv_str (row_bts hrow6 hnj); clear hrow6)
                  | (go_at_call 16; refine Calls.mono (hrr.out _ hb6) ?_; rintro e w7 ⟨rfl, hw7⟩; subst w7)
                  | (go_at_call 12; refine (num_any _ _ (by omega) (by omega)).mono ?_; rintro e w8 ⟨rfl, hw8⟩; subst w8))
                refine ⟨⟨j + 1, by omega, by go_num, h2.grow hb6⟩, ?_⟩
                simp [intOf]; omega
              · have hd200 : decide ((j : Int) < 200) = false := by simpa using h200
                go_wp2_with (first | (go_at_call 9; refine (live_any _).mono ?_; rintro e w9 ⟨rfl, hb9⟩))
                go_ret
                exact ⟨rfl, hbw.trans (hb9.mono hbw.size)⟩
            · have hjd : decide ((j : Int) < (s.sectors : Int)) = false := by simp; omega
              go_wp2_with (first | (go_at_call 9; refine (live_any _).mono ?_; rintro e w9 ⟨rfl, hb9⟩))
              go_ret
              exact ⟨rfl, hbw.trans (hb9.mono hbw.size)⟩
end Go.Proofs.Ytcjmfibehofepaa
