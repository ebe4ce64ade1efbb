/- The walk of DiskSafe. -/
import Derived.Test.YtcjmfibehofepaaSafeM
namespace Go.Proofs.Ytcjmfibehofepaa
open Go.RowKit Go.Maps Go.ChangeMaps Go.MapKept

/-- A write of an act's bytes. -/
theorem safe_write {w wr : World} {p : Nat} {F : Nat → Prop} {s : St} {k : Nat} (hh : Held w wr p F s) (hp : Plain k s) (hk : k ≤ 1000) (n : Int) (hn : In64 n) (u : Value) (x : List Int) (hu : Bts wr u x) (hx : IsBytes x) (hF : x ≠ [] → ∀ j, u.ownBlock = some j → j < w.heap.size)
    (W : World) (hW : Below (wr.alloc (.cells #[u] 33)).heap.size (wr.alloc (.cells #[u] 33)) W) :
    Calls Try.prog 13 #[.pointer (some ⟨p, 0, none⟩), .int .i64 n, .slice (some ⟨wr.heap.size, 0, none⟩) 1 1] W fun e w' => ∃ z, e = .returned (.int .i64 z) ∧ ∃ F' s', Held w w' p F' s' ∧ Plain (k + 1) s' ∧ s'.safe = s.safe ∧ Frm F wr w' ∧ ∀ j, F' j → F j ∨ wr.heap.size ≤ j := by
  have hlb := listsB1 (P := fun b => ¬ F b) hu (fun h => by have := (hh.blocks _ h).2; omega) (fun h j hj hf => by have := hF h j hj; have := (hh.blocks _ hf).1; omega)
  have hlb2 : ListsB (fun b => ¬ F b) W (.slice (some ⟨wr.heap.size, 0, none⟩) 1 1) [x] := by
    obtain ⟨a, c, e, h⟩ := hlb
    refine ⟨a, c, e, ?_⟩
    rcases h with h | ⟨b, o, h1, h2, h3⟩
    · exact .inl h
    · refine .inr ⟨b, o, h1, h2, fun t ht => ?_⟩
      obtain ⟨u', g1, g2, g3⟩ := h3 t ht
      exact ⟨u', (hW.cell (p := ⟨b, o + t, none⟩) (World.block_lt_of_cell? _ _ g1)).trans g1, g2.grow hW, g3⟩
  refine (held_write ((hh.alloc _).grow hW) (by have := hp.2.2.2.2.1; omega) n _ [x] hlb2 (by simp) hn.1 hn.2).mono ?_
  rintro e w' ⟨rfl, F', hh', hf, hF'⟩
  obtain ⟨q1, q2⟩ := plain_write hp n [x] (by simpa using hx)
  have hsz : wr.heap.size ≤ W.heap.size := by have := hW.size; simp at this; omega
  refine ⟨_, rfl, F', _, hh', q1, q2, ((Frm.alloc F wr _).trans (Frm.of_below hW F) (fun _ h => .inl h)).trans hf (fun _ h => .inl h), fun j hj => ?_⟩
  rcases hF' j hj with h | h
  · exact .inl h
  · exact .inr (Nat.le_trans hsz h)
theorem below_d1 (W : World) : Below W.heap.size W W.drew := ⟨rfl, rfl, rfl, Nat.le_refl _, fun _ _ => rfl⟩
theorem below_d2 (W : World) : Below W.heap.size W W.drew.drew := ⟨rfl, rfl, rfl, Nat.le_refl _, fun _ _ => rfl⟩

theorem slv_bts {w : World} {g : Nat} {xs : List Int} (h : Row w g xs) (hl : xs.length = 64) : Bts w (slV 64 g) xs := by
  have := h.bts
  rw [hl] at this
  exact this
theorem StrsR.cell {w : World} {b o n c : Nat} {ss : List ByteArray} (h : StrsR w (.slice (some ⟨b, o, none⟩) n c) ss) (t : Nat) (ht : t < ss.length) : w.cell? ⟨b, o + t, none⟩ = some (.string (ss.getD t ⟨#[]⟩)) := by
  obtain ⟨b', o', c', e, hc⟩ := h.at t ht
  cases e
  exact hc
theorem strL_len (f : Nat → List Int) (n : Nat) : ((List.range n).map (fun i => strOfNums (f i))).length = n := by simp
theorem strL_get (f : Nat → List Int) (n t : Nat) (ht : t < n) : ((List.range n).map (fun i => strOfNums (f i))).getD t ⟨#[]⟩ = strOfNums (f t) := by simp [ht]
theorem index_str {xs : List Int} (hb : IsBytes xs) (t : Nat) (ht : t < xs.length) (W : World) : (Instr.index 9 (.string (strOfNums xs)) (.int .i64 (t : Int))).run Try.prog W = .ok (.int .u8 (xs.getD t 0)) W := by
  rw [run_index_string W 9 _ .i64 t Try.underlying9, dif_pos ⟨by omega, by rw [strOfNums_size]; omega⟩]
  have e : ((strOfNums xs)[(t : Int).toNat]'(by rw [strOfNums_size]; omega)).toNat = (xs.getD t 0).toNat := by
    have h1 : (strOfNums xs)[(t : Int).toNat]'(by rw [strOfNums_size]; omega) = UInt8.ofNat (xs[t]'ht).toNat := by
      simp [ByteArray.getElem_eq_getElem_data, strOfNums]
    rw [h1]
    have h2 := hb (xs[t]'ht) (List.getElem_mem ht)
    have h3 : xs.getD t 0 = xs[t]'ht := by simp [ht]
    rw [h3]
    simp
    omega
  have h2 : 0 ≤ xs.getD t 0 := by
    have h3 : xs.getD t 0 = xs[t]'ht := by simp [ht]
    rw [h3]
    exact (hb (xs[t]'ht) (List.getElem_mem ht)).1
  congr 2
  omega
theorem strOf_drop (xs : List Int) (k : Nat) : (strOfNums xs).extract k (strOfNums xs).size = strOfNums (xs.drop k) := by
  apply ByteArray.ext
  rw [ByteArray.data_extract]
  simp only [strOfNums, ByteArray.size, List.extract_toArray, List.size_toArray, List.length_map, List.map_drop]
  congr 1
  rw [List.extract_eq_take_drop, List.take_of_length_le]
  simp
theorem acts_lt {w : World} {b o : Nat} {a : Deed} (h : ActAt w b o a) {u : Value} (hu : w.cell? ⟨b, o + 2, none⟩ = some u) : a.p ≠ [] → ∀ j, u.ownBlock = some j → j < w.heap.size := by
  obtain ⟨vp, vk, vt, q0, q1, q2, q3, q4, q5, q6, q7⟩ := h
  rw [q2] at hu
  cases hu
  exact fun h => q5.lt h
/-- The N and the P of an act, in a later world. -/
theorem act_np {w W : World} {b o : Nat} {a : Deed} (h : ActAt w b o a) (hi : ActIn a) (hb : Below w.heap.size w W) : ∃ ap lp cp, W.cell? ⟨b, o + 1, none⟩ = some (.int .i64 a.n) ∧ W.cell? ⟨b, o + 2, none⟩ = some (.slice ap lp cp) ∧ Bts W (.slice ap lp cp) a.p ∧ IsBytes a.p ∧ In64 a.n ∧ (a.p ≠ [] → ∀ j, (Value.slice ap lp cp).ownBlock = some j → j < w.heap.size) := by
  have hlt := fun u (hu : w.cell? ⟨b, o + 2, none⟩ = some u) => acts_lt h hu
  have h' := h.grow hb
  obtain ⟨vp, vk, vt, q0, q1, q2, q3, q4, q5, q6, q7⟩ := h
  have q5' := q5
  obtain ⟨ap, cp, rfl, _⟩ := q5'
  refine ⟨ap, _, cp, (hb.cell (p := ⟨b, o + 1, none⟩) (World.block_lt_of_cell? w _ q1)).trans q1, (hb.cell (p := ⟨b, o + 2, none⟩) (World.block_lt_of_cell? w _ q2)).trans q2, q5.grow hb, hi.2.2.1, hi.2.1, hlt _ q2⟩

theorem act_cells {w wr : World} {b o : Nat} {a : Deed} {u : Value} (h : ActAt w b o a) (hu : wr.cell? ⟨b, o + 2, none⟩ = some u) (hb : Below w.heap.size w wr) : ∀ W, Below w.heap.size w W → W.cell? ⟨b, o + 1, none⟩ = some (.int .i64 a.n) ∧ W.cell? ⟨b, o + 2, none⟩ = some u := by
  intro W hW
  obtain ⟨vp, vk, vt, q0, q1, q2, _⟩ := h
  have e := (hb.cell (p := ⟨b, o + 2, none⟩) (World.block_lt_of_cell? w _ q2)).trans q2
  rw [hu] at e
  cases e
  exact ⟨(hW.cell (p := ⟨b, o + 1, none⟩) (World.block_lt_of_cell? w _ q1)).trans q1, (hW.cell (p := ⟨b, o + 2, none⟩) (World.block_lt_of_cell? w _ q2)).trans q2⟩

set_option maxRecDepth 100000 in
set_option maxHeartbeats 16000000 in
theorem safe_main (w : World) (a0 a1 a2 a3 : Option Addr) (n0 c0 n1 c1 n2 c2 n3 c3 : Nat) (l more : List Deed) (keep : List Int) (ts : List (Int × Int)) (h0 : Acts w (.slice a0 n0 c0) l) (h1 : Acts w (.slice a1 n1 c1) more) (h2 : Ints w (.slice a2 n2 c2) keep) (h3 : Torns w (.slice a3 n3 c3) ts) (hki : ∀ x ∈ keep, In64 x) (hti : ∀ t ∈ ts, In64 t.1 ∧ In64 t.2)
    (e0 : Hid (n0 = l.length)) (e1 : Hid (n1 = more.length)) (e2 : Hid (n2 = keep.length)) (e3 : Hid (n3 = ts.length)) (hn2 : n2 ≤ 150) (hn3 : n3 ≤ 150) :
    Calls Try.prog 4 #[.slice a0 n0 c0, .slice a1 n1 c1, .slice a2 n2 c2, .slice a3 n3 c3] w fun e w' => e = .returned (.bool true) ∧ Below w.heap.size w w' := by
  have d2 : decide ((150 : Int) < (n2 : Int)) = false := by simp; omega
  have d3 : decide ((150 : Int) < (n3 : Int)) = false := by simp; omega
  have hu0 := huge_any _ _ h0
  have hu1 : Hid (∀ m, Calls Try.prog 8 #[.slice a1 n1 c1] (w.drewN m) fun e w' => HugeP (w.drewN m) more e w') := by
    show ∀ m, _
    intro m
    refine huge_any _ _ ?_
    obtain ⟨a, c, q1, q2, q3⟩ := h1
    refine ⟨a, c, q1, q2, ?_⟩
    rcases q3 with q3 | ⟨b, o, q3, q4⟩
    · exact .inl q3
    · exact .inr ⟨b, o, q3, fun t ht => (q4 t ht).grow (below_drewN (Below.refl _ _) m)⟩
  have g0 : Hid (∀ t, t < n0 → ∃ b o, a0 = some ⟨b, o, none⟩ ∧ ActAt w b (o + t * 5) (l.getD t act0) ∧ ActIn (l.getD t act0)) := by
    show ∀ t, _ → _
    intro t ht
    have := e0.out
    obtain ⟨a, c, q1, q2, q3⟩ := h0
    cases q1
    rcases q3 with q3 | ⟨b, o, q3, q4⟩
    · rw [q3] at ht; simp at ht
    · exact ⟨b, o, q3, q4 t (by omega), q2 _ (by rw [List.getD_eq_getElem?_getD, List.getElem?_eq_getElem (by omega)]; simp)⟩
  have g1 : Hid (∀ t, t < n1 → ∃ b o, a1 = some ⟨b, o, none⟩ ∧ ActAt w b (o + t * 5) (more.getD t act0) ∧ ActIn (more.getD t act0)) := by
    show ∀ t, _ → _
    intro t ht
    have := e1.out
    obtain ⟨a, c, q1, q2, q3⟩ := h1
    cases q1
    rcases q3 with q3 | ⟨b, o, q3, q4⟩
    · rw [q3] at ht; simp at ht
    · exact ⟨b, o, q3, q4 t (by omega), q2 _ (by rw [List.getD_eq_getElem?_getD, List.getElem?_eq_getElem (by omega)]; simp)⟩
  replace h2 : Hid _ := h2
  replace h3 : Hid _ := h3
  replace hki : Hid _ := hki
  replace hti : Hid _ := hti
  clear h0 h1
  go_enter Try.func4, Try.ntmps4
  go_wp2_with fail
  refine hu0.mono ?_
  rintro e w1 ⟨B0, rfl, hB0, m0, rfl⟩
  clear hu0
  cases B0 with
  | true =>
    clear hB0
    go_wp2_with (first | (go_at_call 9; refine (live_any _).mono ?_; rintro e w2 ⟨rfl, hb2⟩))
    go_ret
    exact ⟨rfl, (below_drewN (Below.refl _ w) m0).trans hb2⟩
  | false =>
    have hn0 : n0 ≤ 150 := by rw [e0.out]; exact hB0 rfl
    clear hB0
    go_wp2_with fail
    refine Calls.mono (hu1.out m0) ?_
    rintro e w1 ⟨B1, rfl, hB1, m1, hw1⟩
    clear hu1
    have hb1 : Below w.heap.size w w1 := by rw [hw1]; exact below_drewN (below_drewN (Below.refl _ w) m0) m1
    clear hw1
    cases B1 with
    | true =>
      clear hB1
      go_wp2_with (first | (go_at_call 9; refine (live_any _).mono ?_; rintro e w2 ⟨rfl, hb2⟩))
      go_ret
      exact ⟨rfl, hb1.trans (hb2.mono hb1.size)⟩
    | false =>
      have hn1 : n1 ≤ 150 := by rw [e1.out]; exact hB1 rfl
      clear hB1
      have hnew := held_new (w := w) (W := w1) 16 64 (by decide) (by decide) (by decide) (by decide) hb1
      go_wp2_with (first | (go_at_call 10; refine hnew.mono ?_; rintro e w2 ⟨p, rfl, hh2, hx2⟩) | (go_at_call 12; refine (num_any _ _ (by omega) (by omega)).mono ?_; rintro e w3 ⟨rfl, hw3⟩; subst w3))
      have hp0 : Plain 0 (St.new 16 64) := ⟨rfl, rfl, rfl, rfl, Nat.le_refl _, byt_new _ _⟩
      go_loopw [11] (fun i wr => ∃ (k : Nat) (F : Nat → Prop) (s : St), k ≤ n0 ∧ i = .int .i64 k ∧ Plain k s ∧ Held w wr p F s) (fun i _ => n0 - (intOf i).toNat)
      case atStart => exact ⟨0, _, _, Nat.zero_le _, rfl, hp0, hh2⟩
      case round =>
        obtain ⟨k, F, s, hk, rfl, hp, hh⟩ := hrel
        clear hp0 hh2 hx2 hnew
        by_cases hlt : k < n0
        · obtain ⟨b, o, rfl, hact, hin⟩ := g0.out k hlt
          have hkn : (k : Int) < (n0 : Int) := by omega
          obtain ⟨ap, lp, cp, q1, q2, q3, q4, q5, q6⟩ := act_np hact hin hh.below
          generalize l.getD k act0 = d at hact hin q1 q3 q4 q5 q6
          have hwr := fun W hW => safe_write hh hp (by omega) d.n q5 (.slice ap lp cp) d.p q3 q4 q6 W hW
          have j0 : Hid _ := hwr _ (Below.refl _ _)
          have j1 : Hid _ := hwr _ (below_d1 _)
          have j2 : Hid _ := hwr _ (below_d2 _)
          have qq : Hid (∀ W, Below w.heap.size w W → W.cell? ⟨b, o + k * 5 + 1, none⟩ = some (.int .i64 d.n) ∧ W.cell? ⟨b, o + k * 5 + 2, none⟩ = some (.slice ap lp cp)) := act_cells hact q2 hh.below
          clear hwr hact hin q3 q4 q6
          go_wp2
          go_region_held3 (fun W => W.cell? ⟨b, o + k * 5 + 1, none⟩ = some (.int .i64 d.n) ∧ W.cell? ⟨b, o + k * 5 + 2, none⟩ = some (.slice ap lp cp)) (go_keep) (first | (go_at_call 13; (first | refine Calls.mono j1.out ?_ | refine Calls.mono j0.out ?_ | refine Calls.mono j2.out ?_); rintro e w3 ⟨z3, rfl, F3, s3, hh3, hp3, hs3, hf3, hF3⟩; obtain ⟨y1, y2⟩ := qq.out _ hh3.below))
          go_wp2
          refine ⟨⟨k + 1, F3, s3, by omega, by go_num, hp3, hh3⟩, ?_⟩
          simp [intOf]; omega
        · obtain rfl : k = n0 := by omega
          have hsy := held_sync hh (by have := hp.2.2.2.2.1; omega)
          obtain ⟨y1, y2, y3⟩ := plain_sync hp
          rw [y1] at hsy
          have hun : Hid (∀ W F, Held w W p F s.sync → Calls Try.prog 26 #[.pointer (some ⟨p, 0, none⟩)] W fun e w' => ∃ a c, e = .returned (.slice a 0 c) ∧ Below W.heap.size W w') := by
            show ∀ W F, _ → _
            intro W F hW
            refine (unsafe_any hW.disk (by have := y2.2.2.2.2.1; omega)).mono ?_
            rintro e w' ⟨v, rfl, ⟨a, c, hv, _⟩, hb, _⟩
            rw [y3] at hv
            exact ⟨a, c, by rw [hv]; rfl, hb⟩
          go_wp2_with (first | (go_at_call 17; refine hsy.mono ?_; rintro e w3 ⟨rfl, F3, hh3, hf3, hF3⟩) | (go_at_call 26; refine Calls.mono (hun.out _ _ hh3) ?_; rintro e w4 ⟨a4, c4, rfl, hb4⟩) | (go_at_call 12; refine (num_any _ _ (by omega) (by omega)).mono ?_; rintro e w5 ⟨rfl, hw5⟩; subst w5))
          have hh4 := hh3.grow hb4
          have hL4 : ∀ j, F3 j → j < w4.heap.size := fun j hj => (hh4.blocks j hj).2
          have hz2 := y2.2.2.2.1
          have hsec2 := y2.2.2.1
          have hdd2 := y2.1
          have hsn := sync_now hp
          generalize s.sync = s2 at hh3 hh4 y2 hz2 hsec2 hdd2 hsn
          replace hsn : Hid _ := hsn
          clear hsy hun hh hp hh3 hb4 hf3 hF3 y1 y3 g0
          go_loopw [12, 14] (fun v i wr => ∃ j : Nat, j ≤ 16 ∧ i = .int .i64 j ∧ Hid (StrOwn wr w4.heap.size v ((List.range j).map (fun (i : Nat) => strOfNums (s2.now i)))) ∧ Held w wr p F3 s2 ∧ w4.heap.size ≤ wr.heap.size) (fun _ i _ => 16 - (intOf i).toNat)
          case atStart => exact ⟨0, Nat.zero_le _, rfl, World.ownsRow_nil _ _ _ _, hh4, Nat.le_refl _⟩
          case round =>
            obtain ⟨j, hj, rfl, hso, hh, hle⟩ := hrel
            by_cases hlt : j < 16
            · have hrd := read_ok hh.disk (j : Int) ⟨by omega, by rw [hsec2]; omega⟩ hdd2
              rw [hz2] at hrd
              have hnl : (s2.now j).length = 64 := by
                obtain ⟨_, _, _, _, _, _, hd, _⟩ := hh.disk
                rw [hd.nowLen, hz2]
              have hw4 : w.heap.size ≤ w4.heap.size := hh4.le
              go_wp2_with (first
                | (go_at_call 15; refine hrd.mono ?_; rintro e w6 ⟨g6, rfl, hg6, hrow6, hb6⟩; have hcv := conv_str (slv_bts hrow6 hnl); have hs6 := hb6.size; clear hrow6)
                | (at_builtin; refine appStr rfl _ _ rfl w4.heap.size u12 _ (strOfNums (s2.now j)) rfl rfl (StrOwn.below hso.out hb6) (by omega) (by simp; omega) ?_; intro vN wN hoN hbN; replace hoN : Hid _ := hoN))
              refine ⟨⟨j + 1, by omega, by go_num, ?_, (hh.grow hb6).over hbN hL4 hw4, by have := hbN.size; omega⟩, ?_⟩
              · have := hoN.out
                rw [List.range_succ, List.map_append]
                exact this
              · simp [intOf]; omega
            · obtain rfl : j = 16 := by omega
              have hkp0 : Kept wr F3 u12 ((List.range 16).map (fun (i : Nat) => strOfNums (s2.now i))) := ⟨hso.out.strs, fun g hg => ⟨fun h => by have := (hso.out.lt g hg).1; have := hL4 g h; omega, (hso.out.lt g hg).2⟩⟩
              generalize hWL : (List.range 16).map (fun (i : Nat) => strOfNums (s2.now i)) = WL at hkp0
              replace hWL : Hid _ := hWL
              replace hkp0 : Hid _ := hkp0
              clear hh4 hso hL4 hle
              go_wp2
              go_loopw [17] (fun i wr => ∃ (j : Nat) (F : Nat → Prop) (s : St), j ≤ n1 ∧ i = .int .i64 j ∧ Plain (k + 1 + j) s ∧ s.safe = s2.safe ∧ Held w wr p F s ∧ Kept wr F u12 WL) (fun i _ => n1 - (intOf i).toNat)
              case atStart => exact ⟨0, F3, s2, Nat.zero_le _, rfl, y2, rfl, hh, hkp0.out⟩
              case round =>
                obtain ⟨j, F, s, hj2, rfl, hp, hsf, hh, hkp⟩ := hrel
                clear hkp0
                by_cases hlt : j < n1
                · obtain ⟨b, o, rfl, hact, hin⟩ := g1.out j hlt
                  have hkn : (j : Int) < (n1 : Int) := by omega
                  obtain ⟨ap, lp, cp, q1, q2, q3, q4, q5, q6⟩ := act_np hact hin hh.below
                  generalize more.getD j act0 = d at hact hin q1 q3 q4 q5 q6
                  have hwr := fun W hW => safe_write hh hp (by omega) d.n q5 (.slice ap lp cp) d.p q3 q4 q6 W hW
                  have j0 : Hid _ := hwr _ (Below.refl _ _)
                  have j1 : Hid _ := hwr _ (below_d1 _)
                  have j2 : Hid _ := hwr _ (below_d2 _)
                  have qq : Hid (∀ W, Below w.heap.size w W → W.cell? ⟨b, o + j * 5 + 1, none⟩ = some (.int .i64 d.n) ∧ W.cell? ⟨b, o + j * 5 + 2, none⟩ = some (.slice ap lp cp)) := act_cells hact q2 hh.below
                  clear hwr hact hin q3 q4 q6
                  go_wp2
                  go_region_held3 (fun W => W.cell? ⟨b, o + j * 5 + 1, none⟩ = some (.int .i64 d.n) ∧ W.cell? ⟨b, o + j * 5 + 2, none⟩ = some (.slice ap lp cp)) (go_keep) (first | (go_at_call 13; (first | refine Calls.mono j1.out ?_ | refine Calls.mono j0.out ?_ | refine Calls.mono j2.out ?_); rintro e w5 ⟨z5, rfl, F5, s5, hh5, hp5, hs5, hf5, hF5⟩; obtain ⟨y5, y6⟩ := qq.out _ hh5.below))
                  go_wp2
                  go_roundw
                  case rel => exact ⟨_, _, _, _, _, _, _, _, _, _, _, _, _, _, _, _, _, _, _, _, ⟨j + 1, F5, s5, by omega, by go_num, hp5, hs5.trans hsf, hh5, hkp.gone hf5 hF5⟩, rfl⟩
                  case measure => simp [intOf]; omega
                · obtain rfl : j = n1 := by omega
                  have hz3 := hp.2.2.2.1
                  have hsec3 := hp.2.2.1
                  have hdd3 := hp.1
                  have hL5 : ∀ i, F i → i < wr.heap.size := fun i hi => (hh.blocks i hi).2
                  have hw5 : w.heap.size ≤ wr.heap.size := hh.le
                  obtain ⟨w5, hw5e⟩ : ∃ w5, Hid (w5 = wr) := ⟨_, rfl⟩
                  have hkB : ∀ g, u12.ownBlock = some g → g < w5.heap.size := fun g hg => by rw [hw5e.out]; exact (hkp.2 g hg).2
                  rw [← hw5e.out] at hL5 hw5
                  go_wp2
                  go_loopw [13, 18] (fun v i wr => ∃ q : Nat, q ≤ 16 ∧ i = .int .i64 q ∧ Hid (StrOwn wr w5.heap.size v ((List.range q).map (fun (i : Nat) => strOfNums (s.now i)))) ∧ Held w wr p F s ∧ w5.heap.size ≤ wr.heap.size ∧ Kept wr F u12 WL) (fun _ i _ => 16 - (intOf i).toNat)
                  case atStart => exact ⟨0, Nat.zero_le _, rfl, World.ownsRow_nil _ _ _ _, hh, by rw [hw5e.out]; exact Nat.le_refl _, hkp⟩
                  case round =>
                    obtain ⟨q, hq, rfl, hso, hh', hle, hkp'⟩ := hrel
                    clear hkp hh hw5e
                    by_cases hlt : q < 16
                    · have hrd := read_ok hh'.disk (q : Int) ⟨by omega, by rw [hsec3]; omega⟩ hdd3
                      rw [hz3] at hrd
                      have hnl : (s.now q).length = 64 := by
                        obtain ⟨_, _, _, _, _, _, hd, _⟩ := hh'.disk
                        rw [hd.nowLen, hz3]
                      go_wp2_with (first
                        | (go_at_call 15; refine hrd.mono ?_; rintro e w6 ⟨g6, rfl, hg6, hrow6, hb6⟩; have hcv := conv_str (slv_bts hrow6 hnl); have hs6 := hb6.size; clear hrow6)
                        | (at_builtin; refine appStr rfl _ _ rfl w5.heap.size u13 _ (strOfNums (s.now q)) rfl rfl (StrOwn.below hso.out hb6) (by omega) (by simp; omega) ?_; intro vN wN hoN hbN; replace hoN : Hid _ := hoN))
                      go_roundw
                      case rel =>
                        have hoN' : Hid (StrOwn wN w5.heap.size vN ((List.range (q + 1)).map (fun (i : Nat) => strOfNums (s.now i)))) := by
                          have := hoN.out
                          show StrOwn _ _ _ _
                          rw [List.range_succ, List.map_append]
                          exact this
                        exact ⟨_, _, _, _, _, _, _, _, _, _, _, _, _, _, _, _, _, _, _, ⟨q + 1, by omega, by go_num, hoN', (hh'.grow hb6).over hbN hL5 hw5, by have := hbN.size; omega, (hkp'.grow hb6).below hbN hkB⟩, rfl⟩
                      case measure => simp [intOf]; omega
                    · obtain rfl : q = 16 := by omega
                      have hkN : Kept wr F u13 ((List.range 16).map (fun (i : Nat) => strOfNums (s.now i))) := ⟨hso.out.strs, fun g hg => ⟨fun h => by have := (hso.out.lt g hg).1; have := hL5 g h; omega, (hso.out.lt g hg).2⟩⟩
                      have hsl : ∀ n : Int, (s.safe n).length = 64 ∧ (s.now n).length = 64 := fun n => by
                        obtain ⟨_, _, _, _, _, _, hd, _⟩ := hh'.disk
                        exact ⟨by rw [hd.safeLen, hz3], by rw [hd.nowLen, hz3]⟩
                      have hcr := held_crash hh' (by have := hp.2.2.2.2.1; omega) keep ts (.slice a2 n2 c2) (.slice a3 n3 c3) (Ints.grow h2.out hh'.below) (Torns.grow h3.out hh'.below) (by rw [← e2.out]; omega) (by rw [← e3.out]; omega) hki.out hti.out
                      have hby4 := byt_crash hp.2.2.2.2.2 keep ts
                      have hby3 := hp.2.2.2.2.2
                      replace hsl : Hid _ := hsl
                      replace hby4 : Hid _ := hby4
                      replace hby3 : Hid _ := hby3
                      clear hso hL5 hle hkB
                      go_wp2_with fail
                      refine hcr.mono ?_
                      rintro e w7 ⟨rfl, F7, hh7, hf7, hF7⟩
                      have hkW7 := hkp'.gone hf7 hF7
                      have hkN7 := hkN.gone hf7 hF7
                      rw [← hWL.out] at hkW7
                      obtain ⟨b1, o1, d1, rfl, _⟩ := hkW7.1.at 0 (by rw [strL_len]; omega)
                      obtain ⟨b2, o2, d2', rfl, _⟩ := hkN7.1.at 0 (by rw [strL_len]; omega)
                      rw [strL_len] at hkW7 hkN7 ⊢
                      rw [strL_len]
                      clear hcr hkp' hkN hf7 hF7 hh' y2
                      obtain ⟨WL2, hWL2⟩ : ∃ WL2, Hid (WL2 = (List.range 16).map (fun (i : Nat) => strOfNums (s2.now i))) := ⟨_, rfl⟩
                      obtain ⟨NL2, hNL2⟩ : ∃ NL2, Hid (NL2 = (List.range 16).map (fun (i : Nat) => strOfNums (s.now i))) := ⟨_, rfl⟩
                      rw [← hWL2.out] at hkW7
                      rw [← hNL2.out] at hkN7
                      have hs4 : Hid ((s.crash keep ts).sectors = 16 ∧ (s.crash keep ts).size = 64 ∧ (s.crash keep ts).dead = false ∧ (s.crash keep ts).ops = s.ops) := ⟨hsec3, hz3, rfl, rfl⟩
                      obtain ⟨s4, hs4e⟩ : ∃ s4, Hid (s4 = s.crash keep ts) := ⟨_, rfl⟩
                      rw [← hs4e.out] at hh7 hs4 hby4
                      go_wp2
                      go_loopw [21] (fun i wr => ∃ r : Nat, r ≤ 16 ∧ i = .int .i64 r ∧ Held w wr p F7 s4 ∧ Kept wr F7 (.slice (some ⟨b1, o1, none⟩) 16 d1) WL2 ∧ Kept wr F7 (.slice (some ⟨b2, o2, none⟩) 16 d2') NL2) (fun i _ => 16 - (intOf i).toNat)
                      case atStart => exact ⟨0, Nat.zero_le _, rfl, hh7, hkW7, hkN7⟩
                      case round =>
                        obtain ⟨r, hr, rfl, hh8, hkW, hkN⟩ := hrel
                        clear hh7 hkW7 hkN7
                        by_cases hlt : r < 16
                        · have hrd := read_ok hh8.disk (r : Int) ⟨by omega, by rw [hs4.out.1]; omega⟩ hs4.out.2.2.1
                          rw [hs4.out.2.1] at hrd
                          have hrl : (s4.now r).length = 64 := by
                            obtain ⟨_, _, _, _, _, _, hd, _⟩ := hh8.disk
                            rw [hd.nowLen, hs4.out.2.1]
                          have hcw := fun W (hW : Below wr.heap.size wr W) => (hkW.grow hW).1.cell r (by rw [hWL2.out, strL_len]; exact hlt)
                          have hcn := fun W (hW : Below wr.heap.size wr W) => (hkN.grow hW).1.cell r (by rw [hNL2.out, strL_len]; exact hlt)
                          rw [hWL2.out, strL_get _ _ _ hlt] at hcw
                          rw [hNL2.out, strL_get _ _ _ hlt] at hcn
                          replace hcw : Hid _ := hcw
                          replace hcn : Hid _ := hcn
                          have hkn : (r : Int) < 16 := by omega
                          have hzw : (strOfNums (s2.now r)).size = 64 := by rw [strOfNums_size, hsn.out, ← hsf]; exact (hsl.out r).1
                          have hzn : (strOfNums (s.now r)).size = 64 := by rw [strOfNums_size]; exact (hsl.out r).2
                          generalize hSw : strOfNums (s2.now r) = Sw at hcw hzw
                          generalize hSn : strOfNums (s.now r) = Sn at hcn hzn
                          replace hSw : Hid _ := hSw
                          replace hSn : Hid _ := hSn
                          go_wp2_with (first
                            | (go_at_call 15; refine hrd.mono ?_; rintro e w8 ⟨g8, rfl, hg8, hrow8, hb8⟩; unfold slV; have t1 := hcw.out w8 hb8; have t2 := hcn.out w8 hb8; have hs8 := hb8.size; replace hrow8 : Hid _ := hrow8)
                            | (go_at_call 12; refine (num_any _ _ (by omega) (by omega)).mono ?_; rintro e w9 ⟨rfl, hw9⟩; subst w9))
                          have hlx : Hid (∀ t, t < 64 → ∃ x : Int, w8.cell? ⟨g8, t, none⟩ = some (.int .u8 x) ∧ x = (s4.now r).getD t 0) := by
                            show ∀ t, _ → _
                            intro t ht
                            exact ⟨_, Row.cell hrow8.out t (by omega), rfl⟩
                          have hly : Hid (∀ t : Nat, t < 64 → ∃ y : Int, (∀ W, (Instr.index 9 (.string Sn) (.int .i64 t)).run Try.prog W = .ok (.int .u8 y) W) ∧ y = (s.now r).getD t 0) := by
                            show ∀ t : Nat, _ → _
                            intro t ht
                            refine ⟨_, fun W => ?_, rfl⟩
                            rw [← hSn.out]
                            exact index_str (byt_now hby3.out r) t (by rw [(hsl.out r).2]; exact ht) W
                          have hfin : Hid (∀ t : Nat, t ≤ 64 → (t = 64 ∨ (s4.now r).getD t 0 ≠ (s.now r).getD t 0) → ∃ S vT, (∀ W, (Instr.slice 33 (.slice (some ⟨g8, 0, none⟩) 64 64) (some (.int .i64 t)) none none).run Try.prog W = .ok vT W) ∧ (∀ n, (convert 33 9 vT).run Try.prog (w8.drewN n) = .ok (.string S) (w8.drewN n)) ∧ ∀ W, (Instr.slice 9 (.string Sw) (some (.int .i64 t)) none none).run Try.prog W = .ok (.string S) W) := by
                            show ∀ t : Nat, _ → _
                            intro t ht hd
                            obtain ⟨vT, r1, r2, _⟩ := slice_from (slv_bts hrow8.out hrl) t (by omega)
                            refine ⟨strOfNums ((s4.now r).drop t), vT, r1, fun n => conv_str (r2.grow (below_drewN (Below.refl _ _) n)), fun W => ?_⟩
                            rw [hs4e.out] at hd
                            have hc := safe_core s keep ts r hz3 (hsl.out r).2 t hd
                            rw [hs4e.out, hc, hsf, ← hsn.out, ← hSw.out, ← strOf_drop]
                            have h64 : (strOfNums (s2.now r)).size = 64 := by rw [hSw.out]; exact hzw
                            rw [run_slice_string_l W 9 _ Try.underlying9 .i64 t (by omega) (by omega)]
                            rfl
                          go_loopw [24] (fun i w9 => ∃ t : Nat, t ≤ 64 ∧ i = .int .i64 t ∧ ∃ m, w9 = w8.drewN m) (fun i _ => 64 - (intOf i).toNat)
                          case atStart => exact ⟨0, Nat.zero_le _, rfl, 0, rfl⟩
                          case round =>
                            obtain ⟨t, ht, rfl, m9, rfl⟩ := hrel
                            by_cases hlt6 : t < 64
                            · obtain ⟨x, hx1, hx2⟩ := hlx.out t hlt6
                              obtain ⟨y, hy1, hy2⟩ := hly.out t hlt6
                              replace hx2 : Hid _ := hx2
                              replace hy2 : Hid _ := hy2
                              have ht64 : (t : Int) < 64 := by omega
                              by_cases hxy : x = y
                              · subst hxy
                                go_wp2
                                go_quiet (fail)
                                go_wp2
                                go_roundw
                                case rel => exact ⟨t + 1, by omega, by go_num, _, rfl⟩
                                case measure => simp [intOf]; omega
                              · have hxd : (x == y) = false := by simpa using hxy
                                obtain ⟨S, vT, r1, r2, r3⟩ := hfin.out t ht (.inr (by rw [← hx2.out, ← hy2.out]; exact hxy))
                                go_wp2
                                go_quiet (fail)
                                go_wp2
                                go_quiet (fail)
                                go_wp2
                                refine ⟨⟨r + 1, by omega, by go_num, hh8.grow (below_drewN hb8 _), hkW.grow (below_drewN hb8 _), hkN.grow (below_drewN hb8 _)⟩, ?_⟩
                                simp [intOf]; omega
                            · have hd64 : decide ((t : Int) < 64) = false := by simp; omega
                              obtain ⟨S, vT, r1, r2, r3⟩ := hfin.out t ht (.inl (by omega))
                              go_wp2
                              go_quiet (fail)
                              go_wp2
                              go_quiet (fail)
                              go_wp2
                              refine ⟨⟨r + 1, by omega, by go_num, hh8.grow (below_drewN hb8 _), hkW.grow (below_drewN hb8 _), hkN.grow (below_drewN hb8 _)⟩, ?_⟩
                              simp [intOf]; omega
                        · obtain rfl : r = 16 := by omega
                          have hun := unsafe_any hh8.disk (by rw [hs4.out.2.2.2]; have := hp.2.2.2.2.1; omega)
                          have hu0 : s4.unsafes = [] := by rw [hs4e.out]; exact crash_unsafes _ _ _
                          have hun2 : Calls Try.prog 26 #[.pointer (some ⟨p, 0, none⟩)] wr fun e w' => ∃ a c, e = .returned (.slice a 0 c) ∧ Below wr.heap.size wr w' := by
                            refine hun.mono ?_
                            rintro e w' ⟨v, rfl, ⟨a, c, hv, _⟩, hb, _⟩
                            rw [hu0] at hv
                            exact ⟨a, c, by rw [hv]; rfl, hb⟩
                          clear hun
                          have hbw := hh8.below
                          go_wp2_with (first | (go_at_call 26; refine hun2.mono ?_; rintro e w9 ⟨a9, c9, rfl, hb9⟩) | (go_at_call 9; refine (live_any _).mono ?_; rintro e w10 ⟨rfl, hb10⟩))
                          go_ret
                          exact ⟨rfl, (hbw.trans (hb9.mono hbw.size)).trans (hb10.mono (Nat.le_trans hbw.size hb9.size))⟩
end Go.Proofs.Ytcjmfibehofepaa
