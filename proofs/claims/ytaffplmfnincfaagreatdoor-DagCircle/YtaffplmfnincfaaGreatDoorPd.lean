/- DagNeeds: the walk. -/
import Derived.Test.YtaffplmfnincfaaGreatDoorPc
import Derived.Test.YtaffplmfnincfaaGreatDoorPb
namespace Go.Proofs.YtaffplmfnincfaaGreatDoor
set_option linter.unusedVariables false
open Go.RowKit
theorem mem_srtS {L : List ByteArray} {s : ByteArray} : s ∈ srtS L ↔ s ∈ L := by
  unfold srtS blS
  rw [List.mem_map]
  constructor
  · rintro ⟨y, hy, rfl⟩
    have h := List.mem_mergeSort.1 hy
    obtain ⟨z, hz, rfl⟩ := List.mem_map.1 h
    rw [bB_list]
    exact hz
  · intro h
    exact ⟨s.data.toList, List.mem_mergeSort.2 (List.mem_map_of_mem h), bB_list s⟩
theorem needs17q (ref : ByteArray) (a : Option Addr) (n c : Nat) (l : List Nd) (w : World) (hG : G w) (hS : SignsAt w) (hv : Sls encN w (.slice a n c) l) (hl : l.length ≤ 100) (hsh : ShN l) (hd : (l.map (·.ref)).Nodup) : Calls Tryz.prog 17 #[.string ref, .slice a n c] w fun e w' => ∃ a' n' c' L, e = .returned (.slice a' n' c') ∧ Hid (NdQ l ref L ∧ Txs w' (.slice a' n' c') (srtS L) ∧ Below w.heap.size w w') :=
  (needs17 ref a n c l w hG hS hv hl hsh).mono fun e w' ⟨a', n', c', L, h, g⟩ => ⟨a', n', c', L, h, g.out.1.q hd, g.out.2⟩
theorem ndq_len {l : List Nd} {r : ByteArray} {L : List ByteArray} (hd : (l.map (·.ref)).Nodup) (q : NdQ l r L) : L.length ≤ l.length := by
  have hkd : ((keptN l L).map (·.ref)).Nodup := hd.sublist (List.Sublist.map _ List.filter_sublist)
  have hp : ((keptN l L).map (·.ref)).Perm L := nodup_perm hkd q.nod fun s => by
    constructor
    · intro hs
      obtain ⟨x, hx, rfl⟩ := List.mem_map.1 hs
      exact (kept_mem.1 hx).2
    · intro hs
      obtain ⟨x, hx, e⟩ := q.are s hs
      exact List.mem_map.2 ⟨x, kept_mem.2 ⟨hx, by rw [e]; exact hs⟩, e⟩
  have h1 := hp.length_eq
  have h2 := List.length_filter_le (fun x => @decide (x.ref ∈ L) (Classical.propDecidable _)) l
  rw [List.length_map] at h1
  unfold keptN at h1
  omega
theorem kept_take {l : List Nd} {L : List ByteArray} (k : Nat) (hk : k < l.length) : (l.getD k nd0).ref ∈ L → keptN (l.take (k + 1)) L = keptN (l.take k) L ++ [l.getD k nd0] := fun h => by
  rw [ltake_getD l nd0 k hk]
  unfold keptN
  rw [List.filter_append]
  simp only [List.filter_cons, List.filter_nil]
  rw [if_pos (by simpa using h)]
theorem kept_skip {l : List Nd} {L : List ByteArray} (k : Nat) (hk : k < l.length) : (l.getD k nd0).ref ∉ L → keptN (l.take (k + 1)) L = keptN (l.take k) L := fun h => by
  rw [ltake_getD l nd0 k hk]
  unfold keptN
  rw [List.filter_append]
  simp only [List.filter_cons, List.filter_nil]
  rw [if_neg (by simpa using h), List.append_nil]
set_option maxRecDepth 100000 in
set_option maxHeartbeats 16000000 in
theorem needs5 (ref : ByteArray) (a : Option Addr) (n c : Nat) (l : List Nd) (W : World) (hG : G W ∧ SignsAt W) (hrf : ref.size ≤ maxLen) (hv : Sls encN W (.slice a n c) l) (hr : ∀ x ∈ l, NdR x) (hl : l.length ≤ 4398046511104) : Calls Tryz.prog 5 #[.string ref, .slice a n c] W fun e w' => e = .returned (.bool true) ∧ Below W.heap.size W w' := by
  have hn : Hid (n = l.length) := hv.len
  have hsm := small7 a n c l W hv hr (by have := hn.out; omega)
  have hlv : Hid (∀ w, Below W.heap.size W w → Calls Tryz.prog 8 #[] w fun e w' => e = .returned (.bool true) ∧ Below w.heap.size w w') := fun w h => live8 w (hG.1.grow h) (hG.2.grow h)
  clear hrf
  cases hs : smN l with
  | false =>
    rw [hs] at hsm
    clear hv hr hG
    go_enter Tryz.func5, Tryz.ntmps5
    go_wp2_with (first
      | (go_at_call 7; refine hsm.mono ?_; rintro e w1 ⟨rfl, hb1⟩; have hl1 := hlv.out w1 hb1)
      | (go_at_call 8; refine hl1.mono ?_; rintro e w2 ⟨rfl, hb2⟩))
    go_ret
    exact ⟨rfl, hb1.trans (hb2.mono hb1.size)⟩
  | true =>
    rw [hs] at hsm
    obtain ⟨hl24, hsh⟩ := smN_sh hs
    have hck : Hid (∀ w, Below W.heap.size W w → Calls Tryz.prog 15 #[.string ref, .slice a n c] w fun e w' => e = .returned (.int .i64 (chkN ref l)) ∧ Below w.heap.size w w') := fun w h => check15 ref a n c l w (hG.1.grow h) (hG.2.grow h) (hv.grow h) (by omega) hsh
    have hcb : -1000 ≤ chkN ref l ∧ chkN ref l ≤ 1000 := by
      unfold chkN
      split
      · omega
      · split
        · omega
        · split
          · omega
          · split
            · omega
            · split <;> omega
    have e14 : ∀ W', Calls Tryz.prog 14 #[.int .i64 (chkN ref l)] W' fun e w' => e = .returned (.int .i64 (chkN ref l)) ∧ w' = W' := fun W' => num14 _ W' hcb.1 hcb.2
    clear hcb
    by_cases hE : chkN ref l = 0
    · obtain ⟨h16, hmay, hd, hin, hcn, hord⟩ := chk_ok hE
      have hsl : Hid (ShA l) := hsh
      have hrow : Hid (∀ w, Below W.heap.size W w → Sls encN w (.slice a n c) l) := fun w h => hv.grow h
      have h17 : Hid (∀ (w : World) (r : ByteArray), Below W.heap.size W w → Calls Tryz.prog 17 #[.string r, .slice a n c] w fun e w' => ∃ a' n' c' L, e = .returned (.slice a' n' c') ∧ Hid (NdQ l r L ∧ Txs w' (.slice a' n' c') (srtS L) ∧ Below w.heap.size w w')) := fun w r h => needs17q r a n c l w (hG.1.grow h) (hG.2.grow h) (hv.grow h) (by omega) hsh.sh hd
      have h12 : Hid (∀ w k, k < l.length → Below W.heap.size W w → Calls Tryz.prog 12 #[ndV (l.getD k nd0)] w fun e w' => ∃ a n c, e = .returned (.slice a n c) ∧ Hid (Txs w' (.slice a n c) (inpN (l.getD k nd0)) ∧ Below w.heap.size w w')) := fun w k hk h => inputs12 (l.getD k nd0) w (hG.1.grow h) (hG.2.grow h) (hsh.sh.at hk)
      have hGw : Hid (∀ w, Below W.heap.size W w → G w ∧ SignsAt w) := fun w h => ⟨hG.1.grow h, hG.2.grow h⟩
      have hE' : Hid (chkN ref l = 0) := hE
      rw [hE] at hck e14
      have hn16 : n ≤ 16 := by have := hn.out; omega
      replace hd : Hid ((l.map (·.ref)).Nodup) := hd
      replace hin : Hid (∀ x ∈ l, ∀ r ∈ inpN x, IsR l r) := hin
      replace hcn : Hid (IsR l ref) := hcn
      clear hv hr hG hs hE hl hmay hord hsh
      go_enter Tryz.func5, Tryz.ntmps5
      go_wp2_with (first
        | (go_at_call 7; refine hsm.mono ?_; clear hsm; rintro e w1 ⟨rfl, hb1⟩; have hc1 := hck.out w1 hb1)
        | (go_at_call 15; refine hc1.mono ?_; clear hc1; rintro e w1b ⟨rfl, hb1b⟩; have hB1 := hb1.trans (hb1b.mono hb1.size); have hc17 := h17.out w1b ref hB1)
        | (go_at_call 14; refine (e14 _).mono ?_; rintro e wx ⟨rfl, hwx⟩; subst wx)
        | (go_at_call 17; refine hc17.mono ?_; clear hc17; rintro e w2 ⟨a2, n2, c2, L, rfl, h2⟩))
      obtain ⟨hq, hx2, hb2⟩ := h2.out
      replace hq : Hid (NdQ l ref L) := hq
      have hB2 := hB1.trans (hb2.mono hB1.size)
      have hn2 : Hid (n2 = L.length) := by show _ = _; rw [hx2.len, srt_len]
      have hLl : L.length ≤ 16 := by
        have := (kept_all hE'.out hq.out).1
        have h3 := List.length_filter_le (fun x => @decide (x.ref ∈ L) (Classical.propDecidable _)) l
        unfold keptN at this
        omega
      have hpl : Hid (∀ (w' : World) (r : ByteArray), Below w2.heap.size w2 w' → Calls Tryz.prog 19 #[.slice a2 n2 c2, .string r] w' fun e w'' => e = .returned (.int .i64 (plc (srtS L) r)) ∧ Below w'.heap.size w' w'') := fun w' r h => place19 a2 n2 c2 (srtS L) r w' (hx2.grow h) (by have := hn2.out; omega)
      replace hx2 : Hid (Txs w2 (.slice a2 n2 c2) (srtS L)) := hx2
      clear h2 hb1 hb1b hb2
      go_loopw [6, 7] (fun v i wr => ∃ (k : Nat) (aT : Option Addr) (nT cT : Nat), k ≤ n ∧ i = .int .i64 k ∧ v = .slice aT nT cT ∧ Hid (OwnN wr w2.heap.size v (keptN (l.take k) L)) ∧ Hid (Below w2.heap.size w2 wr)) (fun _ i _ => n - (intOf i).toNat)
      case atStart => exact ⟨0, none, 0, 0, Nat.zero_le _, rfl, rfl, OwnS.nil _ _, Below.refl _ _⟩
      case round =>
        obtain ⟨k, aT, nT, cT, hk, rfl, rfl, hT, hB⟩ := hrel
        have hBr := hB2.trans (hB.out.mono hB2.size)
        by_cases hlt : k < n
        · have hki : (k : Int) < (n : Int) := by omega
          have hkl : k < l.length := by have := hn.out; omega
          obtain ⟨q, o, rfl, c0, c1, c2', c3, c4, c5, c6, c7, c8, c9, c10⟩ := nd_at (hrow.out wr hBr) k hkl
          have hcp := hpl.out wr (l.getD k nd0).ref hB.out
          by_cases hm : (l.getD k nd0).ref ∈ L
          · have hst : Hid (keptN (l.take (k + 1)) L = keptN (l.take k) L ++ [l.getD k nd0]) := kept_take k hkl hm
            have hP0 : ¬ plc (srtS L) (l.getD k nd0).ref < 0 := by have := (plc_in (mem_srtS.2 hm)).1; omega
            have hsub : Hid (∀ r ∈ inpN (l.getD k nd0), ∀ L', NdQ l r L' → ∀ s ∈ L', 0 ≤ plc (srtS L) s) := fun r hr L' q' s hs => by
              have hx := lgetD_mem l nd0 k hkl
              have : s ∈ L := q'.min (fun s => s ∈ L) (fun hi => hq.out.clo _ hm _ hx rfl r hr hi) (fun y hy hyL t ht hi => hq.out.clo _ hyL y hy rfl t ht hi) s hs
              exact (plc_in (mem_srtS.2 this)).1
            have hlen : (keptN (l.take k) L).length + 1 ≤ 1000000000 := by
              have h3 := List.length_filter_le (fun x => @decide (x.ref ∈ L) (Classical.propDecidable _)) (l.take k)
              unfold keptN
              rw [List.length_take] at h3
              omega
            have hcells : Hid (∀ w', Below wr.heap.size wr w' ∨ Below w2.heap.size w2 w' → Sls encN w' (.slice (some ⟨q, o, none⟩) n c) l) := fun w' h => by
              rcases h with h | h
              · exact hrow.out w' (hBr.trans (h.mono hBr.size))
              · exact hrow.out w' (hB2.trans (h.mono hB2.size))
            have hci : Hid (∀ w', Below w2.heap.size w2 w' → Calls Tryz.prog 12 #[ndV (l.getD k nd0)] w' fun e w'' => ∃ a n c, e = .returned (.slice a n c) ∧ Hid (Txs w'' (.slice a n c) (inpN (l.getD k nd0)) ∧ Below w'.heap.size w' w'')) := fun w' h => h12.out w' k hkl (hB2.trans (h.mono hB2.size))
            have hilen := inpN_len (l.getD k nd0)
            obtain ⟨x, hxe⟩ : ∃ x, Hid (x = l.getD k nd0) := ⟨_, rfl⟩
            rw [← hxe.out] at c0 c1 c2' c3 c4 c5 c6 c7 c8 c9 c10 hcp hci hst hP0 hsub hilen
            generalize keptN (l.take k) L = RK at *
            generalize plc (srtS L) x.ref = PX at *
            have hP0d : decide (PX < 0) = false := by simpa using hP0
            clear h12 hm
            go_wp2_with (first
              | (go_at_call 19; refine hcp.mono ?_; clear hcp; rintro e w3 ⟨rfl, hb3⟩; clear c0 c1 c2' c3 c4 c5 c6 c7 c8 c9 c10; obtain ⟨q', o', hqe, d0, d1, d2, d3, d4, d5, d6, d7, d8, d9, d10⟩ := nd_at (hcells.out w3 (.inl hb3)) k hkl; cases hqe; rw [← hxe.out] at d0 d1 d2 d3 d4 d5 d6 d7 d8 d9 d10; have hB3 := hB.out.trans (hb3.mono hB.out.size); have hT3 : Hid (OwnN (w3.alloc (.cells (ndC x) 36)) w2.heap.size (.slice aT nT cT) RK) := (hT.out.stay hb3).alloc _; have hB3a := hB3.trans ((bW0 w3 (.cells (ndC x) 36)).mono hB3.size))
              | (at_builtin; refine appR TN rfl (.tmp 40) (.tmp 45) rfl w2.heap.size _ _ RK [x] rfl rfl hT3.out (sls_one (E := encN) w3 x (ndC x) 36 rfl) hB3a.size hlen ?_; intro v4 w4 o4 g4; clear d0 d1 d2 d3 d4 d5 d6 d7 d8 d9 d10; have hB4 := hB3a.trans (hT3.out.grows hB3a.size g4); obtain ⟨a4, c4', hv4⟩ := o4.shape; rw [← hst.out] at o4; obtain ⟨n4, hn4⟩ : ∃ n4, n4 = (RK ++ [x]).length := ⟨_, rfl⟩; rw [← hn4] at hv4; clear hn4; subst hv4; obtain ⟨q', o', hqe, d0, d1, d2, d3, d4, d5, d6, d7, d8, d9, d10⟩ := nd_at (hcells.out w4 (.inr hB4)) k hkl; cases hqe; rw [← hxe.out] at d0 d1 d2 d3 d4 d5 d6 d7 d8 d9 d10; have hc12 := hci.out w4 hB4)
              | (go_at_call 12; refine hc12.mono ?_; clear hc12; rintro e w5 ⟨a5, n5, c5', rfl, h5⟩))
            have hB5 := hB4.trans (h5.out.2.mono hB4.size)
            have hI5 : Hid (Txs w5 (.slice a5 n5 c5') (inpN x)) := h5.out.1
            have hT5 : Hid (OwnN w5 w2.heap.size (.slice a4 n4 c4') (keptN (l.take (k + 1)) L)) := o4.stay h5.out.2
            have hn5 : n5 ≤ 1024 := by rw [h5.out.1.len]; exact hilen
            clear d0 d1 d2 d3 d4 d5 d6 d7 d8 d9 d10 hci hcells h5 o4 g4 hT3 hT hst
            go_loopw [9] (fun i wr => ∃ j : Nat, j ≤ n5 ∧ i = .int .i64 j ∧ Hid (Below w5.heap.size w5 wr)) (fun i _ => n5 - (intOf i).toNat)
            case atStart => exact ⟨0, Nat.zero_le _, rfl, Below.refl _ _⟩
            case round =>
              obtain ⟨j, hj, rfl, hb6⟩ := hrel
              have hB6 := hB5.trans (hb6.out.mono hB5.size)
              by_cases hlt2 : j < n5
              · have hji : (j : Int) < (n5 : Int) := by omega
                have hjl : j < (inpN x).length := by rw [← hI5.out.len]; exact hlt2
                obtain ⟨q2, o2, rfl, y0⟩ := tx_at (hI5.out.grow hb6.out) j hjl
                have hcn17 := h17.out wr ((inpN x).getD j ⟨#[]⟩) (hB2.trans (hB6.mono hB2.size))
                have hsub2 : Hid (∀ L', NdQ l ((inpN x).getD j ⟨#[]⟩) L' → ∀ s ∈ L', 0 ≤ plc (srtS L) s) := hsub.out _ (lgetD_mem (inpN x) ⟨#[]⟩ j hjl)
                generalize (inpN x).getD j ⟨#[]⟩ = r at *
                go_wp2_with (first
                  | (go_at_call 17; refine hcn17.mono ?_; clear hcn17; rintro e w7 ⟨a7, n7, c7', L', rfl, h7⟩))
                have hb7 : Below w5.heap.size w5 w7 := hb6.out.trans (h7.out.2.2.mono hb6.out.size)
                have hX7 : Hid (Txs w7 (.slice a7 n7 c7') (srtS L')) := h7.out.2.1
                have hs7 : Hid (∀ s ∈ srtS L', 0 ≤ plc (srtS L) s) := fun s hs => hsub2.out L' h7.out.1 s (mem_srtS.1 hs)
                have hn7 : n7 ≤ 1000000 := by
                  rw [h7.out.2.1.len, srt_len]
                  have h8 := ndq_len hd.out h7.out.1
                  omega
                clear h7 hsub2 y0
                go_loopw [11] (fun i wr => ∃ m : Nat, m ≤ n7 ∧ i = .int .i64 m ∧ Hid (Below w7.heap.size w7 wr)) (fun i _ => n7 - (intOf i).toNat)
                case atStart => exact ⟨0, Nat.zero_le _, rfl, Below.refl _ _⟩
                case round =>
                  obtain ⟨m, hm, rfl, hb8⟩ := hrel
                  have hb58 : Below w5.heap.size w5 wr := hb7.trans (hb8.out.mono hb7.size)
                  by_cases hlt3 : m < n7
                  · have hmi : (m : Int) < (n7 : Int) := by omega
                    have hml : m < (srtS L').length := by rw [← hX7.out.len]; exact hlt3
                    obtain ⟨q3, o3, rfl, z0⟩ := tx_at (hX7.out.grow hb8.out) m hml
                    have hcp := hpl.out wr ((srtS L').getD m ⟨#[]⟩) (hB5.trans (hb58.mono hB5.size))
                    have hJ0 : ¬ plc (srtS L) ((srtS L').getD m ⟨#[]⟩) < 0 := by have := hs7.out _ (lgetD_mem (srtS L') ⟨#[]⟩ m hml); omega
                    generalize (srtS L').getD m ⟨#[]⟩ = t at *
                    generalize plc (srtS L) t = J at *
                    have hJ0d : decide (J < 0) = false := by simpa using hJ0
                    go_wp2_with (first
                      | (go_at_call 19; refine hcp.mono ?_; clear hcp; rintro e w9 ⟨rfl, hb9⟩; have hb10 : Hid _ := hb8.out.trans (hb9.mono hb8.out.size)))
                    go_roundw
                    case rel => exact ⟨m + 1, by omega, by go_num, hb10⟩
                    case measure => simp [intOf]; omega
                  · have hmi : ¬ (m : Int) < (n7 : Int) := by omega
                    have hb11 : Hid (Below w5.heap.size w5 wr) := hb58
                    go_wp2
                    go_roundw
                    case rel => exact ⟨j + 1, by omega, by go_num, hb11⟩
                    case measure => simp [intOf]; omega
              · have hji : ¬ (j : Int) < (n5 : Int) := by omega
                have hT6 : Hid (OwnN wr w2.heap.size (.slice a4 n4 c4') (keptN (l.take (k + 1)) L)) := hT5.out.stay hb6.out
                have hB6' : Hid (Below w2.heap.size w2 wr) := hB6
                go_wp2
                go_roundw
                case rel => exact ⟨k + 1, a4, n4, c4', by omega, by go_num, rfl, hT6, hB6'⟩
                case measure => simp [intOf]; omega
          · have hst : Hid (keptN (l.take (k + 1)) L = keptN (l.take k) L) := kept_skip k hkl hm
            have hP0 : plc (srtS L) (l.getD k nd0).ref = -1 := plc_no (fun h => hm (mem_srtS.1 h))
            rw [hP0] at hcp
            generalize l.getD k nd0 = x at *
            clear hP0 hm h12
            go_wp2_with (first
              | (go_at_call 19; refine hcp.mono ?_; clear hcp; rintro e w3 ⟨rfl, hb3⟩))
            go_roundw
            case rel => exact ⟨k + 1, aT, nT, cT, by omega, by go_num, rfl, by rw [hst.out]; exact hT.out.stay hb3, hB.out.trans (hb3.mono hB.out.size)⟩
            case measure => simp [intOf]; omega
        · have hki : ¬ (k : Int) < (n : Int) := by omega
          have hTf : Hid (OwnN wr w2.heap.size (.slice aT nT cT) (keptN l L)) := by
            have h := hT.out
            rw [List.take_of_length_le (by have := hn.out; omega)] at h
            exact h
          obtain ⟨hkl, hkc, hkp⟩ := kept_all hE'.out hq.out
          have hnT : nT = n2 := by rw [hTf.out.sls.len, hkl, hn2.out]
          subst hnT
          have hkd : ((keptN l L).map (·.ref)).Nodup := hd.out.sublist (List.Sublist.map _ List.filter_sublist)
          have hks : ShA (keptN l L) := fun x hx => hsl.out x (kept_mem.1 hx).1
          have hk16 : (keptN l L).length ≤ 16 := by rw [hkl]; exact hLl
          have hPr : ¬ plc (srtS L) ref < 0 := by have := (plc_in (mem_srtS.2 (hq.out.has hcn.out))).1; omega
          have hcp := hpl.out wr ref hB.out
          have hck2 : Hid (∀ w', Below wr.heap.size wr w' → Calls Tryz.prog 15 #[.string ref, .slice aT nT cT] w' fun e w'' => e = .returned (.int .i64 0) ∧ Below w'.heap.size w' w'') := fun w' h => by
            have hGG := hGw.out w' (hBr.trans (h.mono hBr.size))
            have h3 := check15 ref aT nT cT (keptN l L) w' hGG.1 hGG.2 (hTf.out.stay h).sls (by omega) hks
            rw [hkc] at h3
            exact h3
          have hcn2 : Hid (∀ w', Below wr.heap.size wr w' → Calls Tryz.prog 17 #[.string ref, .slice aT nT cT] w' fun e w'' => ∃ a' n' c', e = .returned (.slice a' n' c') ∧ Hid (Txs w'' (.slice a' n' c') (srtS L) ∧ Below w'.heap.size w' w'')) := fun w' h => by
            have hGG := hGw.out w' (hBr.trans (h.mono hBr.size))
            refine (needs17q ref aT nT cT (keptN l L) w' hGG.1 hGG.2 (hTf.out.stay h).sls (by omega) hks.sh hkd).mono ?_
            rintro e w'' ⟨a', n', c', L', rfl, h4⟩
            refine ⟨a', n', c', rfl, ?_, h4.out.2.2⟩
            have := h4.out.2.1
            rwa [srtS_perm (hkp L' h4.out.1)] at this
          have htx : Hid (∀ (w' : World) (a3 : Option Addr) (n3 c3 : Nat), Below w2.heap.size w2 w' → Txs w' (.slice a3 n3 c3) (srtS L) → Calls Tryz.prog 11 #[.slice a3 n3 c3, .slice a2 nT c2] w' fun e w'' => e = .returned (.bool true) ∧ Below w'.heap.size w' w'') := fun w' a3 n3 c3 hh h3 => by
            have e : n3 = nT := h3.len.trans (hx2.out.grow hh).len.symm
            rw [e] at h3 ⊢
            exact texts_any w' (srtS L) a3 a2 nT c3 c2 (by rw [← h3.len]; have := hn2.out; omega) h3 (hx2.out.grow hh)
          have h14 : ∀ W', Calls Tryz.prog 14 #[.int .i64 0] W' fun e w' => e = .returned (.int .i64 0) ∧ w' = W' := fun W' => num14 0 W' (by decide) (by decide)
          have hPr2 : 0 ≤ plc (srtS L) ref := by omega
          generalize plc (srtS L) ref = PR at *
          have hPrd : decide (0 ≤ PR) = true := by simpa using hPr2
          have hn2b : nT ≤ 16 := by have := hn2.out; omega
          clear hT hpl h17 h12 hrow hq hsl hin hcn hkl hkc hkp hkd hks hk16 e14
          go_wp2_with (first
            | (go_at_call 19; refine hcp.mono ?_; clear hcp; rintro e w3 ⟨rfl, hb3⟩; have hc15 := hck2.out w3 hb3)
            | (go_at_call 15; refine hc15.mono ?_; clear hc15; rintro e w4 ⟨rfl, hb4⟩; have hb4' := hb3.trans (hb4.mono hb3.size); have hc17 := hcn2.out w4 hb4')
            | (go_at_call 14; refine (h14 _).mono ?_; rintro e wx ⟨rfl, hwx⟩; subst wx)
            | (go_at_call 17; refine hc17.mono ?_; clear hc17; rintro e w5 ⟨a5, n5, c5', rfl, h5⟩; have hb5' := hb4'.trans (h5.out.2.mono hb4'.size); have hc11 := htx.out w5 a5 n5 c5' (hB.out.trans (hb5'.mono hB.out.size)) h5.out.1)
            | (go_at_call 11; refine hc11.mono ?_; clear hc11; rintro e w6 ⟨rfl, hb6⟩; have hb6' := hb5'.trans (hb6.mono hb5'.size); have hB6 := hBr.trans (hb6'.mono hBr.size); have hl1 := hlv.out w6 hB6)
            | (go_at_call 8; refine hl1.mono ?_; rintro e w7 ⟨rfl, hb7⟩))
          go_ret
          exact ⟨rfl, hB6.trans (hb7.mono hB6.size)⟩
    · have hEd : (chkN ref l == 0) = false := by simpa using hE
      clear hv hr hG hs hl hsh
      generalize chkN ref l = EE at *
      go_enter Tryz.func5, Tryz.ntmps5
      go_wp2_with (first
        | (go_at_call 7; refine hsm.mono ?_; clear hsm; rintro e w1 ⟨rfl, hb1⟩; have hc1 := hck.out w1 hb1)
        | (go_at_call 15; refine hc1.mono ?_; clear hc1; rintro e w1b ⟨rfl, hb1b⟩; have hB1 := hb1.trans (hb1b.mono hb1.size); have hl1 := hlv.out w1b hB1)
        | (go_at_call 14; refine (e14 _).mono ?_; rintro e wx ⟨rfl, hwx⟩; subst wx)
        | (go_at_call 8; refine hl1.mono ?_; rintro e w7 ⟨rfl, hb7⟩))
      go_ret
      exact ⟨rfl, hB1.trans (hb7.mono hB1.size)⟩
end Go.Proofs.YtaffplmfnincfaaGreatDoor
