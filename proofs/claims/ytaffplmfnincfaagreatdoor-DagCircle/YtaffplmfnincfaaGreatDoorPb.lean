/- DagAhead: the walk. -/
import Derived.Test.YtaffplmfnincfaaGreatDoorPa
import Derived.Test.YtaffplmfnincfaaGreatDoorOvOx
import Derived.Test.YtaffplmfnincfaaGreatDoorOy
namespace Go.Proofs.YtaffplmfnincfaaGreatDoor
set_option linter.unusedVariables false
open Go.RowKit
theorem mod_int (b n : Nat) : Int.tmod (b : Int) (n : Int) = ((b % n : Nat) : Int) := by
  rw [← Int.ofNat_tmod]
theorem smN_sh {l : List Nd} (h : smN l = true) : l.length ≤ 24 ∧ ShA l := by
  unfold smN at h
  simp only [decide_eq_true_eq] at h
  refine ⟨h.1, fun x hx => ?_⟩
  have h1 : ndSz x ≤ totN l := by
    unfold totN
    have : ∀ {L : List Nat} {k : Nat}, k ∈ L → k ≤ L.sum := by
      intro L
      induction L with
      | nil => intro k hk; cases hk
      | cons a L ih =>
        intro k hk
        rcases List.mem_cons.1 hk with rfl | hk
        · simp
        · have := ih hk; simp; omega
    exact this (List.mem_map_of_mem hx)
  unfold ndSz at h1
  exact ⟨by omega, by omega, by omega⟩
set_option maxRecDepth 100000 in
set_option maxHeartbeats 16000000 in
theorem ahead4 (a : Option Addr) (n c : Nat) (l : List Nd) (z : Int) (W : World) (hG : G W ∧ SignsAt W) (hv : Sls encN W (.slice a n c) l) (hr : ∀ x ∈ l, NdR x) (hl : l.length ≤ 4398046511104) : Calls Tryz.prog 4 #[.slice a n c, .int .i64 z] W fun e w' => e = .returned (.bool true) ∧ Below W.heap.size W w' := by
  have hn : Hid (n = l.length) := hv.len
  have hsm := small7 a n c l W hv hr (by have := hn.out; omega)
  have hlv : Hid (∀ w, Below W.heap.size W w → Calls Tryz.prog 8 #[] w fun e w' => e = .returned (.bool true) ∧ Below w.heap.size w w') := fun w h => live8 w (hG.1.grow h) (hG.2.grow h)
  cases hs : smN l with
  | false =>
    rw [hs] at hsm
    clear hv hr hG
    go_enter Tryz.func4, Tryz.ntmps4
    go_wp2_with (first
      | (go_at_call 7; refine hsm.mono ?_; rintro e w1 ⟨rfl, hb1⟩; have hl1 := hlv.out w1 hb1)
      | (go_at_call 8; refine hl1.mono ?_; rintro e w2 ⟨rfl, hb2⟩))
    go_ret
    exact ⟨rfl, hb1.trans (hb2.mono hb1.size)⟩
  | true =>
    rw [hs] at hsm
    by_cases hz : z < 0
    · have hzi : decide (z < 0) = true := by simpa using hz
      clear hv hr hG
      go_enter Tryz.func4, Tryz.ntmps4
      go_wp2_with (first
        | (go_at_call 7; refine hsm.mono ?_; rintro e w1 ⟨rfl, hb1⟩; have hl1 := hlv.out w1 hb1)
        | (go_at_call 8; refine hl1.mono ?_; rintro e w2 ⟨rfl, hb2⟩))
      go_ret
      exact ⟨rfl, hb1.trans (hb2.mono hb1.size)⟩
    · obtain ⟨hl24, hsh⟩ := smN_sh hs
      have hzi : decide (z < 0) = false := by simpa using hz
      obtain ⟨b, rfl⟩ : ∃ b : Nat, z = (b : Int) := ⟨z.toNat, by omega⟩
      have hn24 : n ≤ 24 := by have := hn.out; omega
      have hrow : Hid (∀ w, Below W.heap.size W w → Sls encN w (.slice a n c) l) := fun w h => hv.grow h
      have h9 : Hid (∀ w, Below W.heap.size W w → Calls Tryz.prog 9 #[.slice a n c] w fun e w' => ∃ a' n' c', e = .returned (.tuple #[.slice a' n' c', .int .i64 (ordE l)]) ∧ Hid (Txs w' (.slice a' n' c') (ordL l) ∧ Below w.heap.size w w')) := fun w h => order9 a n c l w (hG.1.grow h) (hG.2.grow h) (hv.grow h) (by omega) hsh.sh
      have h9t : Hid (∀ (w : World) (s : Nat) (a2 : Option Addr) (n2 c2 : Nat), Below W.heap.size W w → Sls encN w (.slice a2 n2 c2) (rot l s) → Calls Tryz.prog 9 #[.slice a2 n2 c2] w fun e w' => ∃ a' n' c', e = .returned (.tuple #[.slice a' n' c', .int .i64 (ordE l)]) ∧ Hid (Txs w' (.slice a' n' c') (ordL l) ∧ Below w.heap.size w w')) := fun w s a2 n2 c2 h h2 => by
        have h3 := order9 a2 n2 c2 (rot l s) w (hG.1.grow h) (hG.2.grow h) h2 (by rw [rot_len]; omega) (fun x hx => (hsh x ((rot_perm l s).symm.subset hx)).2.2)
        rw [← ordE_perm (rot_perm l s), ← ordL_perm (rot_perm l s)] at h3
        exact h3
      have h12 : Hid (∀ w k, k < l.length → Below W.heap.size W w → Calls Tryz.prog 12 #[ndV (l.getD k nd0)] w fun e w' => ∃ a n c, e = .returned (.slice a n c) ∧ Hid (Txs w' (.slice a n c) (inpN (l.getD k nd0)) ∧ Below w.heap.size w w')) := fun w k hk h => inputs12 (l.getD k nd0) w (hG.1.grow h) (hG.2.grow h) (hsh.sh.at hk)
      have hEb : -1000 ≤ ordE l ∧ ordE l ≤ 1000 := by
        unfold ordE
        split
        · omega
        · split <;> omega
      clear hv hr hG hs hz hl
      go_enter Tryz.func4, Tryz.ntmps4
      go_wp2_with (first
        | (go_at_call 7; refine hsm.mono ?_; clear hsm; rintro e w1 ⟨rfl, hb1⟩))
      go_loopw [5, 6] (fun v i wr => ∃ (k : Nat) (aT : Option Addr) (nT cT : Nat), k ≤ n ∧ i = .int .i64 k ∧ v = .slice aT nT cT ∧ Hid (OwnN wr W.heap.size v ((rot l (b % n)).take k)) ∧ Hid (Below W.heap.size W wr)) (fun _ i _ => n - (intOf i).toNat)
      case atStart => exact ⟨0, none, 0, 0, Nat.zero_le _, rfl, rfl, OwnS.nil _ _, hb1⟩
      case round =>
        obtain ⟨k, aT, nT, cT, hk, rfl, rfl, hT, hB⟩ := hrel
        by_cases hlt : k < n
        · have hki : (k : Int) < (n : Int) := by omega
          have hn0 : ¬ (n : Int) = 0 := by omega
          have hnn : ((n : Int) == 0) = false := by simpa using hn0
          have hsn : b % n < n := Nat.mod_lt _ (by omega)
          have hmn : (k + b % n) % n < n := Nat.mod_lt _ (by omega)
          have hm1 : Int.tmod (b : Int) (n : Int) = ((b % n : Nat) : Int) := mod_int b n
          have hm2 : Int.tmod ((k : Int) + ((b % n : Nat) : Int)) (n : Int) = (((k + b % n) % n : Nat) : Int) := by
            have h := mod_int (k + b % n) n
            rw [← h, Int.natCast_add]
          have hst : Hid ((rot l (b % n)).take (k + 1) = (rot l (b % n)).take k ++ [l.getD ((k + b % n) % n) nd0]) := by
            show _ = _
            rw [ltake_getD _ nd0 k (by rw [rot_len]; have := hn.out; omega), rot_at l (b % n) k (by have := hn.out; omega) (by have := hn.out; omega), ← hn.out]
          have hml : (k + b % n) % n < l.length := by have := hn.out; omega
          obtain ⟨q, o, rfl, c0, c1, c2, c3, c4, c5, c6, c7, c8, c9, c10⟩ := nd_at (hrow.out wr hB.out) ((k + b % n) % n) hml
          have hlen : ((rot l (b % n)).take k).length + 1 ≤ 1000000000 := by rw [List.length_take]; omega
          generalize l.getD ((k + b % n) % n) nd0 = x at *
          generalize (rot l (b % n)).take k = RK at *
          generalize hs' : b % n = s at *
          generalize (k + s) % n = m at *
          have hmi : (m : Int) < (n : Int) := by omega
          have hsi : (s : Int) < (n : Int) := by omega
          have hB1 := hB.out
          clear h9 h9t h12 hrow hlv
          have hT1 : Hid (OwnN (wr.alloc (.cells (ndC x) 36)) W.heap.size (.slice aT nT cT) RK) := hT.out.alloc _
          have hBa := hB1.trans ((bW0 wr (.cells (ndC x) 36)).mono hB1.size)
          go_wp2_with (first
            | (at_builtin; refine appR TN rfl (.tmp 30) (.tmp 43) rfl W.heap.size _ _ RK [x] rfl rfl hT1.out (sls_one (E := encN) wr x (ndC x) 36 rfl) hBa.size hlen ?_; intro v2 w2 o2 g2; have hB2 := hBa.trans (hT1.out.grows hBa.size g2); obtain ⟨a2, c2', hv2⟩ := o2.shape; rw [← hst.out] at o2; obtain ⟨n2, hn2⟩ : ∃ n2, n2 = (RK ++ [x]).length := ⟨_, rfl⟩; rw [← hn2] at hv2; clear hn2; subst hv2))
          go_roundw
          case rel => exact ⟨k + 1, a2, n2, c2', by omega, by go_num, rfl, o2, hB2⟩
          case measure => simp [intOf]; omega
        · have hki : ¬ (k : Int) < (n : Int) := by omega
          have hTf : Hid (OwnN wr W.heap.size (.slice aT nT cT) (rot l (b % n))) := by
            have h := hT.out
            rw [List.take_of_length_le (by rw [rot_len]; have := hn.out; omega)] at h
            exact h
          have hB1 := hB.out
          have h9a := h9.out wr hB1
          have e14 : ∀ W', Calls Tryz.prog 14 #[.int .i64 (ordE l)] W' fun e w' => e = .returned (.int .i64 (ordE l)) ∧ w' = W' := fun W' => num14 _ W' hEb.1 hEb.2
          have htx : Hid (∀ (w' : World) (a2 a3 : Option Addr) (n2 c2 c3 : Nat), n2 ≤ 1000000 → Txs w' (.slice a2 n2 c2) (ordL l) → Txs w' (.slice a3 n2 c3) (ordL l) → Calls Tryz.prog 11 #[.slice a2 n2 c2, .slice a3 n2 c3] w' fun e w'' => e = .returned (.bool true) ∧ Below w'.heap.size w' w'') := fun w' a2 a3 n2 c2 c3 hh h2 h3 => texts_any w' (ordL l) a2 a3 n2 c2 c3 (by rw [← h2.len]; exact hh) h2 h3
          have hOl : Hid ((ordL l).length ≤ 24) := by
            show _ ≤ _
            by_cases h0 : ordE l = 0
            · rw [(ordL_ahead h0).2.1]; exact hl24
            · rw [ordL_err h0]; simp
          clear hT hB
          by_cases hE : ordE l = 0
          · have hA := ordL_ahead hE
            replace hA : Hid ((ordL l).Nodup ∧ (ordL l).length = l.length ∧ ∀ x ∈ l, ∀ r ∈ inpN x, 0 ≤ plc (ordL l) r ∧ plc (ordL l) r < plc (ordL l) x.ref) := hA
            rw [hE] at h9a h9t e14
            clear hE hEb
            generalize ordL l = OL at *
            go_wp2_with (first
              | (go_at_call 9; refine h9a.mono ?_; clear h9a; rintro e w2 ⟨a2, n2, c2, rfl, h2⟩; have hB2 := hB1.trans (h2.out.2.mono hB1.size); have h9b := h9t.out w2 (b % n) aT nT cT hB2 (hTf.out.stay h2.out.2).sls; have hn2 : n2 ≤ 24 := by rw [h2.out.1.len]; exact hOl.out)
              | (go_at_call 9; refine h9b.mono ?_; clear h9b; rintro e w3 ⟨a3, n3, c3, rfl, h3⟩; have hB3 := hB2.trans (h3.out.2.mono hB2.size); obtain rfl : n3 = n2 := h3.out.1.len.trans h2.out.1.len.symm; have hx2 : Hid (Txs w3 (.slice a2 n3 c2) OL) := h2.out.1.grow h3.out.2; have h11 := htx.out w3 a2 a3 n3 c2 c3 (by omega) hx2.out h3.out.1)
              | (go_at_call 11; refine h11.mono ?_; clear h11; rintro e w4 ⟨rfl, hb4⟩; have hB4 := hB3.trans (hb4.mono hB3.size))
              | (go_at_call 14; refine (e14 _).mono ?_; rintro e wx ⟨rfl, hwx⟩; subst wx))
            have hpl : Hid (∀ (w' : World) (r : ByteArray), Below w4.heap.size w4 w' → Calls Tryz.prog 19 #[.slice a2 n3 c2, .string r] w' fun e w'' => e = .returned (.int .i64 (plc OL r)) ∧ Below w'.heap.size w' w'') := fun w' r h => place19 a2 n3 c2 OL r w' ((hx2.out.grow hb4).grow h) (by omega)
            have hn3 : Hid (n3 = n) := by
              show _ = _
              rw [h3.out.1.len, hA.out.2.1, ← hn.out]
            clear h9 h9t htx h2 h3 hx2 hTf e14 hOl
            go_loopw [11] (fun i wr => ∃ k : Nat, k ≤ n ∧ i = .int .i64 k ∧ Hid (Below w4.heap.size w4 wr)) (fun i _ => n - (intOf i).toNat)
            case atStart => exact ⟨0, Nat.zero_le _, rfl, Below.refl _ _⟩
            case round =>
              obtain ⟨i, hi, rfl, hbr⟩ := hrel
              have hBr := hB4.trans (hbr.out.mono hB4.size)
              by_cases hlt2 : i < n
              · have hii : (i : Int) < (n : Int) := by omega
                have hil : i < l.length := by have := hn.out; omega
                obtain ⟨q, o, rfl, c0, c1, c2, c3, c4, c5, c6, c7, c8, c9, c10⟩ := nd_at (hrow.out wr hBr) i hil
                have hcp := hpl.out wr (l.getD i nd0).ref hbr.out
                have hci : Hid (∀ w', Below wr.heap.size wr w' → _) := fun w' h => h12.out w' i hil (hBr.trans (h.mono hBr.size))
                have hcell : Hid (∀ w', Below wr.heap.size wr w' → Sls encN w' (.slice (some ⟨q, o, none⟩) n c) l) := fun w' h => hrow.out w' (hBr.trans (h.mono hBr.size))
                have hAx : Hid (∀ r ∈ inpN (l.getD i nd0), 0 ≤ plc OL r ∧ plc OL r < plc OL (l.getD i nd0).ref) := hA.out.2.2 _ (lgetD_mem l nd0 i hil)
                have hilen := inpN_len (l.getD i nd0)
                obtain ⟨x, hxe⟩ : ∃ x, Hid (x = l.getD i nd0) := ⟨_, rfl⟩
                rw [← hxe.out] at c0 c1 c2 c3 c4 c5 c6 c7 c8 c9 c10 hcp hci hAx hilen
                clear hrow h12 hA
                go_wp2_with (first
                  | (go_at_call 19; refine hcp.mono ?_; clear hcp; rintro e w5 ⟨rfl, hb5⟩; clear c0 c1 c2 c3 c4 c5 c6 c7 c8 c9 c10; obtain ⟨q', o', hqe, d0, d1, d2, d3, d4, d5, d6, d7, d8, d9, d10⟩ := nd_at (hcell.out w5 hb5) i hil; cases hqe; rw [← hxe.out] at d0 d1 d2 d3 d4 d5 d6 d7 d8 d9 d10; have hc12 := hci.out w5 hb5)
                  | (go_at_call 12; refine hc12.mono ?_; clear hc12; rintro e w6 ⟨a6, n6, c6, rfl, h6⟩))
                have hb6 : Below w4.heap.size w4 w6 := (hbr.out.trans (hb5.mono hbr.out.size)).trans (h6.out.2.mono (hbr.out.trans (hb5.mono hbr.out.size)).size)
                have hI6 : Hid (Txs w6 (.slice a6 n6 c6) (inpN x)) := h6.out.1
                have hn6 : n6 ≤ 1024 := by rw [h6.out.1.len]; exact hilen
                clear d0 d1 d2 d3 d4 d5 d6 d7 d8 d9 d10 hci hcell hbr h6 hb5 hBr
                generalize plc OL x.ref = P at *
                go_loopw [14] (fun i wr => ∃ k : Nat, k ≤ n6 ∧ i = .int .i64 k ∧ Hid (Below w6.heap.size w6 wr)) (fun i _ => n6 - (intOf i).toNat)
                case atStart => exact ⟨0, Nat.zero_le _, rfl, Below.refl _ _⟩
                case round =>
                  obtain ⟨j, hj, rfl, hb7⟩ := hrel
                  by_cases hlt3 : j < n6
                  · have hji : (j : Int) < (n6 : Int) := by omega
                    have hjl : j < (inpN x).length := by rw [← hI6.out.len]; exact hlt3
                    obtain ⟨q2, o2, rfl, y0⟩ := tx_at (hI6.out.grow hb7.out) j hjl
                    have hcp := hpl.out wr ((inpN x).getD j ⟨#[]⟩) (hb6.trans (hb7.out.mono hb6.size))
                    obtain ⟨g1, g2⟩ := hAx.out _ (lgetD_mem (inpN x) ⟨#[]⟩ j hjl)
                    generalize (inpN x).getD j ⟨#[]⟩ = r at *
                    generalize plc OL r = J at *
                    have hP0 : ¬ P < 0 := by omega
                    have hJ0 : ¬ J < 0 := by omega
                    have hJP : ¬ P ≤ J := by omega
                    have hP0d : decide (P < 0) = false := by simpa using hP0
                    have hJ0d : decide (J < 0) = false := by simpa using hJ0
                    have hJPd : decide (P ≤ J) = false := by simpa using hJP
                    clear hAx hpl
                    go_wp2_with (first
                      | (go_at_call 19; refine hcp.mono ?_; clear hcp; rintro e w8 ⟨rfl, hb8⟩; have hb9 : Hid _ := hb7.out.trans (hb8.mono hb7.out.size)))
                    go_roundw
                    case rel => exact ⟨j + 1, by omega, by go_num, hb9⟩
                    case measure => simp [intOf]; omega
                  · have hji : ¬ (j : Int) < (n6 : Int) := by omega
                    have hb10 : Hid (Below w4.heap.size w4 wr) := hb6.trans (hb7.out.mono hb6.size)
                    go_wp2
                    go_roundw
                    case rel => exact ⟨i + 1, by omega, by go_num, hb10⟩
                    case measure => simp [intOf]; omega
              · have hii : ¬ (i : Int) < (n : Int) := by omega
                have hl1 := hlv.out wr hBr
                have he : ((n3 : Int) == (n : Int)) = true := by rw [hn3.out]; simp
                have he2 : n3 = n := hn3.out
                go_wp2_with (first | (go_at_call 8; refine hl1.mono ?_; rintro e w9 ⟨rfl, hb9⟩))
                go_ret
                exact ⟨rfl, hBr.trans (hb9.mono hBr.size)⟩
          · have hO0 := ordL_err hE
            have hEd : (ordE l == 0) = false := by simpa using hE
            rw [hO0] at h9a h9t htx
            clear hOl hO0 h9 h12 hrow hEb
            generalize ordE l = EE at *
            go_wp2_with (first
              | (go_at_call 9; refine h9a.mono ?_; clear h9a; rintro e w2 ⟨a2, n2, c2, rfl, h2⟩; have hB2 := hB1.trans (h2.out.2.mono hB1.size); have h9b := h9t.out w2 (b % n) aT nT cT hB2 (hTf.out.stay h2.out.2).sls; obtain rfl : n2 = 0 := h2.out.1.len)
              | (go_at_call 9; refine h9b.mono ?_; clear h9b; rintro e w3 ⟨a3, n3, c3, rfl, h3⟩; have hB3 := hB2.trans (h3.out.2.mono hB2.size); obtain rfl : n3 = 0 := h3.out.1.len; have h11 := htx.out w3 a2 a3 0 c2 c3 (by omega) (h2.out.1.grow h3.out.2) h3.out.1)
              | (go_at_call 11; refine h11.mono ?_; clear h11; rintro e w4 ⟨rfl, hb4⟩; have hB4 := hB3.trans (hb4.mono hB3.size); have hl1 := hlv.out w4 hB4)
              | (go_at_call 14; refine (e14 _).mono ?_; rintro e wx ⟨rfl, hwx⟩; subst wx)
              | (go_at_call 8; refine hl1.mono ?_; rintro e w9 ⟨rfl, hb9⟩))
            go_ret
            exact ⟨rfl, hB4.trans (hb9.mono hB4.size)⟩
end Go.Proofs.YtaffplmfnincfaaGreatDoor
