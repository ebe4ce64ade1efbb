/- The document's Reduce. -/
import Derived.Test.YtejdmielhaldaaaGreatUd
namespace Go.Proofs.YtejdmielhaldaaaGreat
set_option linter.unusedVariables false
set_option linter.unusedSimpArgs false
open Go.RowKit
set_option maxRecDepth 100000 in
set_option maxHeartbeats 8000000 in
theorem rreduce_any (how : ByteArray) (strict : Bool) (v : Value) (l : List Pn) (w : World) (hv : Pns w v l) :
    Calls Tryz.prog 11 #[.string how, .bool strict, v] w fun e w' => e = .returned (.tuple #[vlV (reduV how strict l), .int .i64 (redE how l)]) ∧ Below w.heap.size w w' := by
  obtain ⟨W, hW⟩ : ∃ W, W = w.alloc (vlO zer) := ⟨_, rfl⟩
  have hs : W.heap.size = w.heap.size + 1 := by rw [hW]; simp
  have hA : VlAt (W.alloc sixO) w.heap.size zer := by rw [hW]; exact (vlNew w zer).alloc _
  have hO : Below w.heap.size w (W.alloc sixO) := by rw [hW]; exact (bW0 w _).alloc (bW0 w _).size _
  have hin : Calls Tryz.prog 35 #[.slice (some ⟨w.heap.size + 1, 0, none⟩) 6 6, .string how] (W.alloc sixO) fun e w' => e = .returned (.bool (howB how)) ∧ w' = W.alloc sixO := by
    have := rin35 _ six how _ (six_txs W) (by decide)
    rw [six_how, hs] at this; exact this
  obtain ⟨a, c, rfl⟩ := hv.shape
  have hvk : Hid (∀ W, Below w.heap.size w W → Pns W (.slice a l.length c) l) := fun W h => hv.grow h
  clear hv
  have eq1 : reduV how strict l = if redE how l = 0 then redV how (if strict = true then l else knownL l) else zer := rfl
  have eq2 : redE how l = if howB how = false then 100 else if 2000 < l.length then 6 else if chkE (valsP l) = 0 then 0 else 80 := rfl
  cases hh : howB how with
  | false =>
    rw [hh] at eq2 hin
    rw [if_pos rfl] at eq2
    rw [eq2, if_neg (by decide)] at eq1
    rw [eq1, eq2]
    clear eq1 eq2 hvk
    obtain ⟨c0, c1⟩ := hA.cells
    obtain ⟨f0, f1⟩ := hA.frozen
    subst hW
    unfold vlV vlO zer at *
    go_enter Tryz.func11, Tryz.ntmps11
    go_wp2_with (first | (go_at_call 35; refine hin.mono ?_; rintro e w1 ⟨rfl, rfl⟩))
    exact ret_cell2 (v := zer) Tryz.results11 rfl hA rfl ⟨rfl, hO⟩
  | true =>
    rw [hh] at eq2 hin
    rw [if_neg (by decide)] at eq2
    by_cases hm : 2000 < l.length
    · have hmi : (2000 : Int) < (l.length : Int) := by omega
      rw [if_pos hm] at eq2
      rw [eq2, if_neg (by decide)] at eq1
      rw [eq1, eq2]
      clear eq1 eq2 hvk
      obtain ⟨c0, c1⟩ := hA.cells
      obtain ⟨f0, f1⟩ := hA.frozen
      subst hW
      unfold vlV vlO zer at *
      go_enter Tryz.func11, Tryz.ntmps11
      go_wp2_with (first | (go_at_call 35; refine hin.mono ?_; rintro e w1 ⟨rfl, rfl⟩))
      exact ret_cell2 (v := zer) Tryz.results11 rfl hA rfl ⟨rfl, hO⟩
    · have hmi : ¬ (2000 : Int) < (l.length : Int) := by omega
      rw [if_neg hm] at eq2
      replace eq1 : Hid _ := eq1
      replace eq2 : Hid _ := eq2
      obtain ⟨W0, hW0⟩ : ∃ W0, Hid (W0 = w.alloc (vlO zer)) := ⟨_, rfl⟩
      have hA0 : Hid (VlAt W0 w.heap.size zer) := by rw [hW0.out]; exact vlNew w zer
      have hO0 : Hid (Below w.heap.size w W0) := by rw [hW0.out]; exact bW0 w _
      have hOW : Hid (Below W0.heap.size W0 (W.alloc sixO)) := by rw [hW, ← hW0.out]; exact bW0 W0 _
      clear hW0
      subst hW
      generalize reduV how strict l = R at *
      generalize redE how l = E at *
      clear hA hO hs
      unfold vlV vlO at *
      unfold zer at hin hOW
      go_enter Tryz.func11, Tryz.ntmps11
      go_wp2_with (first | (go_at_call 35; refine hin.mono ?_; rintro e w1 ⟨rfl, rfl⟩))
      clear hin
      go_loopw [8, 9, 10] (fun u nb i wr => ∃ k : Nat, k ≤ l.length ∧ i = .int .i64 k ∧ nb = .bool ((keepL strict (l.take k)).any unkB) ∧ Hid (∀ p ∈ l.take k, IsV p.v) ∧ OwnS TP wr W0.heap.size u (keepL strict (l.take k)) ∧ Below W0.heap.size W0 wr) (fun _ _ i _ => l.length - (intOf i).toNat)
      case atStart => exact ⟨0, Nat.zero_le _, rfl, by simp [keepL], (fun p hp => by simp at hp), by simpa [keepL] using OwnS.nil _ _, hOW.out⟩
      case round =>
        clear hOW
        obtain ⟨k, hk, rfl, rfl, hall, ho, hB⟩ := hrel
        have hwB : Below w.heap.size w wr := hO0.out.trans (hB.mono hO0.out.size)
        by_cases hlt : k < l.length
        · have hki : (k : Int) < (l.length : Int) := by omega
          obtain ⟨b, o, rfl, y0, y1, y2⟩ := pn_at (hvk.out _ hwB) k hlt
          have hP : Hid (∀ W, Below W0.heap.size W0 W → W.cell? ⟨b, o + k * 3, none⟩ = some (.int .i64 (l.getD k pn0).at') ∧ W.cell? ⟨b, o + k * 3 + 1, none⟩ = some (.int .i64 (l.getD k pn0).v.kind) ∧ W.cell? ⟨b, o + k * 3 + 2, none⟩ = some (.int .i64 (l.getD k pn0).v.n)) := fun W h => by
            obtain ⟨b', o', e, z0, z1, z2⟩ := pn_at (hvk.out W (hO0.out.trans (h.mono hO0.out.size))) k hlt
            cases e
            exact ⟨z0, z1, z2⟩
          have hkt := keepL_take strict l k hlt
          have htk : Hid (l.take (k + 1) = l.take k ++ [l.getD k pn0]) := take_pn l k hlt
          have hmem : Hid (l.getD k pn0 ∈ l) := by rw [getD_get l k hlt]; exact List.getElem_mem hlt
          have hkl : (keepL strict (l.take k)).length ≤ 1000000 := Nat.le_trans (keepL_len _ _) (by rw [List.length_take]; omega)
          replace hkt : Hid _ := hkt
          generalize l.getD k pn0 = q at *
          generalize keepL strict (l.take k) = L at *
          have hu := fun W => ris_any q.v W
          have hod := fun W => rodd_any q.v W
          unfold vlV at hu hod
          cases hi : isB q.v with
          | false =>
            rw [hi] at hu
            have hE : chkE (valsP l) = 80 := by
              rw [chkE, if_neg]
              intro h
              have := isB_of (h q.v (List.mem_map.2 ⟨q, hmem.out, rfl⟩))
              rw [hi] at this; cases this
            have e2 := eq2.out
            rw [hE, if_neg (by decide)] at e2
            have e1 := eq1.out
            rw [e2, if_neg (by decide)] at e1
            subst e1 e2
            clear eq1 eq2 hP hall hkt htk
            go_wp2_with (first | (go_at_call 24; refine (hu _).mono ?_; rintro e w2 ⟨rfl, hb2⟩; have hB2 := hB.trans (hb2.mono hB.size); have kA := hA0.out.grow hB2; obtain ⟨c0, c1⟩ := kA.cells; obtain ⟨f0, f1⟩ := kA.frozen; unfold zer at c0 c1))
            exact ret_cell2 (v := zer) Tryz.results11 rfl (vlSet (k := zer.kind) (n := zer.n) kA) rfl ⟨rfl, belTwo _ _ (hO0.out.trans (hB2.mono hO0.out.size)) (Nat.le_refl _)⟩
          | true =>
            rw [hi] at hu
            have hvu : IsV q.v := of_decide_eq_true hi
            rw [odd_unk hvu] at hod
            have hnew : Hid (∀ p ∈ l.take (k + 1), IsV p.v) := by
              rw [htk.out]
              intro y hy
              rcases List.mem_append.1 hy with h | h
              · exact hall.out y h
              · rw [List.mem_singleton.1 h]; exact hvu
            have hkw : knwB q = !unkB q := rfl
            rw [hkw] at hkt
            clear hvu hall htk hkw hi eq1 eq2 hmem
            cases strict with
            | true =>
              have hkt2 : Hid (keepL true (l.take (k + 1)) = L ++ [q]) := by have := hkt.out; simp at this; exact this
              replace hkt := hkt2
              cases hO : unkB q <;> cases hN : L.any unkB
              all_goals
                rw [hO] at hod
                go_wp2_with (first
                  | (go_at_call 24; refine (hu _).mono ?_; rintro e w2 ⟨rfl, hb2⟩; replace ho := ho.stay hb2; replace hB := hB.trans (hb2.mono hB.size); obtain ⟨y0, y1, y2⟩ := hP.out _ hB)
                  | (at_builtin; refine appR TP rfl (.tmp 49) (.tmp 54) rfl W0.heap.size _ (.slice (some ⟨(w2 : World).heap.size, 0, none⟩) 1 1) L [q] rfl rfl (ho.alloc _) (sls_one (E := encP) w2 q #[.int .i64 q.at', .int .i64 q.v.kind, .int .i64 q.v.n] 51 rfl) ((hB.alloc hB.size _).size) (by simp; omega) ?_; intro v2 w4 ho2 hg2; replace hB := (hB.alloc hB.size _).grown hg2 (hB.alloc hB.size _).size (fun t ht => (ho.lt t ht).1); replace ho := ho2; obtain ⟨y0, y1, y2⟩ := hP.out _ hB)
                  | (go_at_call 36; refine (hod _).mono ?_; rintro e w3 ⟨rfl, hb3⟩; replace ho := ho.stay hb3; replace hB := hB.trans (hb3.mono hB.size); obtain ⟨y0, y1, y2⟩ := hP.out _ hB))
                refine ⟨⟨k + 1, by omega, by go_num, ?_, hnew, ho.cast hkt.out.symm, hB⟩, ?_⟩
                · rw [hkt.out]; simp [hN, hO, List.any_append]
                · simp [intOf]; omega
            | false =>
              cases hO : unkB q with
              | true =>
                have hkt2 : Hid (keepL false (l.take (k + 1)) = L) := by have := hkt.out; rw [hO] at this; simp at this; exact this
                replace hkt := hkt2
                rw [hO] at hod
                cases hN : L.any unkB
                all_goals
                  go_wp2_with (first
                    | (go_at_call 24; refine (hu _).mono ?_; rintro e w2 ⟨rfl, hb2⟩; replace ho := ho.stay hb2; replace hB := hB.trans (hb2.mono hB.size); obtain ⟨y0, y1, y2⟩ := hP.out _ hB)
                    | (go_at_call 36; refine (hod _).mono ?_; rintro e w3 ⟨rfl, hb3⟩; replace ho := ho.stay hb3; replace hB := hB.trans (hb3.mono hB.size); obtain ⟨y0, y1, y2⟩ := hP.out _ hB))
                  refine ⟨⟨k + 1, by omega, by go_num, ?_, hnew, ho.cast hkt.out.symm, hB⟩, ?_⟩
                  · rw [hkt.out]; simp [hN, hO, List.any_append]
                  · simp [intOf]; omega
              | false =>
                have hkt2 : Hid (keepL false (l.take (k + 1)) = L ++ [q]) := by have := hkt.out; rw [hO] at this; simp at this; exact this
                replace hkt := hkt2
                rw [hO] at hod
                cases hN : L.any unkB
                all_goals
                  go_wp2_with (first
                    | (go_at_call 24; refine (hu _).mono ?_; rintro e w2 ⟨rfl, hb2⟩; replace ho := ho.stay hb2; replace hB := hB.trans (hb2.mono hB.size); obtain ⟨y0, y1, y2⟩ := hP.out _ hB)
                    | (at_builtin; refine appR TP rfl (.tmp 49) (.tmp 54) rfl W0.heap.size _ (.slice (some ⟨(w3 : World).heap.size, 0, none⟩) 1 1) L [q] rfl rfl (ho.alloc _) (sls_one (E := encP) w3 q #[.int .i64 q.at', .int .i64 q.v.kind, .int .i64 q.v.n] 51 rfl) ((hB.alloc hB.size _).size) (by simp; omega) ?_; intro v2 w4 ho2 hg2; replace hB := (hB.alloc hB.size _).grown hg2 (hB.alloc hB.size _).size (fun t ht => (ho.lt t ht).1); replace ho := ho2; obtain ⟨y0, y1, y2⟩ := hP.out _ hB)
                    | (go_at_call 36; refine (hod _).mono ?_; rintro e w3 ⟨rfl, hb3⟩; replace ho := ho.stay hb3; replace hB := hB.trans (hb3.mono hB.size); obtain ⟨y0, y1, y2⟩ := hP.out _ hB))
                  refine ⟨⟨k + 1, by omega, by go_num, ?_, hnew, ho.cast hkt.out.symm, hB⟩, ?_⟩
                  · rw [hkt.out]; simp [hN, hO, List.any_append]
                  · simp [intOf]; omega
        · obtain rfl : k = l.length := by omega
          have hki : ¬ (l.length : Int) < (l.length : Int) := by omega
          rw [List.take_of_length_le (Nat.le_refl _)] at hall ho ⊢
          have hck : chkE (valsP l) = 0 := by
            rw [chkE, if_pos]
            intro u hu
            obtain ⟨p, hp, rfl⟩ := List.mem_map.1 hu
            exact hall.out p hp
          have e2 := eq2.out
          rw [hck, if_pos rfl] at e2
          have e1 := eq1.out
          rw [e2, if_pos rfl, ← keepL_is] at e1
          have hLv : Hid (∀ p ∈ keepL strict l, IsV p.v) := fun p hp => hall.out p (List.mem_filter.1 hp).1
          have hLl : (keepL strict l).length ≤ 2000 := Nat.le_trans (keepL_len _ _) (by omega)
          subst e2
          have hR : Hid (R = redV how (keepL strict l)) := e1
          clear eq1 eq2 hall hvk hck e1
          generalize keepL strict l = L at *
          obtain ⟨a2, c2, rfl⟩ := ho.shape
          have hPL : Hid (Pns wr (.slice a2 L.length c2) L) := ho.sls
          clear ho
          have hRR := hR.out
          unfold redV at hRR
          have hLi : (L.length : Int) ≤ 2000 := by omega
          cases h1 : how.toList == [99, 111, 117, 110, 116] with
          | true =>
            rw [h1, if_pos rfl] at hRR
            have hn := fun W => rnum_any (1000 * L.length) W
            rw [← hRR] at hn
            clear hR hRR
            unfold vlV at hn
            go_wp2_with (first | (go_at_call 27; refine (hn _).mono ?_; rintro e w2 ⟨rfl, hb2⟩; have hB2 := hB.trans (hb2.mono hB.size); have kA := hA0.out.grow hB2; obtain ⟨c0, c1⟩ := kA.cells; obtain ⟨f0, f1⟩ := kA.frozen; unfold zer at c0 c1))
            exact ret_cell2 (v := R) Tryz.results11 rfl (vlSet kA) rfl ⟨rfl, belTwo _ _ (hO0.out.trans (hB2.mono hO0.out.size)) (Nat.le_refl _)⟩
          | false =>
            rw [h1, if_neg (by decide)] at hRR
            by_cases h0 : L.length = 0
            · rw [if_pos h0] at hRR
              have hn := fun W => rnull_b W
              rw [← hRR] at hn
              have h0b : ((L.length : Int) == 0) = true := by rw [h0]; rfl
              clear hR hRR
              unfold vlV at hn
              go_wp2_with (first | (go_at_call 28; refine (hn _).mono ?_; rintro e w2 ⟨rfl, hb2⟩; have hB2 := hB.trans (hb2.mono hB.size); have kA := hA0.out.grow hB2; obtain ⟨c0, c1⟩ := kA.cells; obtain ⟨f0, f1⟩ := kA.frozen; unfold zer at c0 c1))
              exact ret_cell2 (v := R) Tryz.results11 rfl (vlSet kA) rfl ⟨rfl, belTwo _ _ (hO0.out.trans (hB2.mono hO0.out.size)) (Nat.le_refl _)⟩
            · rw [if_neg h0] at hRR
              have h0b : ((L.length : Int) == 0) = false := by rw [beq_eq_false_iff_ne]; omega
              have h0i : (0 : Int) < (L.length : Int) := by omega
              cases h2 : how.toList == [108, 97, 115, 116] with
              | true =>
                rw [h2, if_pos rfl] at hRR
                replace hRR : Hid (R = (lastP L).v) := hRR
                clear hR
                go_wp2
                go_loopw [11, 12] (fun kk i ws => ∃ t j : Nat, j ≤ L.length ∧ t < L.length ∧ kk = .int .i64 t ∧ i = .int .i64 j ∧ Hid (L.getD t pn0 = (L.take j).foldl later (L.getD 0 pn0)) ∧ Hid (Below wr.heap.size wr ws)) (fun _ i _ => L.length - (intOf i).toNat)
                case atStart => exact ⟨0, 0, by omega, by omega, rfl, rfl, (rfl : L.getD 0 pn0 = (L.take 0).foldl later (L.getD 0 pn0)), Below.refl _ _⟩
                case round =>
                  obtain ⟨t, j, hj, ht, rfl, rfl, hf, hBs⟩ := hrel
                  obtain ⟨b1, o1, rfl, x0, x1, x2⟩ := pn_at (hPL.out.grow hBs.out) t ht
                  have hti : (t : Int) < (L.length : Int) := by omega
                  by_cases hlt2 : j < L.length
                  · have hji : (j : Int) < (L.length : Int) := by omega
                    obtain ⟨b3, o3, e3, y0, y1, y2⟩ := pn_at (hPL.out.grow hBs.out) j hlt2
                    cases e3
                    have hf2 : Hid ((L.take (j + 1)).foldl later (L.getD 0 pn0) = later (L.getD t pn0) (L.getD j pn0)) := by
                      rw [hf.out]; exact fold_take2 later L _ j hlt2
                    have hd : Hid (later (L.getD t pn0) (L.getD j pn0) = if (L.getD t pn0).at' ≤ (L.getD j pn0).at' then L.getD j pn0 else L.getD t pn0) := rfl
                    obtain ⟨P, hPt⟩ : ∃ P, Hid (P = L.getD t pn0) := ⟨_, rfl⟩
                    obtain ⟨Q, hQj⟩ : ∃ Q, Hid (Q = L.getD j pn0) := ⟨_, rfl⟩
                    rw [← hPt.out] at x0 x1 x2 hf2 hd
                    rw [← hQj.out] at y0 y1 y2 hf2 hd
                    by_cases hc : P.at' ≤ Q.at'
                    · rw [if_pos hc] at hd
                      have hf3 : Hid (L.getD j pn0 = (L.take (j + 1)).foldl later (L.getD 0 pn0)) := by rw [hf2.out, hd.out, hQj.out]; rfl
                      clear hf hf2 hd hPt hQj
                      go_wp2
                      go_quiet (fail)
                      go_wp2
                      refine ⟨⟨j, j + 1, by omega, hlt2, rfl, by go_num, hf3, below_drewN hBs.out _⟩, ?_⟩
                      simp [intOf]; omega
                    · rw [if_neg hc] at hd
                      have hf3 : Hid (L.getD t pn0 = (L.take (j + 1)).foldl later (L.getD 0 pn0)) := by rw [hf2.out, hd.out, hPt.out]; rfl
                      clear hf hf2 hd hPt hQj
                      go_wp2
                      go_quiet (fail)
                      go_wp2
                      refine ⟨⟨t, j + 1, by omega, ht, rfl, by go_num, hf3, below_drewN hBs.out _⟩, ?_⟩
                      simp [intOf]; omega
                  · obtain rfl : j = L.length := by omega
                    have hji : ¬ (L.length : Int) < (L.length : Int) := by omega
                    have hRv : Hid (R = (L.getD t pn0).v) := by
                      rw [hRR.out, hf.out, List.take_of_length_le (Nat.le_refl _)]; rfl
                    generalize L.getD t pn0 = P at *
                    have hB2 := hB.trans (hBs.out.mono hB.size)
                    have kA := hA0.out.grow hB2
                    obtain ⟨c0, c1⟩ := kA.cells
                    obtain ⟨f0, f1⟩ := kA.frozen
                    unfold zer at c0 c1
                    go_wp2
                    rw [hRv.out]
                    exact ret_cell2 (v := P.v) Tryz.results11 rfl (vlSet kA) rfl ⟨rfl, belTwo _ _ (hO0.out.trans (hB2.mono hO0.out.size)) (Nat.le_refl _)⟩
              | false =>
                rw [h2, if_neg (by decide)] at hRR
                cases hN : L.any unkB with
                | true =>
                  rw [hN, if_pos rfl] at hRR
                  have hn := fun W => rnan_b W
                  rw [← hRR] at hn
                  clear hR hRR
                  unfold vlV at hn
                  go_wp2_with (first | (go_at_call 29; refine (hn _).mono ?_; rintro e w2 ⟨rfl, hb2⟩; have hB2 := hB.trans (hb2.mono hB.size); have kA := hA0.out.grow hB2; obtain ⟨c0, c1⟩ := kA.cells; obtain ⟨f0, f1⟩ := kA.frozen; unfold zer at c0 c1))
                  exact ret_cell2 (v := R) Tryz.results11 rfl (vlSet kA) rfl ⟨rfl, belTwo _ _ (hO0.out.trans (hB2.mono hO0.out.size)) (Nat.le_refl _)⟩
                | false =>
                  rw [hN, if_neg (by decide)] at hRR
                  have hLo : Hid (∀ t, t < L.length → IsV (L.getD t pn0).v ∧ Ordy (L.getD t pn0).v) := fun t ht => ords_of hLv.out hN _ (by rw [getD_get L t ht]; exact List.getElem_mem ht)
                  clear hR
                  cases h3 : how.toList == [109, 105, 110] with
                  | true =>
                    have h4 : (how.toList == [109, 97, 120]) = false := by rw [eq_of_beq h3]; rfl
                    have h5 : (how.toList == [115, 117, 109]) = false := by rw [eq_of_beq h3]; rfl
                    have h6 : (how.toList == [109, 101, 97, 110]) = false := by rw [eq_of_beq h3]; rfl
                    rw [h3, if_pos rfl] at hRR
                    have hRR2 : Hid (R = (L.drop 1).foldl (utP ⟨#[60]⟩) (L.getD 0 pn0).v) := by rw [hRR, ut_drop _ (by omega)]; rfl
                    clear hRR
                    obtain ⟨b1, o1, rfl, x0, x1, x2⟩ := pn_at hPL.out 0 (by omega)
                    simp only [Nat.zero_mul, Nat.add_zero] at x0 x1 x2
                    have hp0 : Hid (IsV (L.getD 0 pn0).v ∧ Ordy (L.getD 0 pn0).v) := hLo.out 0 (by omega)
                    generalize L.getD 0 pn0 = p0 at *
                    have hbl : b1 < wr.heap.size := World.block_lt_of_cell? wr _ x0
                    go_wp2
                    have hT0 : Hid (VlAt (wr.alloc (vlO p0.v)) wr.heap.size p0.v) := vlNew wr p0.v
                    have hBt0 : Hid (Below wr.heap.size wr (wr.alloc (vlO p0.v))) := bW0 wr _
                    go_loopw [14] (fun i ws => ∃ (t : Nat) (T : Vl), t + 1 ≤ L.length ∧ i = .int .i64 ((t + 1 : Nat) : Int) ∧ Hid (T = ((L.drop 1).take t).foldl (utP ⟨#[60]⟩) p0.v) ∧ Hid (VlAt ws wr.heap.size T) ∧ Hid (IsV T ∧ Ordy T) ∧ Hid (Below wr.heap.size wr ws)) (fun i _ => L.length - (intOf i).toNat)
                    case atStart => exact ⟨0, p0.v, by omega, rfl, rfl, hT0, hp0, hBt0⟩
                    case round =>
                      clear hT0 hBt0 x0 x1 x2
                      obtain ⟨t, T, ht, rfl, hTe, kT, hTo, hBs⟩ := hrel
                      have hzz : _ < wr.heap.size := kT.out.lt
                      by_cases hlt2 : t + 1 < L.length
                      · have hji : ((t + 1 : Nat) : Int) < (L.length : Int) := by omega
                        obtain ⟨b3, o3, e3, y0, y1, y2⟩ := pn_at (hPL.out.grow hBs.out) (t + 1) hlt2
                        cases e3
                        have hf : Hid (((L.drop 1).take (t + 1)).foldl (utP ⟨#[60]⟩) p0.v = (utP ⟨#[60]⟩) T (L.getD (t + 1) pn0)) := by rw [hTe.out]; exact fold_drop (utP ⟨#[60]⟩) L p0.v t hlt2
                        have hq := hLo.out (t + 1) hlt2
                        generalize L.getD (t + 1) pn0 = q at *
                        have kX : Hid (VlAt (wr.alloc (vlO q.v)) wr.heap.size q.v) := vlNew wr q.v
                        obtain ⟨t0, t1⟩ := kT.out.cells
                        have hls := fun W => rless_any q.v T hq.1 hTo.out.1 hq.2 hTo.out.2 W
                        unfold vlV at hls
                        have hg : Hid (utP ⟨#[60]⟩ T q = if lessB q.v T = true then q.v else T) := utP_min hq hTo.out
                        replace hq : Hid _ := hq
                        have hBx : Hid (Below wr.heap.size wr (wr.alloc (vlO q.v))) := bW0 wr _
                        cases hb : lessB q.v T with
                        | true =>
                          rw [hb] at hls hg
                          rw [if_pos rfl] at hg
                          rw [hg.out] at hf
                          go_wp2_with (first | (go_at_call 37; refine (hls _).mono ?_; rintro e w2 ⟨rfl, hb2⟩; have kT2 := (kT.out.alloc (vlO q.v)).grow hb2; have kX2 := kX.out.grow hb2; have kB2 := (hBs.out.alloc hBs.out.size (vlO q.v)).trans (hb2.mono (hBs.out.alloc hBs.out.size (vlO q.v)).size); obtain ⟨u0, u1⟩ := kT2.cells; obtain ⟨f0, f1⟩ := kT2.frozen; obtain ⟨z0, z1⟩ := kX2.cells))
                          refine ⟨⟨t + 1, q.v, by omega, by go_num, hf.out.symm, vlSet kT2, hq, belTwo _ _ kB2 (Nat.le_refl _)⟩, ?_⟩
                          simp [intOf]; omega
                        | false =>
                          rw [hb] at hls hg
                          rw [if_neg (by decide)] at hg
                          rw [hg.out] at hf
                          go_wp2_with (first | (go_at_call 37; refine (hls _).mono ?_; rintro e w2 ⟨rfl, hb2⟩; have kT2 := (kT.out.alloc (vlO q.v)).grow hb2; have kX2 := kX.out.grow hb2; have kB2 := (hBs.out.alloc hBs.out.size (vlO q.v)).trans (hb2.mono (hBs.out.alloc hBs.out.size (vlO q.v)).size); obtain ⟨u0, u1⟩ := kT2.cells; obtain ⟨f0, f1⟩ := kT2.frozen; obtain ⟨z0, z1⟩ := kX2.cells))
                          refine ⟨⟨t + 1, T, by omega, by go_num, hf.out.symm, kT2, hTo, kB2⟩, ?_⟩
                          simp [intOf]; omega
                      · have hte : t + 1 = L.length := by omega
                        have hji : ¬ ((t + 1 : Nat) : Int) < (L.length : Int) := by omega
                        rw [List.take_of_length_le (by rw [List.length_drop]; omega)] at hTe
                        have hB2 := hB.trans (hBs.out.mono hB.size)
                        have kA := hA0.out.grow hB2
                        obtain ⟨c0, c1⟩ := kA.cells
                        obtain ⟨f0, f1⟩ := kA.frozen
                        obtain ⟨t0, t1⟩ := kT.out.cells
                        unfold zer at c0 c1
                        have hRT : Hid (R = T) := by rw [hRR2.out, hTe.out]; rfl
                        go_wp2
                        rw [hRT.out]
                        exact ret_cell2 (v := T) Tryz.results11 rfl (vlSet kA) rfl ⟨rfl, belTwo _ _ (hO0.out.trans (hB2.mono hO0.out.size)) (Nat.le_refl _)⟩
                  | false =>
                    rw [h3, if_neg (by decide)] at hRR
                    cases h4 : how.toList == [109, 97, 120] with
                    | true =>
                      have h5 : (how.toList == [115, 117, 109]) = false := by rw [eq_of_beq h4]; rfl
                      have h6 : (how.toList == [109, 101, 97, 110]) = false := by rw [eq_of_beq h4]; rfl
                      rw [h4, if_pos rfl] at hRR
                      have hRR2 : Hid (R = (L.drop 1).foldl (utP ⟨#[62]⟩) (L.getD 0 pn0).v) := by rw [hRR, ut_drop _ (by omega)]; rfl
                      clear hRR
                      obtain ⟨b1, o1, rfl, x0, x1, x2⟩ := pn_at hPL.out 0 (by omega)
                      simp only [Nat.zero_mul, Nat.add_zero] at x0 x1 x2
                      have hp0 : Hid (IsV (L.getD 0 pn0).v ∧ Ordy (L.getD 0 pn0).v) := hLo.out 0 (by omega)
                      generalize L.getD 0 pn0 = p0 at *
                      have hbl : b1 < wr.heap.size := World.block_lt_of_cell? wr _ x0
                      go_wp2
                      have hT0 : Hid (VlAt (wr.alloc (vlO p0.v)) wr.heap.size p0.v) := vlNew wr p0.v
                      have hBt0 : Hid (Below wr.heap.size wr (wr.alloc (vlO p0.v))) := bW0 wr _
                      go_loopw [14] (fun i ws => ∃ (t : Nat) (T : Vl), t + 1 ≤ L.length ∧ i = .int .i64 ((t + 1 : Nat) : Int) ∧ Hid (T = ((L.drop 1).take t).foldl (utP ⟨#[62]⟩) p0.v) ∧ Hid (VlAt ws wr.heap.size T) ∧ Hid (IsV T ∧ Ordy T) ∧ Hid (Below wr.heap.size wr ws)) (fun i _ => L.length - (intOf i).toNat)
                      case atStart => exact ⟨0, p0.v, by omega, rfl, rfl, hT0, hp0, hBt0⟩
                      case round =>
                        clear hT0 hBt0 x0 x1 x2
                        obtain ⟨t, T, ht, rfl, hTe, kT, hTo, hBs⟩ := hrel
                        have hzz : _ < wr.heap.size := kT.out.lt
                        by_cases hlt2 : t + 1 < L.length
                        · have hji : ((t + 1 : Nat) : Int) < (L.length : Int) := by omega
                          obtain ⟨b3, o3, e3, y0, y1, y2⟩ := pn_at (hPL.out.grow hBs.out) (t + 1) hlt2
                          cases e3
                          have hf : Hid (((L.drop 1).take (t + 1)).foldl (utP ⟨#[62]⟩) p0.v = (utP ⟨#[62]⟩) T (L.getD (t + 1) pn0)) := by rw [hTe.out]; exact fold_drop (utP ⟨#[62]⟩) L p0.v t hlt2
                          have hq := hLo.out (t + 1) hlt2
                          generalize L.getD (t + 1) pn0 = q at *
                          have kX : Hid (VlAt (wr.alloc (vlO q.v)) wr.heap.size q.v) := vlNew wr q.v
                          obtain ⟨t0, t1⟩ := kT.out.cells
                          have hls := fun W => rless_any T q.v hTo.out.1 hq.1 hTo.out.2 hq.2 W
                          unfold vlV at hls
                          have hg : Hid (utP ⟨#[62]⟩ T q = if lessB T q.v = true then q.v else T) := utP_max hq hTo.out
                          replace hq : Hid _ := hq
                          have hBx : Hid (Below wr.heap.size wr (wr.alloc (vlO q.v))) := bW0 wr _
                          cases hb : lessB T q.v with
                          | true =>
                            rw [hb] at hls hg
                            rw [if_pos rfl] at hg
                            rw [hg.out] at hf
                            go_wp2_with (first | (go_at_call 37; refine (hls _).mono ?_; rintro e w2 ⟨rfl, hb2⟩; have kT2 := (kT.out.alloc (vlO q.v)).grow hb2; have kX2 := kX.out.grow hb2; have kB2 := (hBs.out.alloc hBs.out.size (vlO q.v)).trans (hb2.mono (hBs.out.alloc hBs.out.size (vlO q.v)).size); obtain ⟨u0, u1⟩ := kT2.cells; obtain ⟨f0, f1⟩ := kT2.frozen; obtain ⟨z0, z1⟩ := kX2.cells))
                            refine ⟨⟨t + 1, q.v, by omega, by go_num, hf.out.symm, vlSet kT2, hq, belTwo _ _ kB2 (Nat.le_refl _)⟩, ?_⟩
                            simp [intOf]; omega
                          | false =>
                            rw [hb] at hls hg
                            rw [if_neg (by decide)] at hg
                            rw [hg.out] at hf
                            go_wp2_with (first | (go_at_call 37; refine (hls _).mono ?_; rintro e w2 ⟨rfl, hb2⟩; have kT2 := (kT.out.alloc (vlO q.v)).grow hb2; have kX2 := kX.out.grow hb2; have kB2 := (hBs.out.alloc hBs.out.size (vlO q.v)).trans (hb2.mono (hBs.out.alloc hBs.out.size (vlO q.v)).size); obtain ⟨u0, u1⟩ := kT2.cells; obtain ⟨f0, f1⟩ := kT2.frozen; obtain ⟨z0, z1⟩ := kX2.cells))
                            refine ⟨⟨t + 1, T, by omega, by go_num, hf.out.symm, kT2, hTo, kB2⟩, ?_⟩
                            simp [intOf]; omega
                        · have hte : t + 1 = L.length := by omega
                          have hji : ¬ ((t + 1 : Nat) : Int) < (L.length : Int) := by omega
                          rw [List.take_of_length_le (by rw [List.length_drop]; omega)] at hTe
                          have hB2 := hB.trans (hBs.out.mono hB.size)
                          have kA := hA0.out.grow hB2
                          obtain ⟨c0, c1⟩ := kA.cells
                          obtain ⟨f0, f1⟩ := kA.frozen
                          obtain ⟨t0, t1⟩ := kT.out.cells
                          unfold zer at c0 c1
                          have hRT : Hid (R = T) := by rw [hRR2.out, hTe.out]; rfl
                          go_wp2
                          rw [hRT.out]
                          exact ret_cell2 (v := T) Tryz.results11 rfl (vlSet kA) rfl ⟨rfl, belTwo _ _ (hO0.out.trans (hB2.mono hO0.out.size)) (Nat.le_refl _)⟩
                    | false =>
                      rw [h4, if_neg (by decide)] at hRR
                      cases h5 : how.toList == [115, 117, 109] with
                      | true =>
                        have h6 : (how.toList == [109, 101, 97, 110]) = false := by rw [eq_of_beq h5]; rfl
                        rw [h5, if_pos rfl] at hRR
                        have hRR2 : Hid (R = (L.drop 1).foldl plusV (L.getD 0 pn0).v) := by rw [hRR, sum_drop (by omega)]; rfl
                        clear hRR
                        obtain ⟨b1, o1, rfl, x0, x1, x2⟩ := pn_at hPL.out 0 (by omega)
                        simp only [Nat.zero_mul, Nat.add_zero] at x0 x1 x2
                        have hp0 : Hid (IsV (L.getD 0 pn0).v ∧ Ordy (L.getD 0 pn0).v) := hLo.out 0 (by omega)
                        generalize L.getD 0 pn0 = p0 at *
                        have hbl : b1 < wr.heap.size := World.block_lt_of_cell? wr _ x0
                        go_wp2
                        have hT0 : Hid (VlAt (wr.alloc (vlO p0.v)) wr.heap.size p0.v) := vlNew wr p0.v
                        have hBt0 : Hid (Below wr.heap.size wr (wr.alloc (vlO p0.v))) := bW0 wr _
                        go_loopw [14] (fun i ws => ∃ (t : Nat) (T : Vl), t + 1 ≤ L.length ∧ i = .int .i64 ((t + 1 : Nat) : Int) ∧ Hid (T = ((L.drop 1).take t).foldl plusV p0.v) ∧ Hid (VlAt ws wr.heap.size T) ∧ True ∧ Hid (Below wr.heap.size wr ws)) (fun i _ => L.length - (intOf i).toNat)
                        case atStart => exact ⟨0, p0.v, by omega, rfl, rfl, hT0, trivial, hBt0⟩
                        case round =>
                          clear hT0 hBt0 x0 x1 x2
                          obtain ⟨t, T, ht, rfl, hTe, kT, hTo, hBs⟩ := hrel
                          have hzz : _ < wr.heap.size := kT.out.lt
                          by_cases hlt2 : t + 1 < L.length
                          · have hji : ((t + 1 : Nat) : Int) < (L.length : Int) := by omega
                            obtain ⟨b3, o3, e3, y0, y1, y2⟩ := pn_at (hPL.out.grow hBs.out) (t + 1) hlt2
                            cases e3
                            have hf : Hid (((L.drop 1).take (t + 1)).foldl plusV p0.v = plusV T (L.getD (t + 1) pn0)) := by rw [hTe.out]; exact fold_drop plusV L p0.v t hlt2
                            have hq := hLo.out (t + 1) hlt2
                            generalize L.getD (t + 1) pn0 = q at *
                            have kX : Hid (VlAt (wr.alloc (vlO q.v)) wr.heap.size q.v) := vlNew wr q.v
                            obtain ⟨t0, t1⟩ := kT.out.cells
                            have hdo := fun W => rdo38 ⟨#[43]⟩ T q.v W
                            unfold vlV at hdo
                            have hpl : Hid (doV ⟨#[43]⟩ [T, q.v] = plusV T q) := rfl
                            generalize doV ⟨#[43]⟩ [T, q.v] = S at *
                            clear hq
                            obtain ⟨z0, z1⟩ := kX.out.cells
                            obtain ⟨v0, v1⟩ := (kT.out.alloc (vlO q.v)).cells
                            go_wp2_with (first | (go_at_call 38; refine (hdo _).mono ?_; rintro e w2 ⟨rfl, hb2⟩; have kT2 := (kT.out.alloc (vlO q.v)).grow hb2; have kB2 := (hBs.out.alloc hBs.out.size (vlO q.v)).trans (hb2.mono (hBs.out.alloc hBs.out.size (vlO q.v)).size); obtain ⟨u0, u1⟩ := kT2.cells; obtain ⟨f0, f1⟩ := kT2.frozen))
                            refine ⟨⟨t + 1, S, by omega, by go_num, (by rw [hf.out, ← hpl.out]; rfl), vlSet kT2, trivial, belTwo _ _ kB2 (Nat.le_refl _)⟩, ?_⟩
                            simp [intOf]; omega
                          · have hte : t + 1 = L.length := by omega
                            have hji : ¬ ((t + 1 : Nat) : Int) < (L.length : Int) := by omega
                            rw [List.take_of_length_le (by rw [List.length_drop]; omega)] at hTe
                            have hB2 := hB.trans (hBs.out.mono hB.size)
                            have kA := hA0.out.grow hB2
                            obtain ⟨c0, c1⟩ := kA.cells
                            obtain ⟨f0, f1⟩ := kA.frozen
                            obtain ⟨t0, t1⟩ := kT.out.cells
                            unfold zer at c0 c1
                            have hRT : Hid (R = T) := by rw [hRR2.out, hTe.out]; rfl
                            go_wp2
                            rw [hRT.out]
                            exact ret_cell2 (v := T) Tryz.results11 rfl (vlSet kA) rfl ⟨rfl, belTwo _ _ (hO0.out.trans (hB2.mono hO0.out.size)) (Nat.le_refl _)⟩
                      | false =>
                        rw [h5, if_neg (by decide)] at hRR
                        cases h6 : how.toList == [109, 101, 97, 110] with
                        | true =>
                          have hRR2 : Hid (R = doV ⟨#[47]⟩ [(L.drop 1).foldl plusV (L.getD 0 pn0).v, num (1000 * L.length)]) := by rw [hRR, sum_drop (by omega)]; rfl
                          clear hRR
                          obtain ⟨b1, o1, rfl, x0, x1, x2⟩ := pn_at hPL.out 0 (by omega)
                          simp only [Nat.zero_mul, Nat.add_zero] at x0 x1 x2
                          have hp0 : Hid (IsV (L.getD 0 pn0).v ∧ Ordy (L.getD 0 pn0).v) := hLo.out 0 (by omega)
                          generalize L.getD 0 pn0 = p0 at *
                          have hbl : b1 < wr.heap.size := World.block_lt_of_cell? wr _ x0
                          go_wp2
                          have hT0 : Hid (VlAt (wr.alloc (vlO p0.v)) wr.heap.size p0.v) := vlNew wr p0.v
                          have hBt0 : Hid (Below wr.heap.size wr (wr.alloc (vlO p0.v))) := bW0 wr _
                          have hne : Hid (w.heap.size < wr.heap.size) := by have h1 := hA0.out.lt; have h2 := hB.size; show _ < _; omega
                          go_loopw [14] (fun i ws => ∃ (t : Nat) (T : Vl), t + 1 ≤ L.length ∧ i = .int .i64 ((t + 1 : Nat) : Int) ∧ Hid (T = ((L.drop 1).take t).foldl plusV p0.v) ∧ Hid (VlAt ws wr.heap.size T) ∧ True ∧ Hid (Below wr.heap.size wr ws)) (fun i _ => L.length - (intOf i).toNat)
                          case atStart => exact ⟨0, p0.v, by omega, rfl, rfl, hT0, trivial, hBt0⟩
                          case round =>
                            clear hT0 hBt0 x0 x1 x2
                            obtain ⟨t, T, ht, rfl, hTe, kT, hTo, hBs⟩ := hrel
                            have hzz : _ < wr.heap.size := kT.out.lt
                            by_cases hlt2 : t + 1 < L.length
                            · have hji : ((t + 1 : Nat) : Int) < (L.length : Int) := by omega
                              obtain ⟨b3, o3, e3, y0, y1, y2⟩ := pn_at (hPL.out.grow hBs.out) (t + 1) hlt2
                              cases e3
                              have hf : Hid (((L.drop 1).take (t + 1)).foldl plusV p0.v = plusV T (L.getD (t + 1) pn0)) := by rw [hTe.out]; exact fold_drop plusV L p0.v t hlt2
                              have hq := hLo.out (t + 1) hlt2
                              generalize L.getD (t + 1) pn0 = q at *
                              have kX : Hid (VlAt (wr.alloc (vlO q.v)) wr.heap.size q.v) := vlNew wr q.v
                              obtain ⟨t0, t1⟩ := kT.out.cells
                              have hdo := fun W => rdo38 ⟨#[43]⟩ T q.v W
                              unfold vlV at hdo
                              have hpl : Hid (doV ⟨#[43]⟩ [T, q.v] = plusV T q) := rfl
                              generalize doV ⟨#[43]⟩ [T, q.v] = S at *
                              clear hq
                              obtain ⟨z0, z1⟩ := kX.out.cells
                              obtain ⟨v0, v1⟩ := (kT.out.alloc (vlO q.v)).cells
                              go_wp2_with (first | (go_at_call 38; refine (hdo _).mono ?_; rintro e w2 ⟨rfl, hb2⟩; have kT2 := (kT.out.alloc (vlO q.v)).grow hb2; have kB2 := (hBs.out.alloc hBs.out.size (vlO q.v)).trans (hb2.mono (hBs.out.alloc hBs.out.size (vlO q.v)).size); obtain ⟨u0, u1⟩ := kT2.cells; obtain ⟨f0, f1⟩ := kT2.frozen))
                              refine ⟨⟨t + 1, S, by omega, by go_num, (by rw [hf.out, ← hpl.out]; rfl), vlSet kT2, trivial, belTwo _ _ kB2 (Nat.le_refl _)⟩, ?_⟩
                              simp [intOf]; omega
                            · have hte : t + 1 = L.length := by omega
                              have hji : ¬ ((t + 1 : Nat) : Int) < (L.length : Int) := by omega
                              rw [List.take_of_length_le (by rw [List.length_drop]; omega)] at hTe
                              have hB2 := hB.trans (hBs.out.mono hB.size)
                              have kA := hA0.out.grow hB2
                              obtain ⟨c0, c1⟩ := kA.cells
                              obtain ⟨f0, f1⟩ := kA.frozen
                              obtain ⟨t0, t1⟩ := kT.out.cells
                              unfold zer at c0 c1
                              clear c0 c1 f0 f1
                              have hn := fun W => rnum_any (1000 * L.length) W
                              have hw1 : IntKind.i64.wrap (1000 * (L.length : Int)) = 1000 * (L.length : Int) := Go.IntWalk.i64_in _ (by omega)
                              have hdv := fun W => rdo38 ⟨#[47]⟩ T (num (1000 * L.length)) W
                              have hRT : Hid (R = doV ⟨#[47]⟩ [T, num (1000 * L.length)]) := by rw [hRR2.out, hTe.out]; rfl
                              rw [← hRT.out] at hdv
                              clear hRT hRR2
                              generalize num (1000 * L.length) = M at *
                              rw [← hw1] at hn
                              clear hw1
                              unfold vlV at hn hdv
                              have hC : Below wr.heap.size wr wr := Below.refl _ _
                              obtain ⟨g0, g1⟩ := kT.out.frozen
                              go_wp2
                              replace hC := hC.drew
                              go_region_with (first | (go_at_call 27; (with_reducible refine (hn _).mono ?_); rintro e w5 ⟨rfl, hq⟩; replace hC := hC.trans (hq.mono hC.size); obtain ⟨t0, t1⟩ := (kT.out.grow hC).cells; obtain ⟨g0, g1⟩ := (kT.out.grow hC).frozen) | (go_at_call 38; (with_reducible refine (hdv _).mono ?_); rintro e w6 ⟨rfl, hq⟩; replace hC := hC.trans (hq.mono hC.size); obtain ⟨t0, t1⟩ := (kT.out.grow hC).cells; obtain ⟨g0, g1⟩ := (kT.out.grow hC).frozen))
                              all_goals
                                have kT3 := vlSet (k := R.kind) (n := R.n) (kT.out.grow hC)
                                have kA3 := VlAt.other (a := .int .i64 R.kind) (b := .int .i64 R.n) (kA.grow hC) (Nat.ne_of_lt hne.out)
                                obtain ⟨t0, t1⟩ := kT3.cells
                                obtain ⟨c0, c1⟩ := kA3.cells
                                obtain ⟨f0, f1⟩ := kA3.frozen
                                unfold zer at c0 c1
                                have hD := belTwo (.int .i64 R.kind) (.int .i64 R.n) (hO0.out.trans ((hB2.trans (hC.mono hB2.size)).mono hO0.out.size)) (Nat.le_of_lt hne.out)
                                go_wp2
                                exact ret_cell2 (v := R) Tryz.results11 rfl (vlSet kA3) rfl ⟨rfl, belTwo _ _ hD (Nat.le_refl _)⟩
                        | false =>
                          exfalso; unfold howB at hh; rw [h1, h2, h3, h4, h5, h6] at hh; cases hh
end Go.Proofs.YtejdmielhaldaaaGreat
