/- BoardFull: its round. -/
import Derived.Test.YtiajafljgfpdcaaGreatBThBFu
import Derived.Test.YtiajafljgfpdcaaGreatSCkSRk
import Derived.Deep.RegionHeldLaw
namespace Go.Proofs.YtiajafljgfpdcaaGreat
set_option linter.unusedVariables false
open Go.RowKit
theorem own_oneS {α : Type} {E : Enc α} (T : RowTy E) (w : World) (base : Nat) (x : α) (cs : Array Value) (hcs : cs.toList = E.arr x) (h : base ≤ w.heap.size) : OwnS T (w.alloc (.cells cs T.et)) base (.slice (some ⟨w.heap.size, 0, none⟩) 1 1) [x] := by
  have hs : cs.size = E.k := by rw [← Array.length_toList, hcs, E.len]
  have hf : flat E [x] = cs.toList := by simp [flat, hcs]
  exact ⟨by rw [flat_len], .inr ⟨w.heap.size, 1, cs, rfl, h, heap_new _ _, Nat.le_refl _, by unfold maxLen; omega, by rw [hs]; omega, by rw [hf, List.take_of_length_le (by rw [Array.length_toList, hs]; simp)]⟩⟩
theorem own_oneG {α : Type} {E : Enc α} (T : RowTy E) (w : World) (base g : Nat) (x : α) (cs : Array Value) (ty : TypeId) (hg : g = w.heap.size) (hty : ty = T.et) (hcs : cs.toList = E.arr x) (h : base ≤ w.heap.size) : OwnS T (w.alloc (.cells cs ty)) base (.slice (some ⟨g, 0, none⟩) 1 1) [x] := by
  subst hg hty
  exact own_oneS T w base x cs hcs h
theorem bel_app {A B C : World} (h : Below A.heap.size A B) (h2 : Below B.heap.size B C) : Below A.heap.size A C := h.trans (h2.mono h.size)
theorem bel_al {A B : World} (h : Below A.heap.size A B) (o : Obj) : Below A.heap.size A (B.alloc o) := h.alloc h.size o
theorem full_end {w wr X w5 : World} {u : Value} {R : List Rn} (hB : Below w.heap.size w wr) (hO : OwnS TR wr w.heap.size u R) (hX : Below wr.heap.size wr X) (hg : X.grownBy w5 u.ownBlock) : Below w.heap.size w w5 := by
  have h1 : Below w.heap.size w X := hB.trans (hX.mono hB.size)
  exact h1.trans (OwnS.grows (OwnS.stay hO hX) h1.size hg)
/-- string(..) of two bytes that were laid. -/
theorem conv_two {W X : World} (a b : Nat) (ha : a < 256) (hb : b < 256) (h : Below (W.alloc (.cells #[.int .u8 (a : Int), .int .u8 (b : Int)] 5)).heap.size (W.alloc (.cells #[.int .u8 (a : Int), .int .u8 (b : Int)] 5)) X) :
    (convert 43 9 (.slice (some ⟨W.heap.size, 0, none⟩) 2 2)).run Tryz.prog X = .ok (.string ⟨#[UInt8.ofNat a, UInt8.ofNat b]⟩) X := by
  have hbts : Bts X (.slice (some ⟨W.heap.size, 0, none⟩) 2 2) [(a : Int), (b : Int)] := by
    refine ⟨_, 2, rfl, ⟨(fun e => by cases e), Nat.le_refl _⟩, .inr ⟨W.heap.size, 0, rfl, fun t _ ht => ?_⟩⟩
    have hx : X.heap[W.heap.size]? = some (.cells #[.int .u8 (a : Int), .int .u8 (b : Int)] 5 (0, 0)) := (h.block W.heap.size (by simp)).trans (heap_new _ _)
    have ht2 : t = 0 ∨ t = 1 := by
      have : t < 2 := ht
      omega
    rcases ht2 with rfl | rfl <;> (unfold World.cell?; rw [hx]; rfl)
  have := conv_str hbts
  rw [this]
  simp [strOfNums]
set_option maxRecDepth 100000 in
set_option maxHeartbeats 4000000 in
theorem full_walk (n more : Int) (w : World) (hn : I64 n) (hm : I64 more) : Calls Tryz.prog 6 #[.int .i64 n, .int .i64 more] w fun e w' => e = .returned (.bool true) ∧ Below w.heap.size w w' := by
  have hL := fun W => live10 W
  by_cases h0 : 0 ≤ n ∧ n ≤ 110 ∧ 0 ≤ more ∧ more ≤ 20
  · obtain ⟨N, rfl⟩ : ∃ N : Nat, n = N := ⟨n.toNat, by omega⟩
    obtain ⟨M, rfl⟩ : ∃ M : Nat, more = M := ⟨more.toNat, by omega⟩
    have j1 : ¬ (N : Int) < 0 := by omega
    have j2 : ¬ (110 : Int) < (N : Int) := by omega
    have j3 : ¬ (M : Int) < 0 := by omega
    have j4 : ¬ (20 : Int) < (M : Int) := by omega
    have hN : N ≤ 110 := by omega
    have hM : M ≤ 20 := by omega
    have w0 : IntKind.i64.wrap ((N : Int) + (M : Int)) = (N : Int) + (M : Int) := Go.IntWalk.i64_in _ (by omega)
    clear h0 hn hm
    go_enter Tryz.func6, Tryz.ntmps6
    go_wp2
    clear j1 j2 j3 j4
    go_loopw [5, 6] (fun lv i wr => ∃ (k : Nat) (R : List Rn), k ≤ N + M ∧ i = .int .i64 k ∧ R.length = k ∧ Hid (OwnS TR wr w.heap.size lv R) ∧ Hid (R.map (·.r) = (List.range k).map rF) ∧ Hid (∀ e ∈ R, OwnL wr w.heap.size e.sv.v e.r.ls) ∧ Hid (Below w.heap.size w wr)) (fun _ i _ => N + M - (intOf i).toNat)
    case atStart => exact ⟨0, [], Nat.zero_le _, rfl, rfl, OwnS.nil _ _, (rfl : ([] : List Rn).map (·.r) = (List.range 0).map rF), (show ∀ e ∈ ([] : List Rn), _ by simp), Below.refl _ _⟩
    case round =>
      obtain ⟨k, R, hk, rfl, hRl, hR, hRm, hRo, hB⟩ := hrel
      by_cases hlt : k < N + M
      · have hki : (k : Int) < (N : Int) + (M : Int) := by omega
        obtain ⟨a, ha⟩ : ∃ a : Nat, a = k / 26 := ⟨_, rfl⟩
        obtain ⟨b, hb⟩ : ∃ b : Nat, b = k % 26 := ⟨_, rfl⟩
        have q1 : ((k : Int)).tdiv 26 = (a : Int) := by rw [Int.tdiv_eq_ediv_of_nonneg (by omega)]; omega
        have q2 : ((k : Int)).tmod 26 = (b : Int) := by rw [Int.tmod_eq_emod_of_nonneg (by omega)]; omega
        have q3 : IntKind.i64.wrap (a : Int) = (a : Int) := Go.IntWalk.i64_in _ (by omega)
        have q4 : IntKind.i64.wrap (b : Int) = (b : Int) := Go.IntWalk.i64_in _ (by omega)
        have q5 : IntKind.i64.wrap (97 + (a : Int)) = ((97 + a : Nat) : Int) := by rw [Go.IntWalk.i64_in _ (by omega)]; omega
        have q6 : IntKind.i64.wrap (97 + (b : Int)) = ((97 + b : Nat) : Int) := by rw [Go.IntWalk.i64_in _ (by omega)]; omega
        have q7 : IntKind.u8.wrap ((97 + a : Nat) : Int) = ((97 + a : Nat) : Int) := Go.IntWalk.u8_in _ (by omega)
        have q8 : IntKind.u8.wrap ((97 + b : Nat) : Int) = ((97 + b : Nat) : Int) := Go.IntWalk.u8_in _ (by omega)
        have hA : 97 + a < 256 := by omega
        have hBb : 97 + b < 256 := by omega
        have hvF : vF k = ⟨#[UInt8.ofNat (97 + a), UInt8.ofNat (97 + b)]⟩ := by rw [ha, hb]; rfl
        generalize 97 + a = A at *
        generalize 97 + b = B at *
        have hn1 : ∀ W, Calls Tryz.prog 29 #[.int .i64 1] W fun e w' => e = .returned (.agg #[.int .i64 1, .int .i64 1]) ∧ Below W.heap.size W w' := fun W => S.rnum20 1 W (by decide) (by decide)
        have hc1 := conv_two (W := wr) A B hA hBb (Below.refl _ _).drew
        clear ha hb
        replace hvF : Hid _ := hvF
        replace hL : Hid _ := hL
        go_upto_region 7 with fail
        have hOR := hR.out
        go_region_law (first
          | (go_simp; go_at_call 29; refine (hn1 _).mono ?_; rintro e w3 ⟨rfl, hb3⟩; have hc4 := conv_two (W := w3) A B hA hBb (Below.refl _ _); try (have hc3 := conv_two (W := wr) A B hA hBb (bel_app ((Below.refl _ _).drew) hb3)))
          | (refine stepR TR rfl (.tmp 35) (.tmp 50) rfl w.heap.size u5 _ 1 1 R [⟨⟨some ⟨_, 0, none⟩, 1, 1⟩, ⟨lF k, 2, 1, 1⟩⟩] (by first | rfl | simp [Act.eval] | simp [Act.eval, Act.put]) (by first | rfl | simp [Act.eval] | simp [Act.eval, Act.put]) (OwnS.stay hOR (by repeat (first | exact Below.refl _ _ | refine bel_al ?_ _ | refine Below.drew ?_ | refine bel_app ?_ hb3))) (sls_one _ _ _ 59 rfl) (Nat.le_trans hB.out.size (Below.size (B := wr.heap.size) (w := wr) (by repeat (first | exact Below.refl _ _ | refine bel_al ?_ _ | refine Below.drew ?_ | refine bel_app ?_ hb3)))) (by simp; omega) ?_; intro y' w5 ho5 hg5))
        all_goals
          go_wp2
          refine ⟨⟨k + 1, _, by omega, by go_num, ?_, ho5, ?_, ?_, ?_⟩, ?_⟩
          · simp; omega
          · show (R ++ [_]).map _ = _
            rw [List.map_append, hRm.out, List.range_succ, List.map_append]; rfl
          · show ∀ e ∈ R ++ [_], OwnL w5 w.heap.size e.sv.v e.r.ls
            intro e he
            rcases List.mem_append.1 he with he | he
            · exact own_by (OwnS.stay (hRo.out e he) (by repeat (first | exact Below.refl _ _ | refine bel_al ?_ _ | refine Below.drew ?_ | refine bel_app ?_ hb3))) (by decide) (OwnS.stay hOR (by repeat (first | exact Below.refl _ _ | refine bel_al ?_ _ | refine Below.drew ?_ | refine bel_app ?_ hb3))) hg5
            · rw [List.mem_singleton.1 he]
              refine own_by (T2 := TR) (m := R) ?_ (by decide) (OwnS.stay hOR (by repeat (first | exact Below.refl _ _ | refine bel_al ?_ _ | refine Below.drew ?_ | refine bel_app ?_ hb3))) hg5
              refine OwnS.alloc ?_ _
              show OwnS TL _ _ _ [⟨⟨#[105]⟩, vF k⟩]
              rw [hvF.out]
              repeat (first
                | exact own_oneG TL _ _ _ _ _ _ (by simp) rfl rfl (Nat.le_trans hB.out.size (Below.size (B := wr.heap.size) (w := wr) (by repeat (first | exact Below.refl _ _ | refine bel_al ?_ _ | refine Below.drew ?_ | refine bel_app ?_ hb3))))
                | refine OwnS.stay ?_ ((Below.refl _ _).drew)
                | refine OwnS.stay ?_ hb3)
          · exact full_end hB.out hOR (by repeat (first | exact Below.refl _ _ | refine bel_al ?_ _ | refine Below.drew ?_ | refine bel_app ?_ hb3)) hg5
          · simp [intOf]; omega
      · obtain rfl : k = N + M := by omega
        have hki : ¬ ((N + M : Nat) : Int) < (N : Int) + (M : Int) := by omega
        have hki2 : ¬ (N : Int) + (M : Int) < (N : Int) + (M : Int) := by omega
        obtain ⟨v2, hv2r, hv2⟩ := rns_to hR.out.sls N (by omega)
        have hRn : Hid (Rns wr u5 R) := ⟨hR.out.sls, fun e he => (hRo.out e he).sls⟩
        have hR2 : Hid (Rns wr v2 (R.take N)) := ⟨hv2, fun e he => hRn.out.2 e (List.mem_of_mem_take he)⟩
        have hRm2 : Hid ((R.take N).map (·.r) = (List.range N).map rF) := by
          show _ = _
          rw [List.map_take, hRm.out, ← List.map_take, List.take_range, Nat.min_eq_left (by omega)]
        obtain ⟨W4, hW4⟩ : ∃ W4, W4 = wr.alloc (.cells #[.int .i64 0, .int .i64 0, .int .i64 1, .int .i64 1] 23) := ⟨_, rfl⟩
        have hb4 : Below wr.heap.size wr W4 := by rw [hW4]; exact (Below.refl _ wr).alloc (Nat.le_refl _) _
        have hk4 : W4.heap[wr.heap.size]? = some (.cells #[.int .i64 0, .int .i64 0, .int .i64 1, .int .i64 1] 23 (0, 0)) := by rw [hW4]; exact heap_new _ _
        have x0 : W4.cell? ⟨wr.heap.size, 0, none⟩ = some (.int .i64 0) := by unfold World.cell?; rw [hk4]; rfl
        have x1 : W4.cell? ⟨wr.heap.size, 1, none⟩ = some (.int .i64 0) := by unfold World.cell?; rw [hk4]; rfl
        have x2 : W4.cell? ⟨wr.heap.size, 2, none⟩ = some (.int .i64 1) := by unfold World.cell?; rw [hk4]; rfl
        have x3 : W4.cell? ⟨wr.heap.size, 3, none⟩ = some (.int .i64 1) := by unfold World.cell?; rw [hk4]; rfl
        have keep : ∀ X {b o : Nat} {u : Value}, Below W4.heap.size W4 X → W4.cell? ⟨b, o, none⟩ = some u → X.cell? ⟨b, o, none⟩ = some u := fun X b o u hX h => (hX.cell (p := ⟨b, o, none⟩) (World.block_lt_of_cell? W4 _ h)).trans h
        have hB4 : Hid (Below w.heap.size w W4) := hB.out.trans (hb4.mono hB.out.size)
        have hU1 : ∀ W, Below W4.heap.size W4 W → _ := fun W hW => upF1 v2 (R.take N) N W (hR2.out.grow (hb4.trans (hW.mono hb4.size))) hRm2.out (by omega)
        obtain ⟨m, hm⟩ : ∃ m, m = min N 100 := ⟨_, rfl⟩
        obtain ⟨n2, hn2⟩ : ∃ n2, n2 = max m (min (N + M) 100) := ⟨_, rfl⟩
        obtain ⟨d, hd⟩ : ∃ d, d = n2 - m := ⟨_, rfl⟩
        rw [← hm] at hU1
        have hU2 : Hid (∀ W (y : Value) (E : List En), Below W4.heap.size W4 W → Ens W y E → E.map enF = bF 0 0 m → Calls Tryz.prog 11 #[y, .agg #[.int .i64 0, .int .i64 0, .int .i64 1, .int .i64 1], .slice none 0 0, .int .i64 5, .int .i64 5, u5] W fun e w' => ∃ G, UpA W (bF 5 m n2) G e w' ∧ G.length = d) := fun W y E hW hE hEm => by
          rw [hd, hn2]
          exact upF2 y u5 E R m (N + M) W hE hEm (hRn.out.grow (hb4.trans (hW.mono hb4.size))) hRm.out (by omega) (by omega) (by omega)
        have f1 : min (N : Int) 100 = (m : Int) := by omega
        have f2 : min ((N : Int) + (M : Int)) 100 = (n2 : Int) := by omega
        have f3 : (n2 : Int) - (m : Int) = (d : Int) := by omega
        have f4 : IntKind.i64.wrap (d : Int) = (d : Int) := Go.IntWalk.i64_in _ (by omega)
        have hn2l : n2 ≤ 100 := by omega
        clear hv2 hk4 hR hRm hRo hRn hR2 hRm2 hd hn2 hm
        go_upto_region 9 with fail
        rw [← hW4]
        clear hW4 hki hki2
        have hBc : Below W4.heap.size W4 W4.drew := (Below.refl _ W4).drew
        go_region_held3 (fun X => X.cell? ⟨wr.heap.size, 0, none⟩ = some (.int .i64 0) ∧ X.cell? ⟨wr.heap.size, 1, none⟩ = some (.int .i64 0) ∧ X.cell? ⟨wr.heap.size, 2, none⟩ = some (.int .i64 1) ∧ X.cell? ⟨wr.heap.size, 3, none⟩ = some (.int .i64 1)) (go_keep) (first
          | (go_at_call 11; refine (hU1 _ hBc).mono ?_; rintro e w6 ⟨G1, y, z, E, C, rfl, hE, hC, hEm, hCm, hb6⟩; have hB6 : Below W4.heap.size W4 w6 := hBc.trans (hb6.mono hBc.size); have t0 := keep _ hB6 x0; have t1 := keep _ hB6 x1; have t2 := keep _ hB6 x2; have t3 := keep _ hB6 x3))
        have hU3 := hU2.out w6 y E hB6 hE hEm
        have hEl := bF_len hEm
        obtain ⟨ya, yc, hy⟩ := hE.1.shape
        rw [hEl] at hy
        subst hy
        clear hU1 hU2 x0 x1 x2 x3 keep hE hC hEm hCm hb6 hEl
        go_upto_region 11 with (go_at_call 11; refine hU3.mono ?_; rintro e w7 ⟨G2, ⟨y2, z2, E2, C2, rfl, hE2, hC2, hEm2, hCm2, hb7⟩, hGl⟩)
        have hEl2 := bF_len hEm2
        have hCl2 : C2.length = d := by rw [← hGl, ← hCm2]; simp
        obtain ⟨ya2, yc2, hy2⟩ := hE2.1.shape
        obtain ⟨za2, zc2, hz2⟩ := hC2.1.shape
        rw [hEl2] at hy2
        rw [hCl2] at hz2
        subst hy2 hz2
        have hmem := bF_mem hEm2
        have hB7 : Hid (Below w.heap.size w w7) := hB4.out.trans ((hB6.trans (hb7.mono hB6.size)).mono hB4.out.size)
        replace hmem : Hid _ := hmem
        replace hE2 : Hid (Ens w7 (.slice ya2 n2 yc2) E2) := hE2
        replace hEl2 : Hid _ := hEl2
        clear hC2 hEm2 hCm2 hb7 hGl hCl2 hU3 t0 t1 t2 t3 hBc hB6
        go_wp2
        go_loopw [12] (fun i wx => ∃ k : Nat, k ≤ n2 ∧ i = .int .i64 k ∧ Hid (Below w7.heap.size w7 wx)) (fun i _ => n2 - (intOf i).toNat)
        case atStart => exact ⟨0, Nat.zero_le _, rfl, Below.refl _ _⟩
        case round =>
          obtain ⟨k, hk2, rfl, hBx⟩ := hrel
          by_cases hlt2 : k < n2
          · have hki3 : (k : Int) < (n2 : Int) := by omega
            obtain ⟨bb, o, rfl, hat⟩ := en_at (hE2.out.grow hBx.out).1 k (by rw [hEl2.out]; exact hlt2)
            obtain ⟨y0, y1, y2, y3, y4, y5, y6, y7⟩ := at_en hat
            obtain ⟨i0, _, _, hx0⟩ := hmem.out _ (getD_mem E2 en0 k (by rw [hEl2.out]; exact hlt2))
            have hch : ∀ W, _ := fun W => S.rcheck12 (E2.getD k en0).x W
            rw [hx0, chE_F] at hch
            have hse := seen_F m i0
            rw [hx0] at y1 y2 y3 y4 y5 y6 y7
            generalize (if i0 < m then xOld 5 else xNew 5) = xx at *
            rw [hse] at y5
            unfold S.encI at hch
            rw [hse] at hch
            clear hat y0 hx0 hse
            go_wp2_with (go_at_call 30; refine (hch _).mono ?_; rintro e w8 ⟨rfl, hb8⟩)
            refine ⟨⟨k + 1, by omega, by go_num, hBx.out.trans (hb8.mono hBx.out.size)⟩, ?_⟩
            simp [intOf]; omega
          · obtain rfl : k = n2 := by omega
            have hki3 : ¬ (k : Int) < (k : Int) := by omega
            go_wp2_with (go_at_call 10; refine (hL _).mono ?_; rintro e w1 ⟨rfl, hb1⟩)
            go_ret
            have hBw := hB7.out.trans (hBx.out.mono hB7.out.size)
            exact ⟨rfl, hBw.trans (hb1.mono hBw.size)⟩
  · by_cases c1 : n < 0
    · go_enter Tryz.func6, Tryz.ntmps6
      go_wp2_with (go_at_call 10; refine (hL _).mono ?_; rintro e w1 ⟨rfl, hb1⟩)
      go_ret
      exact ⟨rfl, hb1⟩
    · by_cases c2 : (110 : Int) < n
      · go_enter Tryz.func6, Tryz.ntmps6
        go_wp2_with (go_at_call 10; refine (hL _).mono ?_; rintro e w1 ⟨rfl, hb1⟩)
        go_ret
        exact ⟨rfl, hb1⟩
      · by_cases c3 : more < 0
        · go_enter Tryz.func6, Tryz.ntmps6
          go_wp2_with (go_at_call 10; refine (hL _).mono ?_; rintro e w1 ⟨rfl, hb1⟩)
          go_ret
          exact ⟨rfl, hb1⟩
        · have c4 : (20 : Int) < more := by omega
          go_enter Tryz.func6, Tryz.ntmps6
          go_wp2_with (go_at_call 10; refine (hL _).mono ?_; rintro e w1 ⟨rfl, hb1⟩)
          go_ret
          exact ⟨rfl, hb1⟩
end Go.Proofs.YtiajafljgfpdcaaGreat
