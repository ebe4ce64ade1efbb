/- The document's Make: the walk. -/
import Derived.Test.YtiajafljgfpdcaaGreatRm
namespace Go.Proofs.YtiajafljgfpdcaaGreat
set_option linter.unusedVariables false
open Go.RowKit
set_option maxRecDepth 100000 in
set_option maxHeartbeats 4000000 in
theorem rmake_any (v : Value) (l : List Lb) (w : World) (hv : Lbs w v l) (hr : LbsR l) (hlen : l.length ≤ 100000) : Calls Tryz.prog 80 #[v] w fun e w' => MakeR l w e w' := by
  obtain ⟨a, c, rfl⟩ := hv.shape
  replace hv : Hid (Lbs w (.slice a l.length c) l) := hv
  replace hr : Hid (LbsR l) := hr
  go_enter Tryz.func80, Tryz.ntmps80
  go_wp2
  go_loopw [4] (fun i wr => ∃ k : Nat, k ≤ l.length ∧ i = .int .i64 k ∧ (∀ x ∈ l.take k, IsLb x) ∧ Below w.heap.size w wr) (fun i _ => l.length - (intOf i).toNat)
  case atStart => exact ⟨0, Nat.zero_le _, rfl, fun x hx => by simp at hx, Below.refl _ _⟩
  case round =>
    obtain ⟨k, hk, rfl, hall, hB⟩ := hrel
    have hBz := hB.size
    by_cases hlt : k < l.length
    · have hki : (k : Int) < (l.length : Int) := by omega
      obtain ⟨b, o, rfl, x0, x1⟩ := lb_at (Sls.grow hv.out hB) k hlt
      have hI := fun W => is_any (l.getD k lb0) W (LbsR.at hr.out hlt)
      cases hlb : lbB (l.getD k lb0) with
      | false =>
        have hQ : MkQ l [] 90 := make_lb hlt (fun h => by rw [lbB_iff.2 h] at hlb; cases hlb)
        rw [hlb] at hI
        clear hlb
        generalize l.getD k lb0 = x at *
        obtain ⟨n, u⟩ := x
        unfold lbV lbO at hI
        simp only at hI x0 x1
        go_wp2_with (first | (go_at_call 66; refine (hI _).mono ?_; rintro e wx ⟨rfl, hwx⟩; subst wx))
        go_ret2
        refine ⟨_, [], 90, rfl, hQ, OwnS.nil _ _, ?_⟩
        exact hB.alloc hBz _
      | true =>
        have hst : ∀ x ∈ l.take (k + 1), IsLb x := by
          rw [take_getD l lb0 k hlt]
          intro x hx
          rcases List.mem_append.1 hx with hx | hx
          · exact hall x hx
          · have : x = l.getD k lb0 := by simpa using hx
            rw [this]; exact lbB_iff.1 hlb
        rw [hlb] at hI
        clear hlb
        generalize l.getD k lb0 = x at *
        obtain ⟨n, u⟩ := x
        unfold lbV lbO at hI
        simp only at hI x0 x1
        go_wp2_with (first | (go_at_call 66; refine (hI _).mono ?_; rintro e wx ⟨rfl, hwx⟩; subst wx))
        refine ⟨⟨k + 1, by omega, by go_num, hst, hB.alloc hBz _⟩, ?_⟩
        simp [intOf]; omega
    · obtain rfl : k = l.length := by omega
      have hki : ¬ (l.length : Int) < (l.length : Int) := by omega
      rw [List.take_of_length_le (Nat.le_refl _)] at hall
      replace hall : Hid (∀ x ∈ l, IsLb x) := hall
      go_wp2
      go_loopw [5, 6] (fun u i ws => ∃ (j : Nat) (out : List Lb), j ≤ l.length ∧ i = .int .i64 j ∧ Rise out ∧ out.Perm (l.take j) ∧ OwnL ws w.heap.size u out ∧ Below w.heap.size w ws) (fun _ i _ => l.length - (intOf i).toNat)
      case atStart => exact ⟨0, [], Nat.zero_le _, rfl, List.Pairwise.nil, by simp, OwnS.nil _ _, hB⟩
      case round =>
        clear hB hBz
        obtain ⟨j, out, hj, rfl, hri, hpm, ho, hB⟩ := hrel
        have hBz := hB.size
        have hol : out.length = j := by rw [hpm.length_eq, List.length_take]; omega
        by_cases hlt : j < l.length
        · have hji : (j : Int) < (l.length : Int) := by omega
          obtain ⟨b, o, rfl, x0, x1⟩ := lb_at (Sls.grow hv.out hB) j hlt
          obtain ⟨a5, c5, rfl⟩ := ho.shape
          replace ho : Hid (OwnL wr w.heap.size (.slice a5 out.length c5) out) := ho
          replace hri : Hid (Rise out) := hri
          replace hpm : Hid (out.Perm (l.take j)) := hpm
          replace hol : Hid (out.length = j) := hol
          have hon : out.length ≤ 100000 := by rw [hol.out]; omega
          go_wp2
          go_loopw [7] (fun i ws => ∃ k d : Nat, k ≤ out.length ∧ i = .int .i64 k ∧ Hid (∀ t, t < k → Nlt (out.getD t lb0) (l.getD j lb0)) ∧ ws = wr.drewN d) (fun i _ => out.length - (intOf i).toNat)
          case atStart => exact ⟨0, 0, Nat.zero_le _, rfl, fun t ht => absurd ht (Nat.not_lt_zero _), rfl⟩
          case round =>
            obtain ⟨k, d, hk3, rfl, hlow, rfl⟩ := hrel
            by_cases hlt3 : k < out.length
            · have hki : (k : Int) < (out.length : Int) := by omega
              obtain ⟨b5, o5, rfl, y0, y1⟩ := lb_at ho.out.sls k hlt3
              have hless := nlt_less (out.getD k lb0) (l.getD j lb0)
              by_cases hn : Nlt (out.getD k lb0) (l.getD j lb0)
              · have hst : Hid (∀ t, t < k + 1 → Nlt (out.getD t lb0) (l.getD j lb0)) := fun t ht => by
                  by_cases e : t = k
                  · subst e; exact hn
                  · exact hlow.out t (by omega)
                rw [decide_eq_true hn] at hless
                clear hn
                generalize (out.getD k lb0).name = yn at *
                generalize (l.getD j lb0).name = xn at *
                go_wp2
                go_quiet (fail)
                go_wp2
                refine ⟨⟨k + 1, _, by omega, by go_num, hst, rfl⟩, ?_⟩
                simp [intOf]; omega
              · rw [decide_eq_false hn] at hless
                by_cases he : (out.getD k lb0).name = (l.getD j lb0).name
                · have hQ : MkQ l [] 8 := .inr (.inl ⟨hall.out, there_apart hpm.out hlt hlt3 he, rfl, rfl⟩)
                  rw [he] at y0 hless
                  clear hn he
                  generalize (l.getD j lb0).name = xn at *
                  go_wp2
                  go_quiet (fail)
                  go_wp2
                  go_quiet (fail)
                  go_wp2
                  go_ret2
                  exact ⟨_, [], 8, rfl, hQ, OwnS.nil _ _, below_drewN (below_drewN (below_drewN hB _) _) _⟩
                · have hins : Hid (Rise (out.take k ++ l.getD j lb0 :: out.drop k)) := ins_rise hri.out (by omega) hlow.out (fun _ => nlt_of hn he)
                  have hne := toList_ne he
                  clear hn he
                  have hx0 : Hid (wr.cell? ⟨b, o + j * 2, none⟩ = some (.string (l.getD j lb0).name)) := x0
                  generalize hxn : (l.getD j lb0).name = xn at x0 hless hne
                  generalize (out.getD k lb0).name = yn at *
                  go_wp2
                  go_quiet (fail)
                  rename Nat => nq1
                  go_wp2
                  go_quiet (fail)
                  go_wp2
                  have hBs : Below wr.heap.size wr (((wr.drewN d).drewN nq1).drewN nq) := below_drewN (below_drewN (below_drewN (Below.refl _ _) _) _) _
                  generalize ((wr.drewN d).drewN nq1).drewN nq = ws at hBs ⊢
                  have ho2 := ho.out.stay hBs
                  have hBw := hB.trans (hBs.mono hBz)
                  have hz0 := (hBs.cell (p := ⟨b, o + j * 2, none⟩) (World.block_lt_of_cell? wr _ x0)).trans hx0.out
                  have hz1 := (hBs.cell (p := ⟨b, o + j * 2 + 1, none⟩) (World.block_lt_of_cell? wr _ x1)).trans x1
                  clear x0 x1 y0 y1 hx0
                  generalize Value.slice (some ⟨b5, o5, none⟩) out.length c5 = u5 at ho2 ⊢
                  obtain ⟨v1, hto, hl1⟩ := lbs_to ho2.sls k (by omega)
                  obtain ⟨v2, hfr, hl2⟩ := lbs_from ho2.sls k (by omega)
                  have hpl : Hid ((out.take k ++ l.getD j lb0 :: out.drop k).Perm (l.take (j + 1))) := by
                    show List.Perm _ _
                    rw [take_getD l lb0 j hlt]
                    exact ins_perm hpm.out
                  have hlen1 : (out.take k).length ≤ 100000 := by rw [List.length_take]; omega
                  have hlen2 : (out.drop k).length ≤ 100000 := by rw [List.length_drop]; omega
                  generalize out.take k = L1 at *
                  generalize out.drop k = L2 at *
                  generalize l.getD j lb0 = x at *
                  obtain ⟨xn', xv⟩ := x
                  simp only at hz0 hz1
                  have hS : ∀ W, Below ws.heap.size ws W → W.cell? ⟨b, o + j * 2, none⟩ = some (.string xn') ∧ W.cell? ⟨b, o + j * 2 + 1, none⟩ = some (.string xv) := fun W h => ⟨(h.cell (p := ⟨b, o + j * 2, none⟩) (World.block_lt_of_cell? ws _ hz0)).trans hz0, (h.cell (p := ⟨b, o + j * 2 + 1, none⟩) (World.block_lt_of_cell? ws _ hz1)).trans hz1⟩
                  clear hless hne
                  have hone : ∀ W : World, Lbs (W.alloc (.cells #[.string xn', .string xv] 70)) (.slice (some ⟨W.heap.size, 0, none⟩) 1 1) [⟨xn', xv⟩] := fun W => sls_one W _ _ _ rfl
                  have bA : Below ws.heap.size ws (ws.alloc (.cells #[] 70)).drew := ((Below.refl _ _).alloc (Nat.le_refl _) _).drew
                  have bB : Below ws.heap.size ws ((ws.alloc (.cells #[] 70)).alloc (.cells #[.string xn', .string xv] 70)).drew := (((Below.refl _ _).alloc (Nat.le_refl _) _).alloc (by simp) _).drew
                  have bC : Below ws.heap.size ws ((ws.alloc (.cells #[.string xn', .string xv] 70)).alloc (.cells #[] 70)).drew := (((Below.refl _ _).alloc (Nat.le_refl _) _).alloc (by simp) _).drew
                  have oA : OwnL (ws.alloc (.cells #[] 70)).drew ws.heap.size (.slice (some ⟨ws.heap.size, 0, none⟩) 0 0) [] := own_empty (T := TL) ws ws.heap.size (Nat.le_refl _)
                  have oB : OwnL ((ws.alloc (.cells #[] 70)).alloc (.cells #[.string xn', .string xv] 70)).drew ws.heap.size (.slice (some ⟨ws.heap.size, 0, none⟩) 0 0) [] := OwnS.alloc (own_empty (T := TL) ws ws.heap.size (Nat.le_refl _)) _
                  have oC : OwnL ((ws.alloc (.cells #[.string xn', .string xv] 70)).alloc (.cells #[] 70)).drew ws.heap.size (.slice (some ⟨ws.heap.size + 1, 0, none⟩) 0 0) [] := by
                    have := own_empty (T := TL) (ws.alloc (.cells #[.string xn', .string xv] 70)) ws.heap.size (by simp)
                    rw [World.size_alloc] at this
                    exact this
                  have xB : Lbs ((ws.alloc (.cells #[] 70)).alloc (.cells #[.string xn', .string xv] 70)).drew (.slice (some ⟨ws.heap.size + 1, 0, none⟩) 1 1) [⟨xn', xv⟩] := by
                    have := hone (ws.alloc (.cells #[] 70))
                    rw [World.size_alloc] at this
                    exact this
                  have xC : Lbs ((ws.alloc (.cells #[.string xn', .string xv] 70)).alloc (.cells #[] 70)).drew (.slice (some ⟨ws.heap.size, 0, none⟩) 1 1) [⟨xn', xv⟩] := (hone ws).alloc _
                  go_region_held3 (fun W => W.cell? ⟨b, o + j * 2, none⟩ = some (.string xn') ∧ W.cell? ⟨b, o + j * 2 + 1, none⟩ = some (.string xv)) (first | go_keep | exact hS _ hB3 | exact hS _ hB4 | exact hS _ hB5 | exact hS _ (hB3.alloc hB3.size _)) (first
                    | (refine stepN TL rfl (.tmp 62) (.tmp 65) rfl ws.heap.size (.slice (some ⟨ws.heap.size, 0, none⟩) 0 0) v1 [] L1 rfl rfl oA (hl1.grow bA) bA.size (by simp; omega) ?_; intro v3 w3 ho3 hg3; rw [List.nil_append] at ho3; have hB3 : Below ws.heap.size ws w3 := bA.grown hg3 bA.size (by intro q hq; cases hq; exact Nat.le_refl _))
                    | (refine stepN TL rfl (.tmp 62) (.tmp 65) rfl ws.heap.size (.slice (some ⟨ws.heap.size, 0, none⟩) 0 0) v1 [] L1 rfl rfl oB (hl1.grow bB) bB.size (by simp; omega) ?_; intro v3 w3 ho3 hg3; rw [List.nil_append] at ho3; have hB3 : Below ws.heap.size ws w3 := bB.grown hg3 bB.size (by intro q hq; cases hq; exact Nat.le_refl _); have hx3 := xB.kept hg3 (by simp [Value.ownBlock]))
                    | (refine stepN TL rfl (.tmp 62) (.tmp 65) rfl ws.heap.size (.slice (some ⟨ws.heap.size + 1, 0, none⟩) 0 0) v1 [] L1 rfl rfl oC (hl1.grow bC) bC.size (by simp; omega) ?_; intro v3 w3 ho3 hg3; rw [List.nil_append] at ho3; have hB3 : Below ws.heap.size ws w3 := bC.grown hg3 bC.size (by intro q hq; cases hq; exact Nat.le_succ _); have hx3 := xC.kept hg3 (by simp [Value.ownBlock]))
                    | (refine stepN TL rfl (.tmp 66) (.tmp 71) rfl ws.heap.size v3 (.slice (some ⟨w3.heap.size, 0, none⟩) 1 1) L1 [⟨xn', xv⟩] rfl rfl (ho3.alloc _) (hone w3) (hB3.alloc hB3.size _).size (by simp; omega) ?_; intro v4 w4 ho4 hg4; have hB4 : Below ws.heap.size ws w4 := (hB3.alloc hB3.size _).grown hg4 (hB3.alloc hB3.size _).size (fun q hq => (ho3.lt q hq).1))
                    | (refine stepN TL rfl (.tmp 66) (.tmp 71) rfl ws.heap.size v3 _ L1 [⟨xn', xv⟩] rfl rfl ho3 hx3 hB3.size (by simp; omega) ?_; intro v4 w4 ho4 hg4; have hB4 : Below ws.heap.size ws w4 := hB3.grown hg4 hB3.size (fun q hq => (ho3.lt q hq).1))
                    | (refine stepN TL rfl (.tmp 72) (.tmp 75) rfl ws.heap.size v4 v2 _ L2 rfl rfl ho4 (hl2.grow hB4) hB4.size (by simp; omega) ?_; intro v5 w5 ho5 hg5; have hB5 : Below ws.heap.size ws w5 := hB4.grown hg5 hB4.size (fun q hq => (ho4.lt q hq).1)))
                  all_goals
                    go_wp2
                    refine ⟨⟨j + 1, L1 ++ [⟨xn', xv⟩] ++ L2, by omega, by go_num, ?_, ?_, OwnS.wide ho5 hBw.size, hBw.trans (hB5.mono hBw.size)⟩, ?_⟩
                    · have := hins.out
                      simpa using this
                    · have := hpl.out
                      simpa using this
                    · simp [intOf]; omega
            · obtain rfl : k = out.length := by omega
              have hki : ¬ (out.length : Int) < (out.length : Int) := by omega
              have hins : Hid (Rise (out.take out.length ++ l.getD j lb0 :: out.drop out.length)) := ins_rise hri.out (Nat.le_refl _) hlow.out (fun h => absurd h (by omega))
              have hx0 : Hid (wr.cell? ⟨b, o + j * 2, none⟩ = some (.string (l.getD j lb0).name)) := x0
              obtain ⟨k, hkk⟩ : ∃ k, Hid (k = out.length) := ⟨_, rfl⟩
              go_wp2
              go_quiet (fail)
              rename Nat => nq1
              go_wp2
              go_quiet (fail)
              go_wp2
              have hBs : Below wr.heap.size wr (((wr.drewN d).drewN nq1).drewN nq) := below_drewN (below_drewN (below_drewN (Below.refl _ _) _) _) _
              generalize ((wr.drewN d).drewN nq1).drewN nq = ws at hBs ⊢
              have ho2 := ho.out.stay hBs
              have hBw := hB.trans (hBs.mono hBz)
              have hz0 := (hBs.cell (p := ⟨b, o + j * 2, none⟩) (World.block_lt_of_cell? wr _ x0)).trans hx0.out
              have hz1 := (hBs.cell (p := ⟨b, o + j * 2 + 1, none⟩) (World.block_lt_of_cell? wr _ x1)).trans x1
              clear x0 x1 hx0
              generalize Value.slice a5 out.length c5 = u5 at ho2 ⊢
              obtain ⟨v1, hto, hl1⟩ := lbs_to ho2.sls out.length (Nat.le_refl _)
              obtain ⟨v2, hfr, hl2⟩ := lbs_from ho2.sls out.length (Nat.le_refl _)
              have hpl : Hid ((out.take out.length ++ l.getD j lb0 :: out.drop out.length).Perm (l.take (j + 1))) := by
                show List.Perm _ _
                rw [take_getD l lb0 j hlt]
                exact ins_perm hpm.out
              have hlen1 : (out.take out.length).length ≤ 100000 := by rw [List.length_take]; omega
              have hlen2 : (out.drop out.length).length ≤ 100000 := by rw [List.length_drop]; omega
              generalize out.take out.length = L1 at *
              generalize out.drop out.length = L2 at *
              generalize l.getD j lb0 = x at *
              obtain ⟨xn', xv⟩ := x
              simp only at hz0 hz1
              have hS : ∀ W, Below ws.heap.size ws W → W.cell? ⟨b, o + j * 2, none⟩ = some (.string xn') ∧ W.cell? ⟨b, o + j * 2 + 1, none⟩ = some (.string xv) := fun W h => ⟨(h.cell (p := ⟨b, o + j * 2, none⟩) (World.block_lt_of_cell? ws _ hz0)).trans hz0, (h.cell (p := ⟨b, o + j * 2 + 1, none⟩) (World.block_lt_of_cell? ws _ hz1)).trans hz1⟩
              have hone : ∀ W : World, Lbs (W.alloc (.cells #[.string xn', .string xv] 70)) (.slice (some ⟨W.heap.size, 0, none⟩) 1 1) [⟨xn', xv⟩] := fun W => sls_one W _ _ _ rfl
              have bA : Below ws.heap.size ws (ws.alloc (.cells #[] 70)).drew := ((Below.refl _ _).alloc (Nat.le_refl _) _).drew
              have bB : Below ws.heap.size ws ((ws.alloc (.cells #[] 70)).alloc (.cells #[.string xn', .string xv] 70)).drew := (((Below.refl _ _).alloc (Nat.le_refl _) _).alloc (by simp) _).drew
              have bC : Below ws.heap.size ws ((ws.alloc (.cells #[.string xn', .string xv] 70)).alloc (.cells #[] 70)).drew := (((Below.refl _ _).alloc (Nat.le_refl _) _).alloc (by simp) _).drew
              have oA : OwnL (ws.alloc (.cells #[] 70)).drew ws.heap.size (.slice (some ⟨ws.heap.size, 0, none⟩) 0 0) [] := own_empty (T := TL) ws ws.heap.size (Nat.le_refl _)
              have oB : OwnL ((ws.alloc (.cells #[] 70)).alloc (.cells #[.string xn', .string xv] 70)).drew ws.heap.size (.slice (some ⟨ws.heap.size, 0, none⟩) 0 0) [] := OwnS.alloc (own_empty (T := TL) ws ws.heap.size (Nat.le_refl _)) _
              have oC : OwnL ((ws.alloc (.cells #[.string xn', .string xv] 70)).alloc (.cells #[] 70)).drew ws.heap.size (.slice (some ⟨ws.heap.size + 1, 0, none⟩) 0 0) [] := by
                have := own_empty (T := TL) (ws.alloc (.cells #[.string xn', .string xv] 70)) ws.heap.size (by simp)
                rw [World.size_alloc] at this
                exact this
              have xB : Lbs ((ws.alloc (.cells #[] 70)).alloc (.cells #[.string xn', .string xv] 70)).drew (.slice (some ⟨ws.heap.size + 1, 0, none⟩) 1 1) [⟨xn', xv⟩] := by
                have := hone (ws.alloc (.cells #[] 70))
                rw [World.size_alloc] at this
                exact this
              have xC : Lbs ((ws.alloc (.cells #[.string xn', .string xv] 70)).alloc (.cells #[] 70)).drew (.slice (some ⟨ws.heap.size, 0, none⟩) 1 1) [⟨xn', xv⟩] := (hone ws).alloc _
              go_region_held3 (fun W => W.cell? ⟨b, o + j * 2, none⟩ = some (.string xn') ∧ W.cell? ⟨b, o + j * 2 + 1, none⟩ = some (.string xv)) (first | go_keep | exact hS _ hB3 | exact hS _ hB4 | exact hS _ hB5 | exact hS _ (hB3.alloc hB3.size _)) (first
                | (refine stepN TL rfl (.tmp 62) (.tmp 65) rfl ws.heap.size (.slice (some ⟨ws.heap.size, 0, none⟩) 0 0) v1 [] L1 rfl rfl oA (hl1.grow bA) bA.size (by simp; omega) ?_; intro v3 w3 ho3 hg3; rw [List.nil_append] at ho3; have hB3 : Below ws.heap.size ws w3 := bA.grown hg3 bA.size (by intro q hq; cases hq; exact Nat.le_refl _))
                | (refine stepN TL rfl (.tmp 62) (.tmp 65) rfl ws.heap.size (.slice (some ⟨ws.heap.size, 0, none⟩) 0 0) v1 [] L1 rfl rfl oB (hl1.grow bB) bB.size (by simp; omega) ?_; intro v3 w3 ho3 hg3; rw [List.nil_append] at ho3; have hB3 : Below ws.heap.size ws w3 := bB.grown hg3 bB.size (by intro q hq; cases hq; exact Nat.le_refl _); have hx3 := xB.kept hg3 (by simp [Value.ownBlock]))
                | (refine stepN TL rfl (.tmp 62) (.tmp 65) rfl ws.heap.size (.slice (some ⟨ws.heap.size + 1, 0, none⟩) 0 0) v1 [] L1 rfl rfl oC (hl1.grow bC) bC.size (by simp; omega) ?_; intro v3 w3 ho3 hg3; rw [List.nil_append] at ho3; have hB3 : Below ws.heap.size ws w3 := bC.grown hg3 bC.size (by intro q hq; cases hq; exact Nat.le_succ _); have hx3 := xC.kept hg3 (by simp [Value.ownBlock]))
                | (refine stepN TL rfl (.tmp 66) (.tmp 71) rfl ws.heap.size v3 (.slice (some ⟨w3.heap.size, 0, none⟩) 1 1) L1 [⟨xn', xv⟩] rfl rfl (ho3.alloc _) (hone w3) (hB3.alloc hB3.size _).size (by simp; omega) ?_; intro v4 w4 ho4 hg4; have hB4 : Below ws.heap.size ws w4 := (hB3.alloc hB3.size _).grown hg4 (hB3.alloc hB3.size _).size (fun q hq => (ho3.lt q hq).1))
                | (refine stepN TL rfl (.tmp 66) (.tmp 71) rfl ws.heap.size v3 _ L1 [⟨xn', xv⟩] rfl rfl ho3 hx3 hB3.size (by simp; omega) ?_; intro v4 w4 ho4 hg4; have hB4 : Below ws.heap.size ws w4 := hB3.grown hg4 hB3.size (fun q hq => (ho3.lt q hq).1))
                | (refine stepN TL rfl (.tmp 72) (.tmp 75) rfl ws.heap.size v4 v2 _ L2 rfl rfl ho4 (hl2.grow hB4) hB4.size (by simp; omega) ?_; intro v5 w5 ho5 hg5; have hB5 : Below ws.heap.size ws w5 := hB4.grown hg5 hB4.size (fun q hq => (ho4.lt q hq).1)))
              all_goals
                go_wp2
                refine ⟨⟨j + 1, L1 ++ [⟨xn', xv⟩] ++ L2, by omega, by go_num, ?_, ?_, OwnS.wide ho5 hBw.size, hBw.trans (hB5.mono hBw.size)⟩, ?_⟩
                · have := hins.out
                  simpa using this
                · have := hpl.out
                  simpa using this
                · simp [intOf]; omega
        · obtain rfl : j = l.length := by omega
          have hji : ¬ (l.length : Int) < (l.length : Int) := by omega
          rw [List.take_of_length_le (Nat.le_refl _)] at hpm
          obtain ⟨a5, c5, rfl⟩ := ho.shape
          rw [hol] at ho ⊢
          by_cases h16 : 16 < l.length
          · have hQ : MkQ l [] 6 := .inr (.inr (.inl ⟨hall.out, hri.apart.perm hpm, h16, rfl, rfl⟩))
            have h16i : (16 : Int) < (l.length : Int) := by omega
            go_wp2
            go_ret2
            exact ⟨_, [], 6, rfl, hQ, OwnS.nil _ _, hB⟩
          · have hQ : MkQ l out 0 := .inr (.inr (.inr ⟨hall.out, by omega, rfl, hri, hpm⟩))
            have h16i : ¬ (16 : Int) < (l.length : Int) := by omega
            go_wp2
            go_ret2
            exact ⟨_, out, 0, rfl, hQ, ho, hB⟩
theorem mk_len {l out : List Lb} {e : Int} (h : MkQ l out e) : out.length ≤ l.length := by
  rcases h with ⟨_, _, rfl⟩ | ⟨_, _, _, rfl⟩ | ⟨_, _, _, _, rfl⟩ | ⟨_, _, _, _, h4⟩
  · simp
  · simp
  · simp
  · exact Nat.le_of_eq h4.length_eq
theorem mk_er {l out : List Lb} {e : Int} (h : MkQ l out e) : 0 ≤ e ∧ e ≤ 90 := by
  rcases h with ⟨_, rfl, _⟩ | ⟨_, _, rfl, _⟩ | ⟨_, _, _, rfl, _⟩ | ⟨_, _, rfl, _, _⟩ <;> omega
end Go.Proofs.YtiajafljgfpdcaaGreat
