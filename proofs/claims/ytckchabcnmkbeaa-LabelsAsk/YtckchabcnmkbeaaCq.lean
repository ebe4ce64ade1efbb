/- slices.Compact at labels: the walk. -/
import Derived.Test.YtckchabcnmkbeaaCp
namespace Go.Proofs.Ytckchabcnmkbeaa
set_option linter.unusedVariables false
open Go.RowKit
theorem cpt_one {l : List Lb} (h : l.length < 2) : cpt l = l := by
  match l, h with
  | [], _ => rfl
  | [a], _ => rfl
theorem zeros_len (n : Nat) : (Builtin.zeroCells (Value.agg #[.string ⟨#[]⟩, .string ⟨#[]⟩]).cells n).toList.length = n * 2 := by
  simp [Builtin.zeroCells, Value.cells]
theorem zeros_one (n : Nat) : ∀ v ∈ (Builtin.zeroCells (Value.agg #[.string ⟨#[]⟩, .string ⟨#[]⟩]).cells n).toList, v.oneCell' = true := by
  intro v hv
  simp [Builtin.zeroCells, Value.cells] at hv
  obtain ⟨a, _, rfl⟩ := hv
  have h2 : a % 2 = 0 ∨ a % 2 = 1 := by omega
  rcases h2 with h | h <;> rw [h] <;> rfl
/-- clear(s[k:]). -/
theorem clear_any {w : World} {g : Nat} {L : List Lb} (h : RowL w g L) (k : Nat) (hk : k < L.length) (c : Nat) (ty : TypeId) :
    (Builtin.clear_ #[22] ty #[.slice (some ⟨g, k * 2, none⟩) (L.length - k) c]).run Try.prog w = .ok (.tuple #[]) (w.setCells g (k * 2) (Builtin.zeroCells (Value.agg #[.string ⟨#[]⟩, .string ⟨#[]⟩]).cells (L.length - k)).toList) := by
  have hcell : ∀ x, x < L.length * 2 → (w.cell? ⟨g, x, none⟩).isSome = true := fun x hx => by
    obtain ⟨h1, h2⟩ := h.1 (x / 2) (by omega)
    have hm : x = x / 2 * 2 ∨ x = x / 2 * 2 + 1 := by omega
    rcases hm with hm | hm
    · rw [hm, h1]; rfl
    · rw [hm, h2]; rfl
  have hst := run_storeCells_cells (P := Try.prog) g (k * 2) (Builtin.zeroCells (Value.agg #[.string ⟨#[]⟩, .string ⟨#[]⟩]).cells (L.length - k)).toList 0 w
    (fun j hj => by rw [zeros_len] at hj; exact hcell _ (by omega)) (fun j hj => h.2 _) (zeros_one _)
  simp only [Nat.add_zero] at hst
  obtain ⟨m, hm⟩ : ∃ m, L.length - k = m + 1 := ⟨L.length - k - 1, by omega⟩
  rw [hm] at hst ⊢
  simp [Builtin.clear_, run_underlying Try.underlying22, Try.zeroValue52, hst]
theorem lbs_setCells {w : World} {g n cap k : Nat} {l : List Lb} {vs : List Value} (h : Lbs w (.slice (some ⟨g, 0, none⟩) n cap) l) (hk : n ≤ k) : Lbs (w.setCells g (k * 2) vs) (.slice (some ⟨g, 0, none⟩) n cap) l := by
  obtain ⟨a, c, e, hn, h⟩ := h
  have hln : n = l.length := by cases e; rfl
  refine ⟨a, c, e, hn, ?_⟩
  rcases h with h | ⟨b, o, e2, h⟩
  · exact .inl h
  · cases e
    cases e2
    refine .inr ⟨g, 0, rfl, fun t ht i u hu => ?_⟩
    have hi : i < 2 := by
      have : i < (encL.arr (l.getD t encL.d)).length := by
        rcases Nat.lt_or_ge i (encL.arr (l.getD t encL.d)).length with h | h
        · exact h
        · rw [List.getElem?_eq_none h] at hu; cases hu
      rw [encL.len] at this
      exact this
    rw [World.cell?_setCells_out g vs (k * 2) w _ (fun _ _ => .inl (by show 0 + t * 2 + i < k * 2; omega))]
    exact h t ht i u hu
set_option maxRecDepth 100000 in
set_option maxHeartbeats 4000000 in
theorem compact_some (l : List Lb) (g cap : Nat) (w : World) (hrow : RowL w g l) (hn : 2 ≤ l.length) (hl : l.length ≤ 1000000) (hcap : l.length ≤ cap) (hcm : cap ≤ maxLen) :
    Calls Try.prog 39 #[.slice (some ⟨g, 0, none⟩) l.length cap] w fun e w' => ∃ u, e = .returned u ∧ Lbs w' u (cpt l) ∧ Below g w w' := by
  have hni : ¬ (l.length : Int) < 2 := by omega
  obtain ⟨n, hN⟩ : ∃ n, Hid (n = l.length) := ⟨_, rfl⟩
  rw [← hN.out] at hn hl hcap hni ⊢
  replace hrow : Hid (RowL w g l) := hrow
  unfold maxLen at hcm
  go_enter Try.func39, Try.ntmps39
  go_wp2
  go_loopw [3] (fun i wr => ∃ k d : Nat, 1 ≤ k ∧ k ≤ n ∧ i = .int .i64 k ∧ Hid (cpt (l.take k) = l.take k) ∧ wr = w.drewN d) (fun i _ => n - (intOf i).toNat)
  case atStart => exact ⟨1, 0, by omega, by omega, rfl, cpt_one (by rw [List.length_take]; omega), rfl⟩
  case round =>
    obtain ⟨k, d, hk1, hkn, rfl, hcp, rfl⟩ := hrel
    by_cases hlt : k < n
    · obtain ⟨j, rfl⟩ : ∃ j, k = j + 1 := ⟨k - 1, by omega⟩
      have hki : ((j + 1 : Nat) : Int) < (n : Int) := by omega
      have hll : j + 1 < l.length := by rw [← hN.out]; exact hlt
      obtain ⟨x0, x1⟩ := hrow.out.1 (j + 1) hll
      obtain ⟨y0, y1⟩ := hrow.out.1 j (by omega)
      have hct := cpt_take l j hll
      by_cases hpq : l.getD j lb0 = l.getD (j + 1) lb0
      · have hI : Hid (CptI l (j + 1 + 1) (j + 1) l) := CptI.start hll hcp.out hpq
        rw [← hpq] at x0 x1
        clear hct hpq
        generalize l.getD j lb0 = x at *
        obtain ⟨nx, vx⟩ := x
        simp only at x0 x1 y0 y1
        go_wp2
        go_quiet (fail)
        go_wp2
        clear x0 x1 y0 y1
        go_loopw [3, 5] (fun s3 s5 wr => ∃ (kk i : Nat) (L : List Lb), s3 = .int .i64 kk ∧ s5 = .int .i64 ((i + 1 : Nat) : Int) ∧ Hid (CptI l (j + 1 + i + 1) kk L) ∧ Hid (RowL wr g L) ∧ Hid (Below g w wr)) (fun _ s5 _ => n - (intOf s5).toNat)
        case atStart => exact ⟨j + 1, 0, l, rfl, rfl, hI, hrow.out.drewN _, below_drewN (Below.refl _ _) _⟩
        case round =>
          obtain ⟨kk, i, L, rfl, rfl, hI2, hR2, hB2⟩ := hrel
          have hkk := hI2.out.m1
          have hml := hI2.out.ml
          rw [← hN.out] at hml
          have hLl : Hid (L.length = n) := hI2.out.len.trans hN.out.symm
          by_cases hlt2 : j + 1 + i + 1 < n
          · have hll2 : j + 1 + i + 1 < l.length := by rw [← hN.out]; exact hlt2
            obtain ⟨x0, x1⟩ := hR2.out.1 (j + 1 + i + 1) (by rw [hLl.out]; exact hlt2)
            obtain ⟨y0, y1⟩ := hR2.out.1 (j + 1 + i) (by rw [hLl.out]; omega)
            obtain ⟨z0, z1⟩ := hR2.out.1 kk (by rw [hLl.out]; omega)
            rw [hI2.out.high (j + 1 + i + 1) (by omega) hll2] at x0 x1
            rw [hI2.out.high (j + 1 + i) (by omega) (by omega)] at y0 y1
            rw [show (j + 1 + i + 1) * 2 = (j + 1) * 2 + (i + 1) * 2 by omega] at x0 x1
            rw [show (j + 1 + i) * 2 = (j + 1) * 2 + i * 2 by omega] at y0 y1
            have hf := hR2.out.2
            have hdc : decide (((i + 1 : Nat) : Int) < ((n - (j + 1) : Nat) : Int)) = true := by simp; omega
            by_cases hpq : l.getD (j + 1 + i) lb0 = l.getD (j + 1 + i + 1) lb0
            · have hI3 : Hid (CptI l (j + 1 + i + 1 + 1) kk L) := hI2.out.skip hll2 hpq
              rw [← hpq] at x0 x1
              clear hpq z0 z1 hf
              generalize l.getD (j + 1 + i) lb0 = x at *
              obtain ⟨nx, vx⟩ := x
              simp only at x0 x1 y0 y1
              go_wp2
              go_quiet (fail)
              go_wp2
              refine ⟨⟨kk, i + 1, L, rfl, by go_num, hI3, hR2.out.drewN _, below_drewN hB2.out _⟩, ?_⟩
              simp [intOf]; omega
            · have hI3 : Hid (CptI l (j + 1 + i + 1 + 1) (kk + 1) (L.set kk (l.getD (j + 1 + i + 1) lb0))) := hI2.out.keep hll2 hpq
              have hR3 : Hid (∀ d, RowL (((wr.drewN d).setCell ⟨g, kk * 2, none⟩ (.string (l.getD (j + 1 + i + 1) lb0).name)).setCell ⟨g, kk * 2 + 1, none⟩ (.string (l.getD (j + 1 + i + 1) lb0).value)) g (L.set kk (l.getD (j + 1 + i + 1) lb0))) := fun d => (hR2.out.drewN d).set (by rw [hLl.out]; omega) _
              have hb3 : (((l.getD (j + 1 + i + 1) lb0).name.toList == (l.getD (j + 1 + i) lb0).name.toList) = false) ∨ (((l.getD (j + 1 + i + 1) lb0).name.toList == (l.getD (j + 1 + i) lb0).name.toList) = true ∧ ((l.getD (j + 1 + i + 1) lb0).value.toList == (l.getD (j + 1 + i) lb0).value.toList) = false) := by
                cases e2 : ((l.getD (j + 1 + i + 1) lb0).name.toList == (l.getD (j + 1 + i) lb0).name.toList) with
                | false => exact .inl rfl
                | true =>
                  cases e3 : ((l.getD (j + 1 + i + 1) lb0).value.toList == (l.getD (j + 1 + i) lb0).value.toList) with
                  | false => exact .inr ⟨rfl, rfl⟩
                  | true =>
                    exfalso
                    exact hpq (lb_ext (toList_eq e2).symm (toList_eq e3).symm)
              clear hpq
              generalize l.getD (j + 1 + i + 1) lb0 = x at *
              generalize l.getD (j + 1 + i) lb0 = y at *
              obtain ⟨nx, vx⟩ := x
              obtain ⟨ny, vy⟩ := y
              simp only at x0 x1 y0 y1 hR3 hb3
              have hkki : (kk : Int) < (n : Int) := by omega
              rcases hb3 with e1 | ⟨e1, e2⟩
              all_goals
                go_wp2
                go_quiet (fail)
                go_wp2
                refine ⟨⟨kk + 1, i + 1, _, by go_num, by go_num, hI3, hR3.out _, ?_⟩, ?_⟩
                · exact ((below_drewN hB2.out _).setCell (Nat.le_refl _) _).setCell (Nat.le_refl _) _
                · simp [intOf]; omega
          · have hme : j + 1 + i + 1 = n := by omega
            have hlow : Hid (L.take kk = cpt l) := by
              show _ = _
              rw [hI2.out.low, List.take_of_length_le (by rw [← hN.out]; omega)]
            have hdc : decide (((i + 1 : Nat) : Int) < ((n - (j + 1) : Nat) : Int)) = false := by simp; omega
            have hcl := fun c ty => clear_any hR2.out kk (by rw [hLl.out]; omega) c ty
            rw [hLl.out] at hcl
            have hsl := hR2.out.sls (n := kk) (cap := cap) (by rw [hLl.out]; omega) (by omega)
            rw [hlow.out] at hsl
            have hkki : (kk : Int) ≤ (n : Int) := by omega
            go_wp2
            go_ret
            exact ⟨_, rfl, lbs_setCells hsl (Nat.le_refl _), hB2.out.trans (Lib.below_setCells_w (Nat.le_refl _) _ _ _)⟩
      · have hst : Hid (cpt (l.take (j + 1 + 1)) = l.take (j + 1 + 1)) := by
          show _ = _
          rw [hct, if_neg hpq, hcp.out, take_getD l lb0 (j + 1) hll]
        have hb3 : (((l.getD (j + 1) lb0).name.toList == (l.getD j lb0).name.toList) = false) ∨ (((l.getD (j + 1) lb0).name.toList == (l.getD j lb0).name.toList) = true ∧ ((l.getD (j + 1) lb0).value.toList == (l.getD j lb0).value.toList) = false) := by
          cases e2 : ((l.getD (j + 1) lb0).name.toList == (l.getD j lb0).name.toList) with
          | false => exact .inl rfl
          | true =>
            cases e3 : ((l.getD (j + 1) lb0).value.toList == (l.getD j lb0).value.toList) with
            | false => exact .inr ⟨rfl, rfl⟩
            | true =>
              exfalso
              exact hpq (lb_ext (toList_eq e2).symm (toList_eq e3).symm)
        clear hpq hct
        generalize l.getD (j + 1) lb0 = x at *
        generalize l.getD j lb0 = y at *
        obtain ⟨nx, vx⟩ := x
        obtain ⟨ny, vy⟩ := y
        simp only at x0 x1 y0 y1 hb3
        rcases hb3 with e1 | ⟨e1, e2⟩
        all_goals
          go_wp2
          go_quiet (fail)
          go_wp2
          refine ⟨⟨j + 1 + 1, _, by omega, by omega, by go_num, hst, rfl⟩, ?_⟩
          simp [intOf]; omega
    · obtain rfl : k = n := by omega
      have hki : ¬ (k : Int) < (k : Int) := by omega
      have hc2 := hcp.out
      rw [List.take_of_length_le (by rw [← hN.out]; exact Nat.le_refl _)] at hc2
      have hsl := (hrow.out.drewN d).sls (n := k) (cap := cap) (by rw [← hN.out]; exact Nat.le_refl _) (by omega)
      rw [List.take_of_length_le (by rw [← hN.out]; exact Nat.le_refl _), ← hc2] at hsl
      clear hc2
      go_wp2
      go_ret
      exact ⟨_, rfl, hsl, below_drewN (Below.refl _ _) _⟩
set_option maxRecDepth 100000 in
set_option maxHeartbeats 1000000 in
theorem compact_few (a : Option Addr) (n c : Nat) (w : World) (h : n < 2) : Calls Try.prog 39 #[.slice a n c] w fun e w' => e = .returned (.slice a n c) ∧ w' = w := by
  have hni : (n : Int) < 2 := by omega
  go_enter Try.func39, Try.ntmps39
  go_wp2
  go_ret
  exact ⟨rfl, rfl⟩
/-- slices.Compact. -/
theorem compact_any (base : Nat) (v : Value) (l : List Lb) (w : World) (hown : OwnL w base v l) (hl : l.length ≤ 1000000) : Calls Try.prog 39 #[v] w fun e w' => ∃ u, e = .returned u ∧ Lbs w' u (cpt l) ∧ Below base w w' := by
  by_cases h2 : l.length < 2
  · obtain ⟨a, c, rfl⟩ := hown.shape
    refine (compact_few a l.length c w h2).mono ?_
    rintro e w' ⟨rfl, rfl⟩
    exact ⟨_, rfl, by rw [cpt_one h2]; exact hown.sls, Below.refl _ _⟩
  · rcases hown.2 with ⟨rfl, h0⟩ | ⟨g, cap, cur, rfl, hbg, hg, hnc, hcm, hcs, htake⟩
    · omega
    · refine (compact_some l g cap w (OwnL.row hown) (by omega) hl hnc hcm).mono ?_
      rintro e w' ⟨u, rfl, h3, h4⟩
      exact ⟨u, rfl, h3, h4.mono hbg⟩
theorem lss_two {w : World} {v1 v2 : Value} {a b : List Lb} (h1 : Lbs w v1 a) (h2 : Lbs w v2 b) (ty : TypeId) : Lss (w.alloc (.cells #[v1, v2] ty)) (.slice (some ⟨w.heap.size, 0, none⟩) 2 2) [a, b] := by
  refine ⟨w.heap.size, 0, 2, rfl, fun t ht => ?_⟩
  have h : t = 0 ∨ t = 1 := by simp at ht; omega
  rcases h with rfl | rfl
  · exact ⟨v1, by simp only [World.cell?, heap_new]; rfl, h1.alloc _⟩
  · exact ⟨v2, by simp only [World.cell?, heap_new]; rfl, h2.alloc _⟩
/-- What Join tells, and where. -/
def JoinR (a b : List Lb) (w : World) (e : Ending) (w' : World) : Prop := ∃ u out ok, e = .returned (.tuple #[u, .bool ok]) ∧ JoinQ a b out ok ∧ OwnL w' w.heap.size u out ∧ Below w.heap.size w w'
theorem LbsR.app {a b : List Lb} (ha : LbsR a) (hb : LbsR b) : LbsR (a ++ b) := fun x hx => (List.mem_append.1 hx).elim (ha x) (hb x)
set_option maxRecDepth 100000 in
set_option maxHeartbeats 2000000 in
/-- labels.Join of two lists of labels that may be. -/
theorem join_any (v1 v2 : Value) (a b : List Lb) (w : World) (h1 : Lbs w v1 a) (h2 : Lbs w v2 b) (ha : ∀ x ∈ a, IsLb x) (hb : ∀ x ∈ b, IsLb x) (ra : LbsR a) (rb : LbsR b) (hla : a.length ≤ 10000) (hlb : b.length ≤ 10000) :
    Calls Try.prog 19 #[v1, v2] w fun e w' => JoinR a b w e w' := by
  obtain ⟨a1, c1, rfl⟩ := h1.shape
  obtain ⟨a2, c2, rfl⟩ := h2.shape
  have hs := sorted_any _ [a, b] _ (lss_two h1 h2 22) (by simp) (by simp [totL]; omega)
  have hfl : ([a, b] : List (List Lb)).flatten = a ++ b := by simp
  rw [hfl] at hs
  have hsl : (sortL (a ++ b)).length ≤ 20000 := by rw [(sortL_perm _).length_eq, List.length_append]; omega
  have hc := fun base v W (h : OwnL W base v (sortL (a ++ b))) => compact_any base v _ W h (by omega)
  have hr : LbsR (cpt (sortL (a ++ b))) := fun x hx => (ra.app rb) x ((sortL_perm _).mem_iff.1 ((cpt_mem _ x).1 hx))
  have hcl : (cpt (sortL (a ++ b))).length ≤ 20000 := Nat.le_trans (cpt_sub _).length_le hsl
  have hm := fun v W (h : Lbs W v (cpt (sortL (a ++ b)))) => make_any v _ W h hr (by omega)
  have hQ : Hid (∀ out e, MkQ (cpt (sortL (a ++ b))) out e → JoinQ a b out (decide (e = 0))) := fun out e h => join_make ha hb h
  have hb0 : Below w.heap.size w (w.alloc (.cells #[.slice a1 a.length c1, .slice a2 b.length c2] 22)) := (Below.refl _ w).alloc (Nat.le_refl _) _
  clear h1 h2 ha hb ra rb hr hfl hsl hcl
  generalize cpt (sortL (a ++ b)) = m at *
  generalize sortL (a ++ b) = s at *
  go_enter Try.func19, Try.ntmps19
  go_wp2_with (first
    | (go_at_call 36; refine hs.mono ?_; rintro e w1 ⟨u1, rfl, ho1, hb1⟩)
    | (go_at_call 39; refine (hc _ _ _ ho1).mono ?_; rintro e w2 ⟨u2, rfl, hl2, hb2⟩)
    | (go_at_call 11; refine (hm _ _ hl2).mono ?_; rintro e w3 ⟨u3, out, er, rfl, hq3, ho3, hb3⟩))
  have hB1 := hb0.trans (hb1.mono hb0.size)
  have hB2 : Below w.heap.size w w2 := hB1.trans (hb2.mono hb0.size)
  have hB3 := hB2.trans (hb3.mono hB2.size)
  go_ret2
  refine ⟨_, out, _, rfl, ?_, OwnS.wide ho3 hB2.size, hB3⟩
  have := hQ.out out er hq3
  rw [show decide (er = 0) = (er == 0) by rw [Bool.eq_iff_iff]; simp] at this
  exact this
end Go.Proofs.Ytckchabcnmkbeaa
