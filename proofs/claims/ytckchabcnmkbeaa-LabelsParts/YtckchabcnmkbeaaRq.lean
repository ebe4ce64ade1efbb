/- The document's Join, Compare. -/
import Derived.Test.YtckchabcnmkbeaaWt
namespace Go.Proofs.Ytckchabcnmkbeaa
set_option linter.unusedVariables false
open Go.RowKit
def newIn (a b : List Lb) : List Lb := b.filter fun y => decide (∀ x ∈ a, x.name ≠ y.name)
theorem newIn_take (a b : List Lb) (k : Nat) (hk : k < b.length) : newIn a (b.take (k + 1)) = newIn a (b.take k) ++ (if ∀ x ∈ a, x.name ≠ (b.getD k lb0).name then [b.getD k lb0] else []) := by
  rw [take_getD b lb0 k hk]
  unfold newIn
  rw [List.filter_append]
  congr 1
  by_cases h : ∀ x ∈ a, x.name ≠ (b.getD k lb0).name
  · rw [if_pos h, List.filter_cons_of_pos (by simpa using h)]; rfl
  · rw [if_neg h, List.filter_cons_of_neg (by simpa using h)]; rfl
theorem unlike_take {a b : List Lb} {k : Nat} (hk : k < b.length) (h : ¬ Unlike a (b.take k)) (h2 : ∀ x ∈ a, x.name = (b.getD k lb0).name → x.value = (b.getD k lb0).value) : ¬ Unlike a (b.take (k + 1)) := by
  rw [take_getD b lb0 k hk]
  rintro ⟨x, hx, y, hy, h3, h4⟩
  rcases List.mem_append.1 hy with hy | hy
  · exact h ⟨x, hx, y, hy, h3, h4⟩
  · have : y = b.getD k lb0 := by simpa using hy
    subst this
    exact h4 (h2 x hx h3)
theorem bytes_ne {g : ByteArray} (h : g ≠ ⟨#[]⟩) : g.toList.isEmpty = false ∧ (g.toList == []) = false := by
  have h1 := toList_ne h
  have h2 : (⟨#[]⟩ : ByteArray).toList = [] := by decide +kernel
  rw [h2] at h1
  refine ⟨?_, h1⟩
  cases e : g.toList with
  | nil => rw [e] at h1; simp at h1
  | cons a l => rfl
set_option maxRecDepth 100000 in
set_option maxHeartbeats 2000000 in
theorem rjoin_any (v1 v2 : Value) (a b : List Lb) (w : World) (h1 : Lbs w v1 a) (h2 : Lbs w v2 b) (ha : IsSet a) (hb : IsSet b) (hla : a.length ≤ 10000) (hlb : b.length ≤ 10000) :
    Calls Try.prog 20 #[v1, v2] w fun e w' => JoinR a b w e w' := by
  obtain ⟨a2, c2, rfl⟩ := h2.shape
  have h1k : Hid (∀ W, Below w.heap.size w W → Lbs W v1 a) := fun W h => h1.grow h
  replace h2 : Hid (Lbs w (.slice a2 b.length c2) b) := h2
  have hgt : Hid (∀ W n, Below w.heap.size w W → Calls Try.prog 22 #[v1, .string n] W fun e w' => e = .returned (.string (getL a n)) ∧ w' = W) := fun W n h => rget_any v1 a n W (h1.grow h) (by omega)
  have hR : Hid (LbsR a ∧ LbsR b) := ⟨ha.short.reach, hb.short.reach⟩
  have hA : Hid (IsSet a) := ha
  have hBs : Hid (IsSet b) := hb
  clear ha hb
  go_enter Try.func20, Try.ntmps20
  go_wp2_with (first
    | (at_builtin; refine appR TL rfl (.tmp 11) (.tmp 12) rfl w.heap.size (.slice (some ⟨w.heap.size, 0, none⟩) 0 0) v1 [] a rfl rfl (own_empty (T := TL) w _ (Nat.le_refl _)) (h1.alloc _) (by simp) (by simp; omega) ?_; intro v3 w3 ho3 hg3; rw [List.nil_append] at ho3; have hb3 : Below w.heap.size w w3 := ((Below.refl _ w).alloc (Nat.le_refl _) _).grown hg3 (by simp) (by intro q hq; cases hq; exact Nat.le_refl _)))
  go_loopw [6, 7] (fun u i wr => ∃ k : Nat, k ≤ b.length ∧ i = .int .i64 k ∧ OwnL wr w.heap.size u (a ++ newIn a (b.take k)) ∧ Below w.heap.size w wr ∧ Hid (¬ Unlike a (b.take k))) (fun _ i _ => b.length - (intOf i).toNat)
  case atStart => exact ⟨0, Nat.zero_le _, rfl, ho3.cast (by simp [newIn]), hb3, by rintro ⟨_, _, y, hy, _⟩; cases hy⟩
  case round =>
    clear ho3 hb3 h1
    obtain ⟨k, hk, rfl, ho, hB, hun⟩ := hrel
    have hbz := hB.size
    have hnl : (a ++ newIn a (b.take k)).length ≤ 20000 := by
      rw [List.length_append]
      have : (newIn a (b.take k)).length ≤ (b.take k).length := List.length_filter_le _ _
      rw [List.length_take] at this
      omega
    by_cases hlt : k < b.length
    · have hki : (k : Int) < (b.length : Int) := by omega
      obtain ⟨b1, o1, rfl, x0, x1⟩ := lb_at (Sls.grow h2.out hB) k hlt
      have hnt := newIn_take a b k hlt
      have hyb := getD_mem b lb0 k hlt
      have hc1 := hgt.out wr (b.getD k lb0).name hB
      by_cases hg0 : getL a (b.getD k lb0).name = ⟨#[]⟩
      · have hno := (getL_empty hA.out.1).1 hg0
        rw [if_pos hno] at hnt
        replace hnt : Hid (a ++ newIn a (b.take (k + 1)) = (a ++ newIn a (b.take k)) ++ [b.getD k lb0]) := by show _ = _; rw [hnt]; simp
        replace hun : Hid (¬ Unlike a (b.take (k + 1))) := unlike_take hlt hun.out (fun x hx e => absurd e (hno x hx))
        rw [hg0] at hc1
        clear hno hg0 hyb
        generalize a ++ newIn a (b.take k) = L at *
        generalize b.getD k lb0 = x at *
        obtain ⟨n, y⟩ := x
        simp only at x0 x1 hc1
        go_wp2_with (first
          | (go_at_call 22; refine hc1.mono ?_; rintro e wx ⟨rfl, hwx⟩; subst wx)
          | (at_builtin; refine appR TL rfl (.tmp 29) (.tmp 34) rfl w.heap.size _ (.slice (some ⟨wr.heap.size, 0, none⟩) 1 1) L [⟨n, y⟩] rfl rfl (ho.alloc _) (sls_one (E := encL) wr ⟨n, y⟩ #[.string n, .string y] 52 rfl) (by simp; omega) (by simp; omega) ?_; intro v4 w4 ho4 hg4; have hB4 : Below w.heap.size w w4 := (hB.alloc hB.size _).grown hg4 (hB.alloc hB.size _).size (fun q hq => (ho.lt q hq).1)))
        refine ⟨⟨k + 1, by omega, by go_num, ho4.cast hnt.out.symm, hB4, hun⟩, ?_⟩
        simp [intOf]; omega
      · obtain ⟨x, hx, hxn⟩ : ∃ x ∈ a, x.name = (b.getD k lb0).name := by
          rcases Classical.em (∃ x ∈ a, x.name = (b.getD k lb0).name) with h | h
          · exact h
          · exact absurd ((getL_empty hA.out.1).2 fun x hx e => h ⟨x, hx, e⟩) hg0
        have hgx : getL a (b.getD k lb0).name = x.value := by rw [← hxn]; exact getL_mem hA.out.2.1 hx
        obtain ⟨n1, n2⟩ := bytes_ne hg0
        rw [if_neg (fun h => h x hx hxn), List.append_nil] at hnt
        by_cases hgv : getL a (b.getD k lb0).name = (b.getD k lb0).value
        · replace hun : Hid (¬ Unlike a (b.take (k + 1))) := unlike_take hlt hun.out (fun z hz e => by rw [← hgv, ← e]; exact (getL_mem hA.out.2.1 hz).symm)
          replace hnt : Hid _ := hnt
          rw [hgv] at hc1 n1 n2
          clear hgx hgv hg0 hx hxn hyb
          generalize b.getD k lb0 = z at *
          obtain ⟨n, y⟩ := z
          simp only at x0 x1 hc1 n1 n2
          go_wp2_with (first
            | (go_at_call 22; refine hc1.mono ?_; rintro e wx ⟨rfl, hwx⟩; subst wx))
          refine ⟨⟨k + 1, by omega, by go_num, ho.cast (by rw [hnt.out]), hB, hun⟩, ?_⟩
          simp [intOf]; omega
        · have hU : Hid (Unlike a b) := ⟨x, hx, _, hyb, hxn, by rw [← hgx]; exact hgv⟩
          have hne := toList_ne hgv
          clear hgx hgv hg0 hx hxn hyb hun hnt
          generalize getL a (b.getD k lb0).name = G at *
          generalize b.getD k lb0 = z at *
          obtain ⟨n, y⟩ := z
          simp only at x0 x1 hc1 hne
          go_wp2_with (first
            | (go_at_call 22; refine hc1.mono ?_; rintro e wx ⟨rfl, hwx⟩; subst wx))
          go_ret2
          exact ⟨_, [], false, rfl, JoinQ.unlike hU.out, OwnS.nil _ _, hB⟩
    · obtain rfl : k = b.length := by omega
      have hki : ¬ (b.length : Int) < (b.length : Int) := by omega
      rw [List.take_of_length_le (Nat.le_refl _)] at ho hun hnl
      have hJ : Hid (∀ out e, MkQ (a ++ newIn a b) out e → JoinQ a b out (decide (e = 0))) := fun out e h => JoinQ.of hA.out hBs.out hun.out h
      have hmk := fun x W (h : Lbs W x (a ++ newIn a b)) => rmake_any x (a ++ newIn a b) W h (hR.out.1.app fun y hy => hR.out.2 y (List.mem_filter.1 hy).1) (by omega)
      generalize a ++ newIn a b = L at *
      go_wp2_with (first
        | (go_at_call 13; refine (hmk _ _ ho.sls).mono ?_; rintro e w5 ⟨v5, out, er, rfl, hq5, ho5, hb5⟩; have hdec : ((er == 0) = decide (er = 0)) := by (by_cases h : er = 0 <;> simp [h])))
      go_ret2
      exact ⟨_, out, _, rfl, by first | exact hJ.out _ _ hq5 | (rw [hdec]; exact hJ.out _ _ hq5), OwnS.wide ho5 hB.size, hB.trans (hb5.mono hB.size)⟩
set_option maxRecDepth 100000 in
set_option maxHeartbeats 4000000 in
/-- The document's Compare. -/
theorem rcompare_any (v u : Value) (a b : List Lb) (w : World) (hv : Lbs w v a) (hu : Lbs w u b) (hla : a.length ≤ 1000000) (hlb : b.length ≤ 1000000) :
    Calls Try.prog 30 #[v, u] w fun e w' => e = .returned (.int .i64 (cmpS a b)) ∧ Below w.heap.size w w' := by
  obtain ⟨a1, c1, rfl⟩ := hv.shape
  obtain ⟨a2, c2, rfl⟩ := hu.shape
  replace hv : Hid (Lbs w (.slice a1 a.length c1) a) := hv
  replace hu : Hid (Lbs w (.slice a2 b.length c2) b) := hu
  obtain ⟨M, hM⟩ : ∃ M : Nat, Hid (M = min a.length b.length) := ⟨_, rfl⟩
  have hMa : M ≤ a.length := by rw [hM.out]; omega
  have hMb : M ≤ b.length := by rw [hM.out]; omega
  go_enter Try.func30, Try.ntmps30
  go_wp2
  go_loopw [5] (fun i wr => ∃ k : Nat, k ≤ M ∧ i = .int .i64 k ∧ Hid (a.take k = b.take k) ∧ Below w.heap.size w wr) (fun i _ => M - (intOf i).toNat)
  case atStart => exact ⟨0, Nat.zero_le _, rfl, rfl, Below.refl _ _⟩
  case round =>
    obtain ⟨k, hk, rfl, htk, hB⟩ := hrel
    by_cases hlt : k < M
    · have hka : (k : Int) < (a.length : Int) := by omega
      have hkb : (k : Int) < (b.length : Int) := by omega
      obtain ⟨b1, o1, rfl, x0, x1⟩ := lb_at (Sls.grow hv.out hB) k (by omega)
      obtain ⟨b2, o2, rfl, y0, y1⟩ := lb_at (Sls.grow hu.out hB) k (by omega)
      have hst : Hid (a.getD k lb0 = b.getD k lb0 → a.take (k + 1) = b.take (k + 1)) := fun e => by
        rw [take_getD a lb0 k (by omega), take_getD b lb0 k (by omega), htk.out, e]
      have hR : Hid (a.getD k lb0 ≠ b.getD k lb0 → cmpS a b = cmpB (a.getD k lb0) (b.getD k lb0)) := fun h => cmpS_at htk.out (by omega) (by omega) h
      generalize a.getD k lb0 = x at *
      generalize b.getD k lb0 = y at *
      have hdef : Hid (cmpB x y = if cmpL (numsS x.name) (numsS y.name) = 0 then cmpL (numsS x.value) (numsS y.value) else cmpL (numsS x.name) (numsS y.name)) := rfl
      have hxy : Hid (cmpB x y = 0 ↔ x = y) := cmpB_eq
      have hc := fun W => calls_same (rorder_any x.name y.name W)
      have hd := fun W => calls_same (rorder_any x.value y.value W)
      have hci := cmpL_in (numsS x.name) (numsS y.name)
      have hdi := cmpL_in (numsS x.value) (numsS y.value)
      generalize cmpL (numsS x.name) (numsS y.name) = C at *
      generalize cmpL (numsS x.value) (numsS y.value) = D at *
      have x0' : ∀ p : Bel wr, p.W.cell? ⟨b1, o1 + k * 2, none⟩ = some (.string x.name) := fun p => p.cell x0
      have y0' : ∀ p : Bel wr, p.W.cell? ⟨b2, o2 + k * 2, none⟩ = some (.string y.name) := fun p => p.cell y0
      have x1' : ∀ wq : World, Below wr.heap.size wr wq → ∀ p : Bel wq, p.W.cell? ⟨b1, o1 + k * 2 + 1, none⟩ = some (.string x.value) := fun wq h p => p.cell ((h.cell (p := ⟨b1, o1 + k * 2 + 1, none⟩) (World.block_lt_of_cell? wr _ x1)).trans x1)
      have y1' : ∀ wq : World, Below wr.heap.size wr wq → ∀ p : Bel wq, p.W.cell? ⟨b2, o2 + k * 2 + 1, none⟩ = some (.string y.value) := fun wq h p => p.cell ((h.cell (p := ⟨b2, o2 + k * 2 + 1, none⟩) (World.block_lt_of_cell? wr _ y1)).trans y1)
      clear x0 x1 y0 y1
      obtain ⟨nx, vx⟩ := x
      obtain ⟨ny, vy⟩ := y
      simp only at x0' x1' y0' y1' hc hd
      by_cases hC : C = 0
      · subst hC
        go_wp2
        refine wp_region_bel (by kernel_rfl) (by kernel_rfl) ?_
        repeat (go_big_quiet_step ((first | (go_at_call 45; exact Calls.bel (hc _)))))
        refine wpQuiet_nil ?_
        rintro wq ⟨⟨_, hq⟩, rfl⟩
        have X1 := x1' _ hq
        have Y1 := y1' _ hq
        by_cases hD : D = 0
        · subst hD
          go_wp2
          refine wp_region_bel (by kernel_rfl) (by kernel_rfl) ?_
          repeat (go_big_quiet_step ((first | (go_at_call 45; exact Calls.bel (hd _)))))
          refine wpQuiet_nil ?_
          rintro wq2 ⟨⟨_, hq2⟩, rfl⟩
          go_wp2
          refine ⟨⟨k + 1, by omega, by go_num, hst.out (hxy.out.1 (by rw [hdef.out]; simp)), (hB.trans (hq.mono hB.size)).trans (hq2.mono (hB.trans (hq.mono hB.size)).size)⟩, ?_⟩
          simp [intOf]; omega
        · have hD1 : (D == 0) = false := by simpa using hD
          go_wp2
          refine wp_region_bel (by kernel_rfl) (by kernel_rfl) ?_
          repeat (go_big_quiet_step ((first | (go_at_call 45; exact Calls.bel (hd _)))))
          refine wpQuiet_nil ?_
          rintro wq2 ⟨⟨_, hq2⟩, rfl⟩
          go_wp2
          go_ret
          refine ⟨?_, (hB.trans (hq.mono hB.size)).trans (hq2.mono (hB.trans (hq.mono hB.size)).size)⟩
          have e1 : cmpB ⟨nx, vx⟩ ⟨ny, vy⟩ = D := by rw [hdef.out]; simp
          rw [hR.out (fun e => hD (by rw [← e1]; exact hxy.out.2 e)), e1]; rfl
      · have hC1 : (C == 0) = false := by simpa using hC
        go_wp2
        refine wp_region_bel (by kernel_rfl) (by kernel_rfl) ?_
        repeat (go_big_quiet_step ((first | (go_at_call 45; exact Calls.bel (hc _)))))
        refine wpQuiet_nil ?_
        rintro wq ⟨⟨_, hq⟩, rfl⟩
        go_wp2
        go_ret
        refine ⟨?_, hB.trans (hq.mono hB.size)⟩
        have e1 : cmpB ⟨nx, vx⟩ ⟨ny, vy⟩ = C := by rw [hdef.out, if_neg hC]
        rw [hR.out (fun e => hC (by rw [← e1]; exact hxy.out.2 e)), e1]; rfl
    · have hkM : k = M := by omega
      have hR : Hid (cmpS a b = cmpN a.length b.length) := cmpS_end htk.out (hkM.trans hM.out)
      have hend : ¬ ((k : Int) < (a.length : Int) ∧ (k : Int) < (b.length : Int)) := by rw [hkM, hM.out]; omega
      by_cases h1 : (k : Int) < (a.length : Int)
      · have h2 : ¬ (k : Int) < (b.length : Int) := fun h => hend ⟨h1, h⟩
        have h3 : ¬ (a.length : Int) < (b.length : Int) := by omega
        have h4 : (b.length : Int) < (a.length : Int) := by omega
        have hS : Hid (cmpS a b = 1) := by show _ = _; rw [hR.out]; unfold cmpN; rw [if_neg (by omega), if_pos (by omega)]
        go_wp2
        go_ret
        exact ⟨by rw [hS.out]; rfl, hB⟩
      · by_cases h3 : (a.length : Int) < (b.length : Int)
        · have hS : Hid (cmpS a b = -1) := by show _ = _; rw [hR.out]; unfold cmpN; rw [if_pos (by omega)]
          go_wp2
          go_ret
          exact ⟨by rw [hS.out]; rfl, hB⟩
        · have h4 : ¬ (b.length : Int) < (a.length : Int) := by
            have h5 := hM.out
            omega
          have hS : Hid (cmpS a b = 0) := by show _ = _; rw [hR.out]; unfold cmpN; rw [if_neg (by omega), if_neg (by omega)]
          go_wp2
          go_ret
          exact ⟨by rw [hS.out]; rfl, hB⟩
end Go.Proofs.Ytckchabcnmkbeaa
