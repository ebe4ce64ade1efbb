/- The document's in, part, Without, Only, With, order, Compare, Join. -/
import Derived.Test.YtiajafljgfpdcaaGreatPk
import Derived.Test.YtiajafljgfpdcaaGreatRn
namespace Go.Proofs.YtiajafljgfpdcaaGreat
set_option linter.unusedVariables false
open Go.RowKit
theorem inB_at {ns : List ByteArray} {s : ByteArray} {k : Nat} (hk : k < ns.length) (e : ns.getD k ⟨#[]⟩ = s) : inB ns s = true := by
  unfold inB
  rw [List.any_eq_true]
  exact ⟨_, getD_mem ns ⟨#[]⟩ k hk, by simpa using e⟩
theorem inB_no {ns : List ByteArray} {s : ByteArray} (h : ∀ j, j < ns.length → ns.getD j ⟨#[]⟩ ≠ s) : inB ns s = false := by
  cases e : inB ns s with
  | false => rfl
  | true =>
    unfold inB at e
    rw [List.any_eq_true] at e
    obtain ⟨n, hn, he⟩ := e
    obtain ⟨j, hj, rfl⟩ := List.mem_iff_getElem.1 hn
    have := h j hj
    rw [List.getD_eq_getElem?_getD, List.getElem?_eq_getElem hj] at this
    exact absurd (by simpa using he) this
set_option maxRecDepth 100000 in
set_option maxHeartbeats 2000000 in
theorem rin_any (v : Value) (ns : List ByteArray) (s : ByteArray) (w : World) (hv : Txs w v ns) (hn : ns.length ≤ 1000000) : Calls Tryz.prog 129 #[v, .string s] w fun e w' => e = .returned (.bool (inB ns s)) ∧ w' = w := by
  obtain ⟨a, c, rfl⟩ := hv.shape
  replace hv : Hid (Txs w (.slice a ns.length c) ns) := hv
  go_enter Tryz.func129, Tryz.ntmps129
  go_wp2
  go_loop [5] (fun i => ∃ k : Nat, k ≤ ns.length ∧ i = .int .i64 k ∧ (∀ j, j < k → ns.getD j ⟨#[]⟩ ≠ s)) (fun i => ns.length - (intOf i).toNat)
  case atStart => exact ⟨0, Nat.zero_le _, rfl, fun j hj => absurd hj (Nat.not_lt_zero _)⟩
  case round =>
    obtain ⟨k, hk, rfl, hno⟩ := hrel
    by_cases hlt : k < ns.length
    · have hki : (k : Int) < (ns.length : Int) := by omega
      obtain ⟨b, o, rfl, x0⟩ := tx_at hv.out k hlt
      by_cases he : ns.getD k ⟨#[]⟩ = s
      · have hg : Hid (inB ns s = true) := inB_at hlt he
        rw [he] at x0
        clear he
        go_wp2
        go_ret
        exact ⟨by rw [hg.out]; rfl, rfl⟩
      · have hst : ∀ j, j < k + 1 → ns.getD j ⟨#[]⟩ ≠ s := fun j hj => by
          by_cases e : j = k
          · subst e; exact he
          · exact hno j (by omega)
        have hne := toList_ne he
        replace hst : Hid _ := hst
        replace hno : Hid _ := hno
        clear he
        generalize ns.getD k ⟨#[]⟩ = m at x0 hne
        go_wp2
        go_round
        case rel => exact ⟨k + 1, by omega, by go_num, hst.out⟩
        case measure => simp [intOf]; omega
    · obtain rfl : k = ns.length := by omega
      have hki : ¬ (ns.length : Int) < (ns.length : Int) := by omega
      have hg : Hid (inB ns s = false) := inB_no hno
      clear hno
      go_wp2
      go_ret
      exact ⟨by rw [hg.out]; rfl, rfl⟩
set_option maxRecDepth 100000 in
set_option maxHeartbeats 2000000 in
theorem rpart_any (v nv : Value) (l : List Lb) (ns : List ByteArray) (b : Bool) (w : World) (hv : Lbs w v l) (hn : Txs w nv ns) (hl : l.length ≤ 1000000) (hnl : ns.length ≤ 1000000) :
    Calls Tryz.prog 104 #[v, nv, .bool b] w fun e w' => ∃ u, e = .returned u ∧ OwnL w' w.heap.size u (pickL l ns b) ∧ Below w.heap.size w w' := by
  obtain ⟨a, c, rfl⟩ := hv.shape
  replace hv : Hid (Lbs w (.slice a l.length c) l) := hv
  have hC : Hid (∀ W x, Below w.heap.size w W → Calls Tryz.prog 129 #[nv, .string x] W fun e w' => e = .returned (.bool (inB ns x)) ∧ w' = W) := fun W x h => rin_any nv ns x W (hn.grow h) hnl
  clear hn
  go_enter Tryz.func104, Tryz.ntmps104
  go_wp2
  go_loopw [7, 8] (fun u i wr => ∃ k : Nat, k ≤ l.length ∧ i = .int .i64 k ∧ OwnL wr w.heap.size u (pickL (l.take k) ns b) ∧ Below w.heap.size w wr) (fun _ i _ => l.length - (intOf i).toNat)
  case atStart => exact ⟨0, Nat.zero_le _, rfl, OwnS.nil _ _, Below.refl _ _⟩
  case round =>
    obtain ⟨k, hk, rfl, ho, hB⟩ := hrel
    have hbz := hB.size
    by_cases hlt : k < l.length
    · have hki : (k : Int) < (l.length : Int) := by omega
      obtain ⟨b1, o1, rfl, x0, x1⟩ := lb_at (Sls.grow hv.out hB) k hlt
      have hpt : Hid (pickL (l.take (k + 1)) ns b = pickL (l.take k) ns b ++ (if (inB ns (l.getD k lb0).name == b) = true then [l.getD k lb0] else [])) := pickL_take l ns b k hlt
      have hpl : (pickL (l.take k) ns b).length ≤ 1000000 := Nat.le_trans (pickL_len _ _ _) (by rw [List.length_take]; omega)
      have hc1 := hC.out wr (l.getD k lb0).name hB
      generalize l.getD k lb0 = x at *
      obtain ⟨n, u⟩ := x
      simp only at x0 x1 hpt hc1
      generalize pickL (l.take k) ns b = L at *
      cases hin : (inB ns n == b) with
      | true =>
        rw [hin, if_pos rfl] at hpt
        generalize inB ns n = I at *
        go_wp2_with (first
          | (go_at_call 129; refine hc1.mono ?_; rintro e wx ⟨rfl, hwx⟩; subst wx)
          | (at_builtin; refine appR TL rfl (.tmp 24) (.tmp 29) rfl w.heap.size _ (.slice (some ⟨wr.heap.size, 0, none⟩) 1 1) L [⟨n, u⟩] rfl rfl (ho.alloc _) (sls_one (E := encL) wr ⟨n, u⟩ #[.string n, .string u] 70 rfl) (by simp; omega) (by simp; omega) ?_; intro v2 w2 ho2 hg2; have hB3 : Below w.heap.size w w2 := (hB.alloc hB.size _).grown hg2 (hB.alloc hB.size _).size (fun q hq => (ho.lt q hq).1)))
        refine ⟨⟨k + 1, by omega, by go_num, ho2.cast hpt.out.symm, hB3⟩, ?_⟩
        simp [intOf]; omega
      | false =>
        rw [hin, if_neg (by decide), List.append_nil] at hpt
        generalize inB ns n = I at *
        go_wp2_with (first
          | (go_at_call 129; refine hc1.mono ?_; rintro e wx ⟨rfl, hwx⟩; subst wx))
        refine ⟨⟨k + 1, by omega, by go_num, ho.cast hpt.out.symm, hB⟩, ?_⟩
        simp [intOf]; omega
    · obtain rfl : k = l.length := by omega
      have hki : ¬ (l.length : Int) < (l.length : Int) := by omega
      rw [List.take_of_length_le (Nat.le_refl _)] at ho
      go_wp2
      go_ret
      exact ⟨_, rfl, ho, hB⟩
set_option maxRecDepth 100000 in
set_option maxHeartbeats 1000000 in
theorem rwithout_any (v nv : Value) (l : List Lb) (ns : List ByteArray) (w : World) (hv : Lbs w v l) (hn : Txs w nv ns) (hl : l.length ≤ 1000000) (hnl : ns.length ≤ 1000000) :
    Calls Tryz.prog 81 #[v, nv] w fun e w' => ∃ u, e = .returned u ∧ OwnL w' w.heap.size u (withoutL l ns) ∧ Below w.heap.size w w' := by
  have hp := rpart_any v nv l ns false w hv hn hl hnl
  rw [pickL_without] at hp
  clear hv hn
  go_enter Tryz.func81, Tryz.ntmps81
  go_wp2_with (first | (go_at_call 104; refine hp.mono ?_; rintro e w1 ⟨u1, rfl, ho1, hb1⟩))
  go_ret
  exact ⟨_, rfl, ho1, hb1⟩
theorem namesL_take (l : List Lb) (k : Nat) (hk : k < l.length) : namesL (l.take (k + 1)) = namesL (l.take k) ++ [(l.getD k lb0).name] := by
  rw [take_getD l lb0 k hk]; simp [namesL]
theorem namesL_len (l : List Lb) : (namesL l).length = l.length := by simp [namesL]
set_option maxRecDepth 100000 in
set_option maxHeartbeats 2000000 in
/-- The document's With. -/
theorem rwith_any (v u : Value) (l m : List Lb) (w : World) (hv : Lbs w v l) (hu : Lbs w u m) (hl : l.length ≤ 10000) (hm : m.length ≤ 10000) (rl : LbsR l) (rm : LbsR m) :
    Calls Tryz.prog 41 #[v, u] w fun e w' => MakeR (withL l m) w e w' := by
  obtain ⟨a2, c2, rfl⟩ := hu.shape
  have hvk : Hid (∀ W, Below w.heap.size w W → Lbs W v l) := fun W h => hv.grow h
  replace hu : Hid (Lbs w (.slice a2 m.length c2) m) := hu
  have hwr : Hid (LbsR (withL l m)) := fun x hx => by
    rcases List.mem_append.1 hx with h | h
    · exact rm x h
    · exact rl x (List.mem_filter.1 h).1
  have hwl : (withoutL l (namesL m)).length ≤ l.length := List.length_filter_le _ _
  go_enter Tryz.func41, Tryz.ntmps41
  go_wp2
  go_loopw [6, 7] (fun t i wr => ∃ k : Nat, k ≤ m.length ∧ i = .int .i64 k ∧ OwnT wr w.heap.size t (namesL (m.take k)) ∧ Below w.heap.size w wr) (fun _ i _ => m.length - (intOf i).toNat)
  case atStart => exact ⟨0, Nat.zero_le _, rfl, OwnS.nil _ _, Below.refl _ _⟩
  case round =>
    obtain ⟨k, hk, rfl, ho, hB⟩ := hrel
    have hbz := hB.size
    by_cases hlt : k < m.length
    · have hki : (k : Int) < (m.length : Int) := by omega
      obtain ⟨b1, o1, rfl, x0, x1⟩ := lb_at (Sls.grow hu.out hB) k hlt
      have hnt : Hid (namesL (m.take (k + 1)) = namesL (m.take k) ++ [(m.getD k lb0).name]) := namesL_take m k hlt
      have hnl : (namesL (m.take k)).length ≤ 10000 := by rw [namesL_len, List.length_take]; omega
      generalize (m.getD k lb0).name = n at *
      generalize namesL (m.take k) = L at *
      go_wp2_with (first
        | (at_builtin; refine appR TS rfl (.tmp 14) (.tmp 20) rfl w.heap.size _ (.slice (some ⟨wr.heap.size, 0, none⟩) 1 1) L [n] rfl rfl (ho.alloc _) (sls_one (E := encS) wr n #[.string n] 9 rfl) (by simp; omega) (by simp; omega) ?_; intro v2 w2 ho2 hg2; have hB3 : Below w.heap.size w w2 := (hB.alloc hB.size _).grown hg2 (hB.alloc hB.size _).size (fun q hq => (ho.lt q hq).1)))
      refine ⟨⟨k + 1, by omega, by go_num, ho2.cast hnt.out.symm, hB3⟩, ?_⟩
      simp [intOf]; omega
    · obtain rfl : k = m.length := by omega
      have hki : ¬ (m.length : Int) < (m.length : Int) := by omega
      rw [List.take_of_length_le (Nat.le_refl _)] at ho
      have hBe : Below w.heap.size w (wr.alloc (.cells #[] 70)) := hB.alloc hbz _
      have hwdef : Hid (withL l m = m ++ withoutL l (namesL m)) := rfl
      have hwo := fun W nv (h1 : Lbs W v l) (h2 : Txs W nv (namesL m)) => rwithout_any v nv l (namesL m) W h1 h2 (by omega) (by rw [namesL_len]; omega)
      have hmk := fun x W (h : Lbs W x (withL l m)) => rmake_any x (withL l m) W h hwr.out (by rw [hwdef.out, List.length_append]; omega)
      generalize hNL : namesL m = NL at *
      generalize hWL : withoutL l NL = WL at *
      clear hNL hWL
      go_wp2_with (first
        | (at_builtin; refine appR TL rfl (.tmp 22) (.tmp 23) rfl wr.heap.size (.slice (some ⟨wr.heap.size, 0, none⟩) 0 0) (.slice a2 m.length c2) [] m rfl rfl (own_empty (T := TL) wr wr.heap.size (Nat.le_refl _)) ((Sls.grow hu.out hB).alloc _) (by simp) (by simp; omega) ?_; intro v2 w2 ho2 hg2; rw [List.nil_append] at ho2; have hb2 : Below wr.heap.size wr w2 := ((Below.refl _ wr).alloc (Nat.le_refl _) _).grown hg2 (by simp) (by intro q hq; cases hq; exact Nat.le_refl _); have hB2 := hB.trans (hb2.mono hB.size); have ht2 := ho.stay hb2)
        | (go_at_call 81; refine (hwo _ _ (hvk.out _ hB2) ht2.sls).mono ?_; rintro e w3 ⟨v3, rfl, ho3, hb3⟩; have hB3 := hB2.trans (hb3.mono hB2.size); have ho23 := ho2.stay hb3)
        | (at_builtin; refine appR TL rfl (.tmp 24) (.tmp 27) rfl wr.heap.size v2 v3 m WL rfl rfl ho23 ho3.sls (Nat.le_trans hb2.size hb3.size) (by omega) ?_; intro v4 w4 ho4 hg4; have hB4 : Below w.heap.size w w4 := hB3.grown hg4 hB3.size (fun q hq => Nat.le_trans hbz (ho23.lt q hq).1); rw [← hwdef.out] at ho4)
        | (go_at_call 80; refine (hmk _ _ ho4.sls).mono ?_; rintro e w5 ⟨v5, out, er, rfl, hq5, ho5, hb5⟩))
      go_ret2
      exact ⟨_, out, er, rfl, hq5, OwnS.wide ho5 hB4.size, hB4.trans (hb5.mono hB4.size)⟩
/-! ### order, Compare -/
set_option maxRecDepth 100000 in
set_option maxHeartbeats 1000000 in
theorem rorder_any (a b : ByteArray) (w : World) : Calls Tryz.prog 62 #[.string a, .string b] w fun e w' => e = .returned (.int .i64 (cmpL (numsS a) (numsS b))) ∧ w' = w := by
  have h1 := less_cmp a b
  have h2 := less_cmp b a
  rw [cmpL_neg (numsS a)] at h2
  have hn : Hid (∀ z : Int, z = cmpL (numsS a) (numsS b) → cmpL (numsS a) (numsS b) = z) := fun z h => h.symm
  rcases cmpL_in (numsS a) (numsS b) with h | h | h
  · have hR : Hid (cmpL (numsS a) (numsS b) = -1) := h
    rw [h] at h1 h2
    clear h hn
    simp only [decide_true] at h1
    go_enter Tryz.func62, Tryz.ntmps62
    go_wp2
    go_ret
    exact ⟨by rw [hR.out]; rfl, rfl⟩
  · have hR : Hid (cmpL (numsS a) (numsS b) = 0) := h
    rw [h] at h1 h2
    clear h hn
    have h1' : Op.bytesLess a.toList b.toList = false := by rw [h1]; decide
    have h2' : Op.bytesLess b.toList a.toList = false := by rw [h2]; decide
    obtain rfl : a = b := numsS_inj (cmpL_eq hR.out)
    clear h1 h2
    go_enter Tryz.func62, Tryz.ntmps62
    go_wp2
    go_ret
    exact ⟨by rw [hR.out]; rfl, rfl⟩
  · have hR : Hid (cmpL (numsS a) (numsS b) = 1) := h
    rw [h] at h1 h2
    clear h hn
    have h1' : Op.bytesLess a.toList b.toList = false := by rw [h1]; decide
    have h2' : Op.bytesLess b.toList a.toList = true := by rw [h2]; decide
    have hne : (a.toList == b.toList) = false := toList_ne (by rintro rfl; rw [h2'] at h1'; cases h1')
    clear h1 h2
    go_enter Tryz.func62, Tryz.ntmps62
    go_wp2
    go_ret
    exact ⟨by rw [hR.out]; rfl, rfl⟩
end Go.Proofs.YtiajafljgfpdcaaGreat
