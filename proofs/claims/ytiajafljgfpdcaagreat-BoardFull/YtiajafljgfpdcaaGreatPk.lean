/- slices.Contains at texts, pick, Without, Only; cmp.Compare, Compare. -/
import Derived.Test.YtiajafljgfpdcaaGreatMk
namespace Go.Proofs.YtiajafljgfpdcaaGreat
set_option linter.unusedVariables false
open Go.RowKit
theorem contains_inB (ns : List ByteArray) (x : ByteArray) : Lib.containsS ns x = inB ns x := by
  rw [Bool.eq_iff_iff, Lib.containsS_iff]
  unfold inB
  simp
theorem contains_any (v : Value) (ns : List ByteArray) (x : ByteArray) (w : World) (hv : Txs w v ns) (hn : ns.length ≤ 9223372036854775807) : Calls Tryz.prog 145 #[v, .string x] w fun e w' => e = .returned (.bool (inB ns x)) ∧ w' = w := by
  obtain ⟨a, c, rfl, _, h⟩ := hv
  rcases h with rfl | ⟨b, o, rfl, h⟩
  · rw [← contains_inB]
    exact Tryz.slices_Contains_string_empty a c x w
  · have hc := Tryz.slices_Contains_string b o ns.length c ns x w (Nat.le_refl _) hn (fun j hj => by
      have := at_tx (h j hj)
      rw [show j * encS.k = j from Nat.mul_one j] at this
      exact this)
    rw [List.take_of_length_le (Nat.le_refl _), contains_inB] at hc
    exact hc
/-- The labels whose names are among names, or are not. -/
def pickL (l : List Lb) (ns : List ByteArray) (b : Bool) : List Lb := l.filter fun a => inB ns a.name == b
theorem pickL_only (l : List Lb) (ns : List ByteArray) : pickL l ns true = onlyL l ns := by
  unfold pickL onlyL
  refine List.filter_congr fun a _ => ?_
  cases inB ns a.name <;> rfl
theorem pickL_without (l : List Lb) (ns : List ByteArray) : pickL l ns false = withoutL l ns := by
  unfold pickL withoutL
  refine List.filter_congr fun a _ => ?_
  cases inB ns a.name <;> rfl
theorem pickL_take (l : List Lb) (ns : List ByteArray) (b : Bool) (k : Nat) (hk : k < l.length) : pickL (l.take (k + 1)) ns b = pickL (l.take k) ns b ++ (if (inB ns (l.getD k lb0).name == b) = true then [l.getD k lb0] else []) := by
  rw [take_getD l lb0 k hk]
  unfold pickL
  rw [List.filter_append, List.filter_cons, List.filter_nil]
theorem pickL_len (l : List Lb) (ns : List ByteArray) (b : Bool) : (pickL l ns b).length ≤ l.length := List.length_filter_le _ _
set_option maxRecDepth 100000 in
set_option maxHeartbeats 2000000 in
theorem pick_any (v nv : Value) (l : List Lb) (ns : List ByteArray) (b : Bool) (w : World) (hv : Lbs w v l) (hn : Txs w nv ns) (hl : l.length ≤ 1000000) (hnl : ns.length ≤ 9223372036854775807) :
    Calls Tryz.prog 125 #[v, nv, .bool b] w fun e w' => ∃ u, e = .returned u ∧ OwnL w' w.heap.size u (pickL l ns b) ∧ Below w.heap.size w w' := by
  obtain ⟨a, c, rfl⟩ := hv.shape
  replace hv : Hid (Lbs w (.slice a l.length c) l) := hv
  have hC : Hid (∀ W x, Below w.heap.size w W → Calls Tryz.prog 145 #[nv, .string x] W fun e w' => e = .returned (.bool (inB ns x)) ∧ w' = W) := fun W x h => contains_any nv ns x W (hn.grow h) hnl
  clear hn
  go_enter Tryz.func125, Tryz.ntmps125
  go_wp2
  go_loopw [7, 12] (fun u i wr => ∃ k : Nat, k ≤ l.length ∧ i = .int .i64 k ∧ OwnL wr w.heap.size u (pickL (l.take k) ns b) ∧ Below w.heap.size w wr) (fun _ i _ => l.length - (intOf i).toNat)
  case atStart => exact ⟨0, Nat.zero_le _, rfl, OwnS.nil _ _, Below.refl _ _⟩
  case round =>
    obtain ⟨k, hk, rfl, ho, hB⟩ := hrel
    have hbz := hB.size
    by_cases hlt : k < l.length
    · have hki : (k : Int) < (l.length : Int) := by omega
      obtain ⟨b1, o1, rfl, x0, x1⟩ := lb_at (Sls.grow hv.out hB) k hlt
      have hpt : Hid (pickL (l.take (k + 1)) ns b = pickL (l.take k) ns b ++ (if (inB ns (l.getD k lb0).name == b) = true then [l.getD k lb0] else [])) := pickL_take l ns b k hlt
      have hpl : (pickL (l.take k) ns b).length ≤ 1000000 := Nat.le_trans (pickL_len _ _ _) (by rw [List.length_take]; omega)
      have hc1 := hC.out (wr.alloc (.cells #[.string (l.getD k lb0).name, .string (l.getD k lb0).value] 70)) (l.getD k lb0).name (hB.alloc hbz _)
      generalize l.getD k lb0 = x at *
      obtain ⟨n, u⟩ := x
      simp only at x0 x1 hpt hc1
      generalize pickL (l.take k) ns b = L at *
      have hB2 := hB.alloc hbz (.cells #[.string n, .string u] 70)
      cases hin : (inB ns n == b) with
      | true =>
        rw [hin, if_pos rfl] at hpt
        generalize inB ns n = I at *
        go_wp2_with (first
          | (go_at_call 145; refine hc1.mono ?_; rintro e wx ⟨rfl, hwx⟩; subst wx)
          | (at_builtin; refine appR TL rfl (.tmp 22) (.tmp 24) rfl w.heap.size _ (.slice (some ⟨wr.heap.size + 1, 0, none⟩) 1 1) L [⟨n, u⟩] rfl rfl ((ho.alloc _).alloc _) (by have := sls_one (E := encL) (wr.alloc (.cells #[.string n, .string u] 70)) ⟨n, u⟩ #[.string n, .string u] 70 rfl; rw [World.size_alloc] at this; exact this) (by simp; omega) (by simp; omega) ?_; intro v2 w2 ho2 hg2; have hB3 : Below w.heap.size w w2 := (hB2.alloc hB2.size _).grown hg2 (hB2.alloc hB2.size _).size (fun q hq => (ho.lt q hq).1)))
        refine ⟨⟨k + 1, by omega, by go_num, ho2.cast hpt.out.symm, hB3⟩, ?_⟩
        simp [intOf]; omega
      | false =>
        rw [hin, if_neg (by decide), List.append_nil] at hpt
        generalize inB ns n = I at *
        go_wp2_with (first
          | (go_at_call 145; refine hc1.mono ?_; rintro e wx ⟨rfl, hwx⟩; subst wx))
        refine ⟨⟨k + 1, by omega, by go_num, (ho.alloc _).cast hpt.out.symm, hB2⟩, ?_⟩
        simp [intOf]; omega
    · obtain rfl : k = l.length := by omega
      have hki : ¬ (l.length : Int) < (l.length : Int) := by omega
      rw [List.take_of_length_le (Nat.le_refl _)] at ho
      go_wp2
      go_ret
      exact ⟨_, rfl, ho, hB⟩
set_option maxRecDepth 100000 in
set_option maxHeartbeats 1000000 in
theorem without_any (v nv : Value) (l : List Lb) (ns : List ByteArray) (w : World) (hv : Lbs w v l) (hn : Txs w nv ns) (hl : l.length ≤ 1000000) (hnl : ns.length ≤ 9223372036854775807) :
    Calls Tryz.prog 100 #[v, nv] w fun e w' => ∃ u, e = .returned u ∧ OwnL w' w.heap.size u (withoutL l ns) ∧ Below w.heap.size w w' := by
  have hp := pick_any v nv l ns false w hv hn hl hnl
  rw [pickL_without] at hp
  clear hv hn
  go_enter Tryz.func100, Tryz.ntmps100
  go_wp2_with (first | (go_at_call 125; refine hp.mono ?_; rintro e w1 ⟨u1, rfl, ho1, hb1⟩))
  go_ret
  exact ⟨_, rfl, ho1, hb1⟩
/-! ### Compare -/
def cmpN (a b : Int) : Int := if a < b then -1 else if b < a then 1 else 0
set_option maxRecDepth 100000 in
set_option maxHeartbeats 1000000 in
theorem isNaN_any (x : Int) (w : World) : Calls Tryz.prog 110 #[.int .i64 x] w fun e w' => e = .returned (.bool false) ∧ w' = w := by
  have h : (x != x) = false := by simp
  go_enter Tryz.func110, Tryz.ntmps110
  go_wp2
  go_ret
  exact ⟨rfl, rfl⟩
set_option maxRecDepth 100000 in
set_option maxHeartbeats 1000000 in
theorem icmp_any (x y : Int) (w : World) : Calls Tryz.prog 85 #[.int .i64 x, .int .i64 y] w fun e w' => e = .returned (.int .i64 (cmpN x y)) ∧ w' = w := by
  have h := fun z W => isNaN_any z W
  by_cases h1 : x < y
  · have hR : Hid (cmpN x y = -1) := by show _ = _; unfold cmpN; rw [if_pos h1]
    go_enter Tryz.func85, Tryz.ntmps85
    go_wp2_with (first | (go_at_call 110; refine (h _ _).mono ?_; rintro e wx ⟨rfl, hwx⟩; subst wx))
    go_ret
    exact ⟨by rw [hR.out]; rfl, rfl⟩
  · by_cases h2 : y < x
    · have hR : Hid (cmpN x y = 1) := by show _ = _; unfold cmpN; rw [if_neg h1, if_pos h2]
      go_enter Tryz.func85, Tryz.ntmps85
      go_wp2_with (first | (go_at_call 110; refine (h _ _).mono ?_; rintro e wx ⟨rfl, hwx⟩; subst wx))
      go_ret
      exact ⟨by rw [hR.out]; rfl, rfl⟩
    · have hR : Hid (cmpN x y = 0) := by show _ = _; unfold cmpN; rw [if_neg h1, if_neg h2]
      go_enter Tryz.func85, Tryz.ntmps85
      go_wp2_with (first | (go_at_call 110; refine (h _ _).mono ?_; rintro e wx ⟨rfl, hwx⟩; subst wx))
      go_ret
      exact ⟨by rw [hR.out]; rfl, rfl⟩
theorem cmpS_app (p x y : List Lb) : cmpS (p ++ x) (p ++ y) = cmpS x y := by
  induction p with
  | nil => rfl
  | cons a p ih =>
    rw [List.cons_append, List.cons_append, cmpS, if_pos (cmpB_eq.2 rfl), ih]
theorem cmpS_drop {a b : List Lb} {k : Nat} (h : a.take k = b.take k) : cmpS a b = cmpS (a.drop k) (b.drop k) := by
  have e1 : a = a.take k ++ a.drop k := (List.take_append_drop k a).symm
  have e2 : b = a.take k ++ b.drop k := by rw [h]; exact (List.take_append_drop k b).symm
  calc cmpS a b = cmpS (a.take k ++ a.drop k) (a.take k ++ b.drop k) := by rw [← e1, ← e2]
    _ = _ := cmpS_app _ _ _
theorem drop_getD (l : List Lb) (k : Nat) (h : k < l.length) : l.drop k = l.getD k lb0 :: l.drop (k + 1) := by
  rw [List.drop_eq_getElem_cons h]; simp [h]
theorem cmpS_at {a b : List Lb} {k : Nat} (h : a.take k = b.take k) (ha : k < a.length) (hb : k < b.length) (hne : a.getD k lb0 ≠ b.getD k lb0) : cmpS a b = cmpB (a.getD k lb0) (b.getD k lb0) := by
  rw [cmpS_drop h, drop_getD a k ha, drop_getD b k hb, cmpS, if_neg (fun e => hne (cmpB_eq.1 e))]
theorem cmpS_end {a b : List Lb} {k : Nat} (h : a.take k = b.take k) (hk : k = min a.length b.length) : cmpS a b = cmpN a.length b.length := by
  rw [cmpS_drop h]
  unfold cmpN
  by_cases h1 : a.length < b.length
  · have ha : a.drop k = [] := List.drop_eq_nil_iff.2 (by omega)
    rw [ha, drop_getD b k (by omega), cmpS, if_pos (by omega)]
  · rw [if_neg (by omega)]
    have hb : b.drop k = [] := List.drop_eq_nil_iff.2 (by omega)
    by_cases h2 : b.length < a.length
    · rw [hb, drop_getD a k (by omega), cmpS, if_pos (by omega)]
    · have ha : a.drop k = [] := List.drop_eq_nil_iff.2 (by omega)
      rw [ha, hb, cmpS, if_neg (by omega)]
set_option maxRecDepth 100000 in
set_option maxHeartbeats 2000000 in
/-- labels.Compare. -/
theorem compare_any (v u : Value) (a b : List Lb) (w : World) (hv : Lbs w v a) (hu : Lbs w u b) (hla : a.length ≤ 1000000) (hlb : b.length ≤ 1000000) :
    Calls Tryz.prog 47 #[v, u] w fun e w' => e = .returned (.int .i64 (cmpS a b)) ∧ Below w.heap.size w w' := by
  obtain ⟨a1, c1, rfl⟩ := hv.shape
  obtain ⟨a2, c2, rfl⟩ := hu.shape
  replace hv : Hid (Lbs w (.slice a1 a.length c1) a) := hv
  replace hu : Hid (Lbs w (.slice a2 b.length c2) b) := hu
  obtain ⟨M, hM⟩ : ∃ M : Nat, Hid (M = min a.length b.length) := ⟨_, rfl⟩
  have hmin : min (a.length : Int) (b.length : Int) = (M : Int) := by rw [hM.out]; omega
  have hMa : M ≤ a.length := by rw [hM.out]; omega
  have hMb : M ≤ b.length := by rw [hM.out]; omega
  go_enter Tryz.func47, Tryz.ntmps47
  go_wp2
  clear hmin
  go_loopw [11] (fun i wr => ∃ k d : Nat, k ≤ M ∧ i = .int .i64 k ∧ Hid (a.take k = b.take k) ∧ wr = w.drewN d) (fun i _ => M - (intOf i).toNat)
  case atStart => exact ⟨0, 0, Nat.zero_le _, rfl, rfl, rfl⟩
  case round =>
    obtain ⟨k, d, hk, rfl, htk, rfl⟩ := hrel
    by_cases hlt : k < M
    · have hki : (k : Int) < (M : Int) := by omega
      have hka : (k : Int) < (a.length : Int) := by omega
      have hkb : (k : Int) < (b.length : Int) := by omega
      obtain ⟨b1, o1, rfl, x0, x1⟩ := lb_at hv.out k (by omega)
      obtain ⟨b2, o2, rfl, y0, y1⟩ := lb_at hu.out k (by omega)
      by_cases hpq : a.getD k lb0 = b.getD k lb0
      · have hst : Hid (a.take (k + 1) = b.take (k + 1)) := by
          show _ = _
          rw [take_getD a lb0 k (by omega), take_getD b lb0 k (by omega), htk.out, hpq]
        rw [hpq] at x0 x1
        clear hpq
        generalize b.getD k lb0 = x at *
        obtain ⟨nx, vx⟩ := x
        simp only at x0 x1 y0 y1
        go_wp2
        go_quiet (fail)
        go_wp2
        refine ⟨⟨k + 1, _, by omega, by go_num, hst, rfl⟩, ?_⟩
        simp [intOf]; omega
      · have hR : Hid (cmpS a b = cmpB (a.getD k lb0) (b.getD k lb0)) := cmpS_at htk.out (by omega) (by omega) hpq
        have hc := fun W => compareLabel_bel (a.getD k lb0) (b.getD k lb0) W
        have hb3 : (((a.getD k lb0).name.toList == (b.getD k lb0).name.toList) = false) ∨ (((a.getD k lb0).name.toList == (b.getD k lb0).name.toList) = true ∧ ((a.getD k lb0).value.toList == (b.getD k lb0).value.toList) = false) := by
          cases e2 : ((a.getD k lb0).name.toList == (b.getD k lb0).name.toList) with
          | false => exact .inl rfl
          | true =>
            cases e3 : ((a.getD k lb0).value.toList == (b.getD k lb0).value.toList) with
            | false => exact .inr ⟨rfl, rfl⟩
            | true =>
              exfalso
              exact hpq (lb_ext (toList_eq e2) (toList_eq e3))
        clear hpq
        generalize a.getD k lb0 = x at *
        generalize b.getD k lb0 = y at *
        generalize cmpB x y = C at *
        obtain ⟨nx, vx⟩ := x
        obtain ⟨ny, vy⟩ := y
        unfold lbV at hc
        simp only at x0 x1 y0 y1 hb3 hc
        rcases hb3 with e1 | ⟨e1, e2⟩
        all_goals
          go_wp2
          go_quiet (fail)
          go_wp2
          have hBd : Below w.heap.size w ((w.drewN d).drewN nq) := below_drewN (below_drewN (Below.refl _ _) _) _
          generalize (w.drewN d).drewN nq = wz at hBd ⊢
          have c0 : ∀ p : Bel wz, p.W.cell? ⟨b1, o1 + k * 2, none⟩ = some (.string nx) := fun p => p.cell ((hBd.cell (p := ⟨b1, o1 + k * 2, none⟩) (World.block_lt_of_cell? w _ x0)).trans x0)
          have d0 : ∀ p : Bel wz, p.W.cell? ⟨b1, o1 + k * 2 + 1, none⟩ = some (.string vx) := fun p => p.cell ((hBd.cell (p := ⟨b1, o1 + k * 2 + 1, none⟩) (World.block_lt_of_cell? w _ x1)).trans x1)
          have c1' : ∀ p : Bel wz, p.W.cell? ⟨b2, o2 + k * 2, none⟩ = some (.string ny) := fun p => p.cell ((hBd.cell (p := ⟨b2, o2 + k * 2, none⟩) (World.block_lt_of_cell? w _ y0)).trans y0)
          have d1' : ∀ p : Bel wz, p.W.cell? ⟨b2, o2 + k * 2 + 1, none⟩ = some (.string vy) := fun p => p.cell ((hBd.cell (p := ⟨b2, o2 + k * 2 + 1, none⟩) (World.block_lt_of_cell? w _ y1)).trans y1)
          refine wp_region_bel (by kernel_rfl) (by kernel_rfl) ?_
          repeat (go_big_quiet_step ((first | (go_at_call 84; exact Calls.bel (hc _)))))
          refine wpQuiet_nil ?_
          rintro wq ⟨⟨_, hq⟩, rfl⟩
          go_wp2
          go_ret
          exact ⟨by rw [hR.out]; rfl, hBd.trans (hq.mono hBd.size)⟩
    · obtain rfl : k = M := by omega
      have hki : ¬ (k : Int) < (k : Int) := by omega
      have hR : Hid (cmpS a b = cmpN a.length b.length) := cmpS_end htk.out hM.out
      have hc := fun W => icmp_any a.length b.length W
      generalize cmpN a.length b.length = C at *
      go_wp2_with (first | (go_at_call 85; refine (hc _).mono ?_; rintro e wx ⟨rfl, hwx⟩; subst wx))
      go_ret
      exact ⟨by rw [hR.out]; rfl, below_drewN (Below.refl _ _) _⟩
theorem bytes_of {l : List Int} (h : ∀ c ∈ l, 0 ≤ c ∧ c < 256) : IsBytes l := h
theorem labK_bytes (a : Lb) : IsBytes (labK a) := by
  unfold labK
  refine isBytes_append (isBytes_append (isBytes_append (numsS_bytes _) (bytes_of ?_)) (esc_bytes (numsS_bytes _))) (bytes_of ?_)
  · intro c hc; simp at hc; omega
  · intro c hc; simp at hc; omega
theorem restK_bytes (l : List Lb) : IsBytes (restK l) := by
  induction l with
  | nil => intro c hc; cases hc
  | cons a l ih =>
    unfold restK
    refine isBytes_append (a := 44 :: labK a) ?_ ih
    intro c hc
    rcases List.mem_cons.1 hc with rfl | hc
    · omega
    · exact labK_bytes a c hc
theorem keyL_bytes (l : List Lb) : IsBytes (keyL l) := by
  unfold keyL
  refine isBytes_append (a := 123 :: bodyK l) ?_ (bytes_of ?_)
  · intro c hc
    rcases List.mem_cons.1 hc with rfl | hc
    · omega
    · cases l with
      | nil => cases hc
      | cons a l => exact isBytes_append (labK_bytes a) (restK_bytes l) c hc
  · intro c hc; simp at hc; omega
end Go.Proofs.YtiajafljgfpdcaaGreat
