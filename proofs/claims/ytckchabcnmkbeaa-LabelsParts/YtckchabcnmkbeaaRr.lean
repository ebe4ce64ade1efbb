/- The document's Key. -/
import Derived.Test.YtckchabcnmkbeaaRq
import Derived.Lib.SlBytesConst
namespace Go.Proofs.Ytckchabcnmkbeaa
set_option linter.unusedVariables false
open Go.RowKit
/-- append(s, c, d). -/
theorem app2 {w : World} {ops : Array Oper} {rest : List Oper} {o : Oper} {a : Act} {Q : Exit → Act → World → Prop} (hgd : o.guard = none) (s x : Operand)
    (ho : o.op = .call { callee := .builtin .append, args := #[s, x], argTypes := #[58, 58] })
    (base : Nat) (v : Value) (xs : List Int) (c d : Int) (hs : a.eval s = v) (hx : a.eval x = .slice (some ⟨w.heap.size, 0, none⟩) 2 2)
    (hown : Own w base v xs) (hbase : base ≤ w.heap.size) (hlen : xs.length ≤ 1000000000)
    (h : ∀ v' w', Own w' base v' (xs ++ [c, d]) → Below base w w' → wpList Try.prog ops Q rest (a.put o.dst v') w') :
    wpList Try.prog ops Q (o :: rest) a (w.alloc (.cells #[.int .u8 c, .int .u8 d] 5)) := by
  obtain ⟨i0, hi, hz0, hz1, hz2⟩ := info_parts info5
  refine wpList_append_own _ hgd s x 58 ho base 5 i0 (.int .u8 0) 1 1 Try.underlying58 hi hz0 hz1 hz2 rfl (by decide) v xs.length (xs.map (Value.int .u8)) hs (hown.alloc _) ⟨w.heap.size, 0, none⟩ 2 2 [.int .u8 c, .int .u8 d] hx rfl ?_ ?_ ?_ ?_ ?_ ?_
  · intro j y hj
    rw [add_at]
    simp only [World.cell?, heap_new]
    simpa using hj
  · intro u hu; simp at hu; rcases hu with rfl | rfl <;> rfl
  · unfold maxLen; omega
  · omega
  · simp; omega
  · intro v' w' h1 h2 _
    refine h v' w' ?_ ?_
    · unfold Own; simpa using h1
    · refine ((Below.refl base w).alloc hbase _).grown h2 (by simp; omega) (fun k hk => ?_)
      exact (hown.lt k hk).1
/-- A constant's one byte, which has no room behind it. -/
def Cst (w : World) (base : Nat) (v : Value) (c : Int) : Prop := ∃ g, v = .slice (some ⟨g, 0, none⟩) 1 1 ∧ base ≤ g ∧ w.cell? ⟨g, 0, none⟩ = some (.int .u8 c)
theorem Cst.cells {w : World} {g : Nat} {c : Int} (h : w.cell? ⟨g, 0, none⟩ = some (.int .u8 c)) : ∀ j u, ([c].map (Value.int .u8))[j]? = some u → w.cell? ((⟨g, 0, none⟩ : Addr).add j) = some u := by
  intro j u hj
  cases j with
  | zero =>
    have : u = .int .u8 c := by simpa using hj.symm
    rw [this, add_at]; exact h
  | succ j => simp at hj
theorem own_grown (w : World) (base n cap : Nat) (xs : List Int) (hn : n = xs.length) (hbase : base ≤ w.heap.size) (hlen : n ≤ 1000000000) :
    Own (w.drew.alloc (.cells ((xs.map (Value.int .u8)).toArray ++ Builtin.zeroCells (Value.int .u8 0).cells (grownCap w n cap 5 - n)) 5)) base (.slice (some ⟨w.heap.size, 0, none⟩) n (grownCap w n cap 5)) xs := by
  subst hn
  have hge := grownCap_ge w xs.length cap 5
  have hcm2 : grownCap w xs.length cap 5 ≤ maxLen := grownCap_le_maxLen w xs.length cap 5 (by unfold maxLen; omega)
  have hz1 : (Value.int IntKind.u8 0).cells.size = 1 := rfl
  refine ⟨by simp, .inr ⟨w.heap.size, _, _, rfl, hbase, heap_alloc_new w.drew _, hge, hcm2, ?_, ?_⟩⟩
  · simp only [Array.size_append, List.size_toArray, size_zeroCells, hz1, List.length_map]
    omega
  · simp only [Array.toList_append]
    rw [Nat.mul_one, show xs.length = (xs.map (Value.int .u8)).length by simp]
    exact List.take_left
theorem appS0 {w : World} {ops : Array Oper} {rest : List Oper} {o : Oper} {a : Act} {Q : Exit → Act → World → Prop} (hgd : o.guard = none) (sl x : Operand)
    (ho : o.op = .call { callee := .builtin .append, args := #[sl, x], argTypes := #[58, 9] })
    (base : Nat) (v : Value) (c : Int) (s : ByteArray) (hs : a.eval sl = v) (hx : a.eval x = .string s)
    (hown : Cst w base v c) (hbase : base ≤ w.heap.size) (hlen : s.size ≤ 1000000) (hpos : 0 < s.size)
    (h : ∀ v' w', Own w' base v' ([c] ++ numsS s) → Below base w w' → wpList Try.prog ops Q rest (a.put o.dst v') w') :
    wpList Try.prog ops Q (o :: rest) a w := by
  obtain ⟨i0, hi, hz0, hz1, hz2⟩ := info_parts info5
  obtain ⟨g, rfl, hg, hc⟩ := hown
  refine wpList_plain hgd fun K hK => ?_
  have hr := Lib.run_append_grow_string (P := Try.prog) w 58 9 o.type 5 i0 (.int .u8 0) Try.underlying58 Try.underlying9 hi hz0 ⟨g, 0, none⟩ 1 1 ([c].map (Value.int .u8)) (by rw [hz1]; rfl) (Cst.cells hc) s (by omega) (by omega) (by rw [hz2]; exact growslice_fits (by omega) (by omega))
  have how := own_grown w base (1 + s.size) 1 ([c] ++ numsS s) (by simp [numsS_length]; omega) hbase (by omega)
  have e : (([c] ++ numsS s).map (Value.int .u8)).toArray = ([c].map (Value.int .u8)).toArray ++ (Lib.strCells s).toArray := by simp [numsS, Lib.strCells]
  rw [e] at how
  unfold Oper.wp execOp
  simp only [ho, resolve, invoke, builtin, Sem.run_bind, Sem.run_pure, Result.andThen_ok, List.map_toArray, List.map_cons, List.map_nil, hs, hx]
  simp only [List.map_cons, List.map_nil] at hr how
  rw [hr]
  exact hK _ _ (h _ _ how ((Below.refl base w).drew.alloc hbase _))
theorem app10 {w : World} {ops : Array Oper} {rest : List Oper} {o : Oper} {a : Act} {Q : Exit → Act → World → Prop} (hgd : o.guard = none) (s x : Operand)
    (ho : o.op = .call { callee := .builtin .append, args := #[s, x], argTypes := #[58, 58] })
    (base : Nat) (v : Value) (c d : Int) (hs : a.eval s = v) (hx : a.eval x = .slice (some ⟨w.heap.size, 0, none⟩) 1 1)
    (hown : Cst w base v c) (hbase : base ≤ w.heap.size)
    (h : ∀ v' w', Own w' base v' ([c] ++ [d]) → Below base w w' → wpList Try.prog ops Q rest (a.put o.dst v') w') :
    wpList Try.prog ops Q (o :: rest) a (w.alloc (.cells #[.int .u8 d] 5)) := by
  obtain ⟨i0, hi, hz0, hz1, hz2⟩ := info_parts info5
  obtain ⟨g, rfl, hg, hc⟩ := hown
  refine wpList_plain hgd fun K hK => ?_
  have hc2 : (w.alloc (.cells #[.int .u8 d] 5)).cell? ⟨g, 0, none⟩ = some (.int .u8 c) := (((Below.refl w.heap.size w).alloc (Nat.le_refl _) _).cell (p := ⟨g, 0, none⟩) (World.block_lt_of_cell? w _ hc)).trans hc
  have hr := run_append_grow (P := Try.prog) (w.alloc (.cells #[.int .u8 d] 5)) 58 o.type 5 i0 (.int .u8 0) Try.underlying58 hi hz0 ⟨g, 0, none⟩ 1 1 ([c].map (Value.int .u8)) (by rw [hz1]; rfl) (Cst.cells hc2) ⟨w.heap.size, 0, none⟩ 1 1 [.int .u8 d] (by rw [hz1]; rfl) (cell_one_new _ _ _) (by omega) (by omega) (by rw [hz2]; exact growslice_fits (by omega) (by omega))
  have hb2 : base ≤ (w.alloc (.cells #[.int .u8 d] 5)).heap.size := by simp; omega
  have how := own_grown (w.alloc (.cells #[.int .u8 d] 5)) base (1 + 1) 1 ([c] ++ [d]) rfl hb2 (by omega)
  have e : (([c] ++ [d]).map (Value.int .u8)).toArray = ([c].map (Value.int .u8)).toArray ++ [Value.int .u8 d].toArray := rfl
  rw [e] at how
  unfold Oper.wp execOp
  simp only [ho, resolve, invoke, builtin, Sem.run_bind, Sem.run_pure, Result.andThen_ok, List.map_toArray, List.map_cons, List.map_nil, hs, hx]
  simp only [List.map_cons, List.map_nil] at hr how
  rw [hr]
  exact hK _ _ (h _ _ how (((Below.refl base w).alloc hbase _).drew.alloc hb2 _))
set_option maxRecDepth 100000 in
set_option maxHeartbeats 4000000 in
theorem rkey_any (v : Value) (l : List Lb) (w : World) (hv : Lbs w v l) (hs : LbsS l) (hp : ∀ x ∈ l, 0 < x.name.size) (hl : l.length ≤ 100) : Calls Try.prog 28 #[v] w fun e w' => e = .returned (.string (strOfNums (keyL l))) ∧ Below w.heap.size w w' := by
  obtain ⟨a, c, rfl⟩ := hv.shape
  replace hv : Hid (Lbs w (.slice a l.length c) l) := hv
  have hbl : Hid (∀ k, (bodyK (l.take k)).length ≤ k * 401) := fun k => bodyK_len hs k
  replace hs : Hid (LbsS l) := hs
  replace hp : Hid (∀ x ∈ l, 0 < x.name.size) := hp
  have kc := Lib.run_convert_bytes_const (P := Try.prog) w 58 5 #[.int .u8 123] 1 1 Try.underlying58 Try.underlying5
  have hc0 : Hid (Cst (w.alloc (.cells #[.int .u8 123] 5 (1, 2))) w.heap.size (.slice (some ⟨w.heap.size, 0, none⟩) 1 1) 123) := ⟨_, rfl, Nat.le_refl _, World.cell?_alloc_mark w #[.int .u8 123] 5 (1, 2) 0⟩
  go_enter Try.func28, Try.ntmps28
  go_wp2
  go_loopw [3, 4] (fun u i wr => ∃ k : Nat, k ≤ l.length ∧ i = .int .i64 k ∧ (k = 0 ∧ Cst wr w.heap.size u 123 ∨ 0 < k ∧ Own wr w.heap.size u (123 :: bodyK (l.take k))) ∧ Below w.heap.size w wr) (fun _ i _ => l.length - (intOf i).toNat)
  case atStart => exact ⟨0, Nat.zero_le _, rfl, .inl ⟨rfl, hc0.out⟩, (Below.refl _ _).alloc (Nat.le_refl _) _⟩
  case round =>
    obtain ⟨k, hk, rfl, ho, hB⟩ := hrel
    have hbz : w.heap.size ≤ wr.heap.size := hB.size
    have hlen := hbl.out k
    by_cases hlt : k < l.length
    · have hki : (k : Int) < (l.length : Int) := by omega
      have hlk : Hid (∀ W, Below w.heap.size w W → ∃ b o, a = some ⟨b, o, none⟩ ∧ W.cell? ⟨b, o + k * 2, none⟩ = some (.string (l.getD k lb0).name) ∧ W.cell? ⟨b, o + k * 2 + 1, none⟩ = some (.string (l.getD k lb0).value)) := fun W h => lb_at (Sls.grow hv.out h) k hlt
      have hbt : Hid ((123 :: bodyK (l.take (k + 1))) = (123 :: bodyK (l.take k)) ++ (if k = 0 then [] else [44]) ++ labK (l.getD k lb0)) := by
        show _ = _
        rw [bodyK_take l k hlt]; simp
      have hsz := hs.out _ (getD_mem l lb0 k hlt)
      have hps := hp.out _ (getD_mem l lb0 k hlt)
      have hlen2 : (123 :: bodyK (l.take k)).length ≤ 100000 := by simp; omega
      obtain ⟨b, o, rfl, x0, x1⟩ := hlk.out wr hB
      replace hlk : Hid (∀ W, Below w.heap.size w W → W.cell? ⟨b, o + k * 2, none⟩ = some (.string (l.getD k lb0).name) ∧ W.cell? ⟨b, o + k * 2 + 1, none⟩ = some (.string (l.getD k lb0).value)) := fun W h => by
        obtain ⟨b', o', e, h1, h2⟩ := hlk.out W h
        cases e
        exact ⟨h1, h2⟩
      generalize l.getD k lb0 = x at *
      obtain ⟨n, s⟩ := x
      simp only at x0 x1 hsz hps hlk
      rcases ho with ⟨hk0, ho⟩ | ⟨hk0, ho⟩
      case' inl =>
        have hfin : Hid ((123 :: bodyK (l.take (k + 1))) = ([123] ++ numsS n ++ [61, 34]) ++ esc (numsS s) ++ [34]) := by
          show _ = _
          rw [hbt.out, if_pos hk0, hk0]; simp [labK, bodyK]
        have hk0i : ¬ (0 : Int) < (k : Int) := by omega
        have hYl : ([123] ++ numsS n ++ [61, 34]).length ≤ 200000 := by simp [numsS_length]; omega
        clear hk0 hbt hlen2 hlen
        go_wp2_with (first
          | (at_builtin; refine appS0 rfl (.tmp 20) (.tmp 25) rfl w.heap.size _ 123 n rfl rfl ho hbz (by omega) hps ?_; intro v2 w2 ho2 hb2)
          | (at_builtin; refine app2 rfl (.tmp 27) (.tmp 28) rfl w.heap.size v2 _ 61 34 rfl rfl ho2 (Nat.le_trans hbz hb2.size) (by simp [numsS_length]; omega) ?_; intro v3 w3 ho3 hb3; have hB3 := (hB.trans hb2).trans hb3))
        generalize [123] ++ numsS n ++ [61, 34] = Ys at *
        clear hb2 hb3 ho2 ho
      case' inr =>
        generalize hys : 123 :: bodyK (l.take k) = ys at *
        clear hys
        have hfin : Hid ((123 :: bodyK (l.take (k + 1))) = (ys ++ [44] ++ numsS n ++ [61, 34]) ++ esc (numsS s) ++ [34]) := by
          show _ = _
          rw [hbt.out, if_neg (by omega)]; simp [labK]
        have hk0i : (0 : Int) < (k : Int) := by omega
        have hys : ys.length ≤ 100000 := hlen2
        have hYl : (ys ++ [44] ++ numsS n ++ [61, 34]).length ≤ 200000 := by simp [numsS_length]; omega
        clear hk0 hbt hlen2 hlen
        go_wp2_with (first
          | (at_builtin; refine app1 rfl (.tmp 17) (.tmp 18) rfl w.heap.size _ ys 44 rfl rfl ho hbz (by omega) ?_; intro v1 w1 ho1 hb1; obtain ⟨z0, z1⟩ := hlk.out w1 (hB.trans hb1))
          | (at_builtin; refine appS rfl (.tmp 20) (.tmp 25) rfl w.heap.size _ (ys ++ [44]) n rfl rfl ho1 (Nat.le_trans hbz hb1.size) (by simp; omega) ?_; intro v2 w2 ho2 hb2)
          | (at_builtin; refine app2 rfl (.tmp 27) (.tmp 28) rfl w.heap.size v2 _ 61 34 rfl rfl ho2 (Nat.le_trans hbz (Nat.le_trans hb1.size hb2.size)) (by simp [numsS_length]; omega) ?_; intro v3 w3 ho3 hb3; have hB3 := ((hB.trans hb1).trans hb2).trans hb3))
        generalize ys ++ [44] ++ numsS n ++ [61, 34] = Ys at *
        clear hb1 hb2 hb3 ho1 ho2 ho
      all_goals
        go_loopw [3, 5] (fun u i wq => ∃ j : Nat, j ≤ s.size ∧ i = .int .i64 j ∧ Own wq w.heap.size u (Ys ++ esc ((numsS s).take j)) ∧ Below w.heap.size w wq) (fun _ i _ => s.size - (intOf i).toNat)
        case atStart => exact ⟨0, Nat.zero_le _, rfl, ho3.cast (by simp [esc]), hB3⟩
        case round =>
          clear ho3 hB3 hk0i
          obtain ⟨j, hj, rfl, ho, hBq⟩ := hrel
          have hsz2 : w.heap.size ≤ wr.heap.size := hBq.size
          obtain ⟨z0, z1⟩ := hlk.out wr hBq
          have hel : (esc ((numsS s).take j)).length ≤ 2000 := by
            have h1 := esc_len ((numsS s).take j)
            have h2 : ((numsS s).take j).length ≤ s.size := by rw [List.length_take, numsS_length]; omega
            omega
          have hlen : (Ys ++ esc ((numsS s).take j)).length ≤ 300000 := by simp; omega
          by_cases hlt2 : j < s.size
          · have hji : (j : Int) < (s.size : Int) := by omega
            have hgt : Hid (((s[j].toNat : Nat) : Int) = byteAt s j) := byteAt_get s j hlt2
            have het : Hid (Ys ++ esc ((numsS s).take (j + 1)) = (Ys ++ esc ((numsS s).take j)) ++ (if ((s[j].toNat : Nat) : Int) = 92 ∨ ((s[j].toNat : Nat) : Int) = 34 then [92, ((s[j].toNat : Nat) : Int)] else [((s[j].toNat : Nat) : Int)])) := by
              show _ = _
              rw [esc_take s j hlt2, hgt.out, List.append_assoc _ (esc _)]
            clear hgt
            generalize Ys ++ esc ((numsS s).take j) = zs at *
            have h2 : ((((s[j].toNat : Nat) : Int) == 92) = true) ∨ ((((s[j].toNat : Nat) : Int) == 92) = false ∧ (((s[j].toNat : Nat) : Int) == 34) = true) ∨ ((((s[j].toNat : Nat) : Int) == 92) = false ∧ (((s[j].toNat : Nat) : Int) == 34) = false) := by
              cases (((s[j].toNat : Nat) : Int) == 92) <;> cases (((s[j].toNat : Nat) : Int) == 34) <;> simp
            rcases h2 with e1 | ⟨e1, e2⟩ | ⟨e1, e2⟩
            · go_wp2_with (first
                | (at_builtin; refine app1 rfl (.tmp 53) (.tmp 54) rfl w.heap.size _ zs 92 rfl rfl ho hsz2 (by omega) ?_; intro v2 w2 ho2 hb2)
                | (at_builtin; refine app1 rfl (.tmp 56) (.tmp 58) rfl w.heap.size v2 _ _ rfl rfl ho2 (by have := hb2.size; omega) (by simp; omega) ?_; intro v3 w3 ho3 hb3))
              refine ⟨⟨j + 1, by omega, by go_num, ho3.cast ?_, (hBq.trans hb2).trans hb3⟩, ?_⟩
              · rw [het.out, if_pos (.inl (by simpa using e1))]; simp
              · simp [intOf]; omega
            · go_wp2_with (first
                | (at_builtin; refine app1 rfl (.tmp 53) (.tmp 54) rfl w.heap.size _ zs 92 rfl rfl ho hsz2 (by omega) ?_; intro v2 w2 ho2 hb2)
                | (at_builtin; refine app1 rfl (.tmp 56) (.tmp 58) rfl w.heap.size v2 _ _ rfl rfl ho2 (by have := hb2.size; omega) (by simp; omega) ?_; intro v3 w3 ho3 hb3))
              refine ⟨⟨j + 1, by omega, by go_num, ho3.cast ?_, (hBq.trans hb2).trans hb3⟩, ?_⟩
              · rw [het.out, if_pos (.inr (by simpa using e2))]; simp
              · simp [intOf]; omega
            · go_wp2_with (first
                | (at_builtin; refine app1 rfl (.tmp 56) (.tmp 58) rfl w.heap.size _ zs _ rfl rfl ho hsz2 (by omega) ?_; intro v3 w3 ho3 hb3))
              refine ⟨⟨j + 1, by omega, by go_num, ho3.cast ?_, hBq.trans hb3⟩, ?_⟩
              · rw [het.out, if_neg (by rintro (h | h) <;> simp [h] at e1 e2)]
              · simp [intOf]; omega
          · obtain rfl : j = s.size := by omega
            have hji : ¬ (s.size : Int) < (s.size : Int) := by omega
            rw [List.take_of_length_le (by rw [numsS_length]; exact Nat.le_refl _)] at ho hlen hel
            generalize Ys ++ esc (numsS s) = zs at *
            go_wp2_with (first
              | (at_builtin; refine app1 rfl (.tmp 60) (.tmp 61) rfl w.heap.size _ zs 34 rfl rfl ho hsz2 (by omega) ?_; intro v3 w3 ho3 hb3))
            refine ⟨⟨k + 1, by omega, by go_num, .inr ⟨by omega, ho3.cast hfin.out.symm⟩, hBq.trans hb3⟩, ?_⟩
            simp [intOf]; omega
    · obtain rfl : k = l.length := by omega
      have hki : ¬ (l.length : Int) < (l.length : Int) := by omega
      rcases ho with ⟨hk0, ho⟩ | ⟨hk0, ho⟩
      · have hke : Hid (keyL l = [123] ++ [125]) := by
          show _ = _
          rw [List.length_eq_zero_iff.1 hk0]; rfl
        clear hk0
        go_wp2_with (first
          | (at_builtin; refine app10 rfl (.tmp 63) (.tmp 64) rfl w.heap.size _ 123 125 rfl rfl ho hbz ?_; intro v3 w3 ho3 hb3; have hcv := conv_str ho3.bts))
        go_ret
        exact ⟨by rw [hke.out]; rfl, hB.trans hb3⟩
      · have hlen2 : (123 :: bodyK (l.take l.length)).length ≤ 100000 := by rw [List.length_cons]; omega
        have hke : Hid (keyL l = (123 :: bodyK (l.take l.length)) ++ [125]) := by
          show _ = _
          rw [List.take_of_length_le (Nat.le_refl _)]; rfl
        generalize 123 :: bodyK (l.take l.length) = ys at *
        go_wp2_with (first
          | (at_builtin; refine app1 rfl (.tmp 63) (.tmp 64) rfl w.heap.size _ ys 125 rfl rfl ho hbz (by omega) ?_; intro v3 w3 ho3 hb3; have hcv := conv_str ho3.bts))
        go_ret
        exact ⟨by rw [hke.out]; rfl, hB.trans hb3⟩
end Go.Proofs.Ytckchabcnmkbeaa
