/- appendQuoted, Key. -/
import Derived.Test.YtiajafljgfpdcaaGreatMk
namespace Go.Proofs.YtiajafljgfpdcaaGreat
set_option linter.unusedVariables false
open Go.RowKit
theorem esc_take (s : ByteArray) (k : Nat) (hk : k < s.size) : esc ((numsS s).take (k + 1)) = esc ((numsS s).take k) ++ (if byteAt s k = 92 ∨ byteAt s k = 34 then [92, byteAt s k] else [byteAt s k]) := by
  rw [take_getD (numsS s) 0 k (by rw [numsS_length]; exact hk), esc_append]
  show _ ++ esc [byteAt s k] = _
  by_cases h : byteAt s k = 92 ∨ byteAt s k = 34
  · simp [esc, h]
  · simp [esc, h]
set_option maxRecDepth 100000 in
set_option maxHeartbeats 2000000 in
theorem quoted_any (base : Nat) (v : Value) (xs : List Int) (s : ByteArray) (w : World) (hown : Own w base v xs) (hbase : base ≤ w.heap.size) (hx : xs.length ≤ 1000000) (hs : s.size ≤ 1000) :
    Calls Tryz.prog 68 #[v, .string s] w fun e w' => ∃ v', e = .returned v' ∧ Own w' base v' (xs ++ 34 :: (esc (numsS s) ++ [34])) ∧ Below base w w' := by
  go_enter Tryz.func68, Tryz.ntmps68
  go_wp2_with (first | (at_builtin; refine app1 rfl (.tmp 6) (.tmp 7) rfl base v xs 34 rfl rfl hown hbase (by omega) ?_; intro v1 w1 ho1 hb1))
  go_loopw [0, 11] (fun u i wr => ∃ k : Nat, k ≤ s.size ∧ i = .int .i64 k ∧ Own wr base u (xs ++ [34] ++ esc ((numsS s).take k)) ∧ Below base w wr) (fun _ i _ => s.size - (intOf i).toNat)
  case atStart => exact ⟨0, Nat.zero_le _, rfl, ho1.cast (by simp [esc]), hb1⟩
  case round =>
    clear ho1 hb1 hown
    obtain ⟨k, hk, rfl, ho, hB⟩ := hrel
    have hsz : base ≤ wr.heap.size := Nat.le_trans hbase hB.size
    have hel : (esc ((numsS s).take k)).length ≤ 2000 := by
      have h1 := esc_len ((numsS s).take k)
      have h2 : ((numsS s).take k).length ≤ s.size := by rw [List.length_take, numsS_length]; omega
      omega
    have hlen : (xs ++ [34] ++ esc ((numsS s).take k)).length ≤ 1002001 := by simp; omega
    by_cases hlt : k < s.size
    · have hki : (k : Int) < (s.size : Int) := by omega
      have hgt : Hid (((s[k].toNat : Nat) : Int) = byteAt s k) := byteAt_get s k hlt
      have het : Hid (xs ++ [34] ++ esc ((numsS s).take (k + 1)) = (xs ++ [34] ++ esc ((numsS s).take k)) ++ (if ((s[k].toNat : Nat) : Int) = 92 ∨ ((s[k].toNat : Nat) : Int) = 34 then [92, ((s[k].toNat : Nat) : Int)] else [((s[k].toNat : Nat) : Int)])) := by
        show _ = _
        rw [esc_take s k hlt, hgt.out, List.append_assoc _ (esc _)]
      clear hgt
      generalize xs ++ [34] ++ esc ((numsS s).take k) = ys at *
      have h2 : ((((s[k].toNat : Nat) : Int) == 92) = true) ∨ ((((s[k].toNat : Nat) : Int) == 92) = false ∧ (((s[k].toNat : Nat) : Int) == 34) = true) ∨ ((((s[k].toNat : Nat) : Int) == 92) = false ∧ (((s[k].toNat : Nat) : Int) == 34) = false) := by
        cases (((s[k].toNat : Nat) : Int) == 92) <;> cases (((s[k].toNat : Nat) : Int) == 34) <;> simp
      rcases h2 with e1 | ⟨e1, e2⟩ | ⟨e1, e2⟩
      · go_wp2_with (first
          | (at_builtin; refine app1 rfl (.tmp 24) (.tmp 25) rfl base _ ys 92 rfl rfl ho hsz (by omega) ?_; intro v2 w2 ho2 hb2)
          | (at_builtin; refine app1 rfl (.tmp 27) (.tmp 31) rfl base v2 _ _ rfl rfl ho2 (by have := hb2.size; omega) (by simp; omega) ?_; intro v3 w3 ho3 hb3))
        refine ⟨⟨k + 1, by omega, by go_num, ho3.cast ?_, (hB.trans hb2).trans hb3⟩, ?_⟩
        · rw [het.out, if_pos (.inl (by simpa using e1))]; simp
        · simp [intOf]; omega
      · go_wp2_with (first
          | (at_builtin; refine app1 rfl (.tmp 24) (.tmp 25) rfl base _ ys 92 rfl rfl ho hsz (by omega) ?_; intro v2 w2 ho2 hb2)
          | (at_builtin; refine app1 rfl (.tmp 27) (.tmp 31) rfl base v2 _ _ rfl rfl ho2 (by have := hb2.size; omega) (by simp; omega) ?_; intro v3 w3 ho3 hb3))
        refine ⟨⟨k + 1, by omega, by go_num, ho3.cast ?_, (hB.trans hb2).trans hb3⟩, ?_⟩
        · rw [het.out, if_pos (.inr (by simpa using e2))]; simp
        · simp [intOf]; omega
      · go_wp2_with (first
          | (at_builtin; refine app1 rfl (.tmp 27) (.tmp 31) rfl base _ ys _ rfl rfl ho hsz (by omega) ?_; intro v3 w3 ho3 hb3))
        refine ⟨⟨k + 1, by omega, by go_num, ho3.cast ?_, hB.trans hb3⟩, ?_⟩
        · rw [het.out, if_neg (by rintro (h | h) <;> simp [h] at e1 e2)]
        · simp [intOf]; omega
    · obtain rfl : k = s.size := by omega
      have hki : ¬ (s.size : Int) < (s.size : Int) := by omega
      rw [List.take_of_length_le (by rw [numsS_length]; exact Nat.le_refl _)] at ho hlen hel
      have hfin : Hid ((xs ++ [34] ++ esc (numsS s)) ++ [34] = xs ++ 34 :: (esc (numsS s) ++ [34])) := by show _ = _; simp
      generalize xs ++ [34] ++ esc (numsS s) = ys at *
      go_wp2_with (first
          | (at_builtin; refine app1 rfl (.tmp 34) (.tmp 35) rfl base _ ys 34 rfl rfl ho hsz (by omega) ?_; intro v3 w3 ho3 hb3))
      go_ret
      exact ⟨_, rfl, ho3.cast hfin.out, hB.trans hb3⟩
/-- append(s, c), with what is kept. -/
theorem app1G {w : World} {ops : Array Oper} {rest : List Oper} {o : Oper} {a : Act} {Q : Exit → Act → World → Prop} (hgd : o.guard = none) (s x : Operand)
    (ho : o.op = .call { callee := .builtin .append, args := #[s, x], argTypes := #[43, 43] })
    (base : Nat) (v : Value) (xs : List Int) (c : Int) (hs : a.eval s = v) (hx : a.eval x = .slice (some ⟨w.heap.size, 0, none⟩) 1 1)
    (hown : Own w base v xs) (hbase : base ≤ w.heap.size) (hlen : xs.length ≤ 1000000000)
    (h : ∀ v' w', Own w' base v' (xs ++ [c]) → Below base w w' → (w.alloc (.cells #[.int .u8 c] 5)).grownBy w' v.ownBlock → wpList Tryz.prog ops Q rest (a.put o.dst v') w') :
    wpList Tryz.prog ops Q (o :: rest) a (w.alloc (.cells #[.int .u8 c] 5)) := by
  obtain ⟨i0, hi, hz0, hz1, hz2⟩ := info_parts info5
  refine wpList_append_own _ hgd s x 43 ho base 5 i0 (.int .u8 0) 1 1 Tryz.underlying43 hi hz0 hz1 hz2 rfl (by decide) v xs.length (xs.map (Value.int .u8)) hs (hown.alloc _) ⟨w.heap.size, 0, none⟩ 1 1 [.int .u8 c] hx rfl (cell_one_new _ _ _) ?_ ?_ ?_ ?_ ?_
  · intro u hu; simp at hu; subst hu; rfl
  · unfold maxLen; omega
  · omega
  · simp; omega
  · intro v' w' h1 h2 _
    refine h v' w' ?_ ?_ h2
    · unfold Own; simpa using h1
    · refine ((Below.refl base w).alloc hbase _).grown h2 (by simp; omega) (fun k hk => ?_)
      exact (hown.lt k hk).1
/-- append(s, x...), x a string, with what is kept. -/
theorem appSG {w : World} {ops : Array Oper} {rest : List Oper} {o : Oper} {a : Act} {Q : Exit → Act → World → Prop} (hgd : o.guard = none) (sl x : Operand)
    (ho : o.op = .call { callee := .builtin .append, args := #[sl, x], argTypes := #[43, 9] })
    (base : Nat) (v : Value) (xs : List Int) (s : ByteArray) (hs : a.eval sl = v) (hx : a.eval x = .string s)
    (hown : Own w base v xs) (hbase : base ≤ w.heap.size) (hlen : xs.length + s.size ≤ 140737488355328)
    (h : ∀ v' w', Own w' base v' (xs ++ numsS s) → Below base w w' → w.grownBy w' v.ownBlock → wpList Tryz.prog ops Q rest (a.put o.dst v') w') :
    wpList Tryz.prog ops Q (o :: rest) a w := by
  obtain ⟨i0, hi, hz0, hz1, hz2⟩ := info_parts info5
  refine Lib.wpList_append_own_string _ hgd sl x 43 9 ho base 5 i0 Tryz.underlying43 Tryz.underlying9 hi hz0 hz1 hz2 v xs.length (xs.map (Value.int .u8)) hs hown s hx (by unfold maxLen; omega) hlen hbase ?_
  intro v' w' h1 h2 _
  refine h v' w' ?_ ((Below.refl base w).grown h2 hbase (fun k hk => (hown.lt k hk).1)) h2
  unfold Own
  have e : (xs ++ numsS s).map (Value.int .u8) = xs.map (Value.int .u8) ++ Lib.strCells s := by simp [numsS, Lib.strCells]
  rw [e, List.length_append, numsS_length]; exact h1
/-- A label's box. -/
def BoxL (w : World) (g : Nat) (n v : ByteArray) : Prop := w.heap[g]? = some (.cells #[.string n, .string v] 70)
theorem BoxL.cells {w : World} {g : Nat} {n v : ByteArray} (h : BoxL w g n v) : w.cell? ⟨g, 0, none⟩ = some (.string n) ∧ w.cell? ⟨g, 1, none⟩ = some (.string v) := by
  unfold BoxL at h
  exact ⟨by simp [World.cell?, h], by simp [World.cell?, h]⟩
theorem BoxL.keep {w w' : World} {g base : Nat} {n v : ByteArray} {u : Value} {xs : List Int} (h : BoxL w g n v) (ho : Own w base u xs) (hg : w.grownBy w' u.ownBlock) : BoxL w' g n v := by
  have hlt : g < w.heap.size := (Array.getElem?_eq_some_iff.1 h).1
  refine (hg.block g hlt fun e => ?_).trans h
  rcases ho.2 with ⟨rfl, _⟩ | ⟨g', cap, cur, rfl, _, hg', _⟩
  · cases e
  · have : g = g' := by simpa [Value.ownBlock] using e
    subst this
    unfold BoxL at h
    rw [h] at hg'
    cases hg'
theorem BoxL.alloc {w : World} {g : Nat} {n v : ByteArray} (h : BoxL w g n v) (o : Obj) : BoxL (w.alloc o) g n v := by
  have hlt : g < w.heap.size := (Array.getElem?_eq_some_iff.1 h).1
  exact (heap_old w o hlt).trans h
theorem bodyK_take (l : List Lb) (k : Nat) (hk : k < l.length) : bodyK (l.take (k + 1)) = bodyK (l.take k) ++ (if k = 0 then [] else [44]) ++ labK (l.getD k lb0) := by
  rw [take_getD l lb0 k hk, bodyK_snoc]
  by_cases h : k = 0
  · subst h; simp
  · have : l.take k ≠ [] := by
      intro e
      have := congrArg List.length e
      rw [List.length_take, List.length_nil] at this
      omega
    rw [if_neg this, if_neg h]
/-- Texts that are short. -/
def LbsS (l : List Lb) : Prop := ∀ a ∈ l, a.name.size ≤ 128 ∧ a.value.size ≤ 128
theorem IsSet.short {l : List Lb} (h : IsSet l) : LbsS l := fun a ha => ⟨by have := (h.1 a ha).1.1.2; omega, (h.1 a ha).2.2⟩
theorem LbsS.reach {l : List Lb} (h : LbsS l) : LbsR l := fun a ha => by
  have := h a ha
  unfold LbR reachBytes
  omega
theorem labK_len {a : Lb} (h : a.name.size ≤ 128 ∧ a.value.size ≤ 128) : (labK a).length ≤ 400 := by
  have := esc_len (numsS a.value)
  rw [numsS_length] at this
  simp [labK, numsS_length]; omega
theorem bodyK_len {l : List Lb} (h : LbsS l) (k : Nat) : (bodyK (l.take k)).length ≤ k * 401 := by
  induction k with
  | zero => simp [bodyK]
  | succ k ih =>
    by_cases hk : k < l.length
    · rw [bodyK_take l k hk]
      have h1 := labK_len (h _ (getD_mem l lb0 k hk))
      have h2 : (if k = 0 then ([] : List Int) else [44]).length ≤ 1 := by split <;> simp
      simp only [List.length_append]
      omega
    · rw [List.take_of_length_le (by omega)]
      rw [List.take_of_length_le (by omega)] at ih
      exact Nat.le_trans ih (Nat.mul_le_mul_right _ (Nat.le_succ k))
theorem own_one (w : World) (base : Nat) (c : Int) (h : base ≤ w.heap.size) : Own (w.alloc (.cells #[.int .u8 c] 5)) base (.slice (some ⟨w.heap.size, 0, none⟩) 1 1) [c] :=
  ⟨rfl, .inr ⟨w.heap.size, 1, _, rfl, h, heap_new _ _, Nat.le_refl _, by unfold maxLen; omega, rfl, rfl⟩⟩
set_option maxRecDepth 100000 in
set_option maxHeartbeats 2000000 in
theorem key_any (v : Value) (l : List Lb) (w : World) (hv : Lbs w v l) (hs : LbsS l) (hl : l.length ≤ 100) : Calls Tryz.prog 36 #[v] w fun e w' => e = .returned (.string (strOfNums (keyL l))) ∧ Below w.heap.size w w' := by
  obtain ⟨a, c, rfl⟩ := hv.shape
  replace hv : Hid (Lbs w (.slice a l.length c) l) := hv
  have hbl : Hid (∀ k, (bodyK (l.take k)).length ≤ k * 401) := fun k => bodyK_len hs k
  replace hs : Hid (LbsS l) := hs
  go_enter Tryz.func36, Tryz.ntmps36
  go_wp2
  go_loopw [3, 9] (fun u i wr => ∃ k : Nat, k ≤ l.length ∧ i = .int .i64 k ∧ Own wr w.heap.size u (123 :: bodyK (l.take k)) ∧ Below w.heap.size w wr) (fun _ i _ => l.length - (intOf i).toNat)
  case atStart => exact ⟨0, Nat.zero_le _, rfl, own_one w _ 123 (Nat.le_refl _), (Below.refl _ _).alloc (Nat.le_refl _) _⟩
  case round =>
    obtain ⟨k, hk, rfl, ho, hB⟩ := hrel
    have hbz : w.heap.size ≤ wr.heap.size := hB.size
    have hlen := hbl.out k
    by_cases hlt : k < l.length
    · have hki : (k : Int) < (l.length : Int) := by omega
      obtain ⟨b, o, rfl, x0, x1⟩ := lb_at (Sls.grow hv.out hB) k hlt
      have hbt : Hid ((123 :: bodyK (l.take (k + 1))) = (123 :: bodyK (l.take k)) ++ (if k = 0 then [] else [44]) ++ labK (l.getD k lb0)) := by
        show _ = _
        rw [bodyK_take l k hlt]; simp
      have hsz := hs.out _ (getD_mem l lb0 k hlt)
      have hlen2 : (123 :: bodyK (l.take k)).length ≤ 100000 := by simp; omega
      generalize l.getD k lb0 = x at *
      obtain ⟨n, u⟩ := x
      simp only at x0 x1 hsz
      generalize 123 :: bodyK (l.take k) = ys at *
      have hbox : BoxL (wr.alloc (.cells #[.string n, .string u] 70)) wr.heap.size n u := heap_new _ _
      by_cases hk0 : k = 0
      · rw [if_pos hk0, List.append_nil] at hbt
        have hk0i : ¬ (0 : Int) < (k : Int) := by omega
        clear hk0
        obtain ⟨p0, p1⟩ := hbox.cells
        have hq := fun v W (h : Own W w.heap.size v (ys ++ numsS n ++ [61])) hb => quoted_any w.heap.size v _ u W h hb (by simp [numsS_length]; omega) (by omega)
        go_wp2_with (first
          | (at_builtin; refine appSG rfl (.tmp 19) (.tmp 21) rfl w.heap.size _ ys n rfl rfl (ho.alloc _) (by simp; omega) (by omega) ?_; intro v2 w2 ho2 hb2 hg2; replace hbox := hbox.keep (ho.alloc _) hg2; obtain ⟨q0, q1⟩ := hbox.cells)
          | (at_builtin; refine app1G rfl (.tmp 22) (.tmp 23) rfl w.heap.size v2 _ 61 rfl rfl ho2 (by have := hb2.size; simp at this; omega) (by simp [numsS_length]; omega) ?_; intro v3 w3 ho3 hb3 hg3; replace hbox := (hbox.alloc _).keep (ho2.alloc _) hg3; obtain ⟨r0, r1⟩ := hbox.cells)
          | (go_at_call 68; refine (hq _ _ ho3 (by have := hb2.size; have := hb3.size; simp at *; omega)).mono ?_; rintro e w4 ⟨v4, rfl, ho4, hb4⟩))
        refine ⟨⟨k + 1, by omega, by go_num, ho4.cast ?_, ?_⟩, ?_⟩
        · rw [hbt.out]; simp [labK]
        · exact (((hB.alloc hbz _).trans hb2).trans hb3).trans hb4
        · simp [intOf]; omega
      · rw [if_neg hk0] at hbt
        have hk0i : (0 : Int) < (k : Int) := by omega
        clear hk0
        obtain ⟨p0, p1⟩ := hbox.cells
        have hq := fun v W (h : Own W w.heap.size v (ys ++ [44] ++ numsS n ++ [61])) hb => quoted_any w.heap.size v _ u W h hb (by simp [numsS_length]; omega) (by omega)
        go_wp2_with (first
          | (at_builtin; refine app1G rfl (.tmp 16) (.tmp 17) rfl w.heap.size _ ys 44 rfl (by rw [World.size_alloc]; rfl) (ho.alloc _) (by simp; omega) (by omega) ?_; intro v1 w1 ho1 hb1 hg1; replace hbox := (hbox.alloc _).keep ((ho.alloc _).alloc _) hg1; obtain ⟨s0, s1⟩ := hbox.cells; have hz1 : w.heap.size ≤ w1.heap.size := by (have := hb1.size; simp at this; omega))
          | (at_builtin; refine appSG rfl (.tmp 19) (.tmp 21) rfl w.heap.size _ _ n rfl rfl ho1 hz1 (by simp; omega) ?_; intro v2 w2 ho2 hb2 hg2; replace hbox := hbox.keep ho1 hg2; obtain ⟨q0, q1⟩ := hbox.cells; have hz2 : w.heap.size ≤ w2.heap.size := Nat.le_trans hz1 hb2.size)
          | (at_builtin; refine app1G rfl (.tmp 22) (.tmp 23) rfl w.heap.size v2 _ 61 rfl rfl ho2 hz2 (by simp [numsS_length]; omega) ?_; intro v3 w3 ho3 hb3 hg3; replace hbox := (hbox.alloc _).keep (ho2.alloc _) hg3; obtain ⟨r0, r1⟩ := hbox.cells)
          | (go_at_call 68; refine (hq _ _ ho3 (Nat.le_trans hz2 hb3.size)).mono ?_; rintro e w4 ⟨v4, rfl, ho4, hb4⟩))
        refine ⟨⟨k + 1, by omega, by go_num, ho4.cast ?_, ?_⟩, ?_⟩
        · rw [hbt.out]; simp [labK]
        · exact ((((hB.alloc hbz _).trans hb1).trans hb2).trans hb3).trans hb4
        · simp [intOf]; omega
    · obtain rfl : k = l.length := by omega
      have hki : ¬ (l.length : Int) < (l.length : Int) := by omega
      have hlen2 : (123 :: bodyK (l.take l.length)).length ≤ 100000 := by rw [List.length_cons]; omega
      have hke : Hid (keyL l = (123 :: bodyK (l.take l.length)) ++ [125]) := by
        show _ = _
        rw [List.take_of_length_le (Nat.le_refl _)]; rfl
      generalize 123 :: bodyK (l.take l.length) = ys at *
      go_wp2_with (first
          | (at_builtin; refine app1 rfl (.tmp 30) (.tmp 31) rfl w.heap.size _ ys 125 rfl rfl ho hbz (by omega) ?_; intro v3 w3 ho3 hb3; have hcv := conv_str ho3.bts))
      go_ret
      exact ⟨by rw [hke.out]; rfl, hB.trans hb3⟩
end Go.Proofs.YtiajafljgfpdcaaGreat
