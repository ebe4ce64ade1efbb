/- The writers of the document's own answer (package klaxonref01): their contracts, the block that is appended to named. -/
import Derived.Test.YtfbeilninpapaaaLeastM
import Derived.Test.YtfbeilninpapaaaMark
import Derived.Maps.AppendAt
namespace Go.Proofs.Ytfbeilninpapaaa
open Go.RowKit
/-- A slice of bytes at the head of block g. -/
def OwnB (w : World) (g : Nat) (v : Value) (xs : List Int) : Prop := Own w g v xs ∧ v.ownBlock = some g
theorem OwnB.of {w : World} {base g : Nat} {v : Value} {xs : List Int} (h : w.ownsRow base 5 1 v xs.length (xs.map (Value.int .u8))) (hv : v.ownBlock = some g) : OwnB w g v xs := by
  refine ⟨?_, hv⟩
  obtain ⟨h1, h2⟩ := h
  refine ⟨h1, ?_⟩
  rcases h2 with ⟨rfl, _⟩ | ⟨g', cap, cur, rfl, hb, r⟩
  · simp [Value.ownBlock] at hv
  · have : g' = g := by simpa [Value.ownBlock] using hv
    subst this
    exact .inr ⟨g', cap, cur, rfl, Nat.le_refl _, r⟩
theorem OwnB.cast {w : World} {g : Nat} {v : Value} {xs ys : List Int} (h : OwnB w g v xs) (e : xs = ys) : OwnB w g v ys := e ▸ h
theorem OwnB.lt {w : World} {g : Nat} {v : Value} {xs : List Int} (h : OwnB w g v xs) : g < w.heap.size := (h.1.lt g h.2).2
/-- What is in another block stays. -/
theorem OwnB.kept {w w' : World} {g row : Nat} {v : Value} {xs : List Int} (h : OwnB w g v xs) (hg : w.grownBy w' (some row)) (hne : g ≠ row) : OwnB w' g v xs := by
  refine ⟨World.ownsRow.kept h.1 hg (.inr ?_), h.2⟩
  rw [h.2]; simpa using hne
theorem grownBy_trans {w w1 w2 : World} {g g1 : Nat} (h1 : w.grownBy w1 (some g)) (hg : g1 = g ∨ w.heap.size ≤ g1) (h2 : w1.grownBy w2 (some g1)) : w.grownBy w2 (some g) :=
  ⟨h2.os.trans h1.os, h2.tape.trans h1.tape, h2.output.trans h1.output, Nat.le_trans h1.size h2.size, fun k hk hne => by
    rw [h2.block k (Nat.lt_of_lt_of_le hk h1.size) (by
      intro e
      simp only [Option.some.injEq] at e
      rcases hg with hg | hg
      · exact hne (by rw [e, hg])
      · omega)]
    exact h1.block k hk hne⟩
theorem grown_new {w w1 : World} {g g1 g2 : Nat} (hg : g1 = g ∨ w.heap.size ≤ g1) (h : w.heap.size ≤ w1.heap.size) (hg2 : g2 = g1 ∨ w1.heap.size ≤ g2) : g2 = g ∨ w.heap.size ≤ g2 := by omega

/-- append(s, c), the block told. -/
theorem appB1 {w : World} {ops : Array Oper} {rest : List Oper} {o : Oper} {a : Act} {Q : Exit → Act → World → Prop} (hgd : o.guard = none) (s x : Operand)
    (ho : o.op = .call { callee := .builtin .append, args := #[s, x], argTypes := #[40, 40] })
    (g : Nat) (v : Value) (xs : List Int) (c : Int) (hs : a.eval s = v) (hx : a.eval x = .slice (some ⟨w.heap.size, 0, none⟩) 1 1)
    (hown : OwnB w g v xs) (hlen : xs.length ≤ 1000000000)
    (h : ∀ g' v' w', OwnB w' g' v' (xs ++ [c]) → w.grownBy w' (some g) → (g' = g ∨ w.heap.size ≤ g') → wpList Try.prog ops Q rest (a.put o.dst v') w') :
    wpList Try.prog ops Q (o :: rest) a (w.alloc (.cells #[.int .u8 c] 5)) := by
  obtain ⟨i0, hi, hz0, hz1, hz2⟩ := info_parts info5
  have hlt := hown.lt
  refine wpList_append_own_at _ hgd s x 40 ho g 5 i0 (.int .u8 0) 1 1 Try.underlying40 hi hz0 hz1 hz2 rfl (by decide) v xs.length (xs.map (Value.int .u8)) hs (hown.1.alloc _) ⟨w.heap.size, 0, none⟩ 1 1 [.int .u8 c] hx rfl (cell_one_new _ _ _) ?_ ?_ ?_ ?_ ?_
  · intro u hu; simp at hu; subst hu; rfl
  · unfold maxLen; omega
  · omega
  · simp; omega
  · intro v' w' h1 h2 _ h4
    have h2' : w.grownBy w' (some g) := by
      rw [hown.2] at h2
      exact grownBy_trans (World.grownBy_alloc w _ (some g)) (.inl rfl) h2
    have h1' : w'.ownsRow g 5 1 v' (xs ++ [c]).length ((xs ++ [c]).map (Value.int .u8)) := by simpa using h1
    rw [hown.2] at h4
    rcases h4 with h4 | h4
    · exact h g v' w' (OwnB.of h1' h4) h2' (.inl rfl)
    · exact h _ v' w' (OwnB.of h1' h4) h2' (.inr (by simp))
/-- append(s, x...), x a string, the block told. -/
theorem appBS {w : World} {ops : Array Oper} {rest : List Oper} {o : Oper} {a : Act} {Q : Exit → Act → World → Prop} (hgd : o.guard = none) (sl x : Operand)
    (ho : o.op = .call { callee := .builtin .append, args := #[sl, x], argTypes := #[40, 9] })
    (g : Nat) (v : Value) (xs : List Int) (s : ByteArray) (hs : a.eval sl = v) (hx : a.eval x = .string s)
    (hown : OwnB w g v xs) (hlen : xs.length + s.size ≤ 1000000000)
    (h : ∀ g' v' w', OwnB w' g' v' (xs ++ numsS s) → w.grownBy w' (some g) → (g' = g ∨ w.heap.size ≤ g') → wpList Try.prog ops Q rest (a.put o.dst v') w') :
    wpList Try.prog ops Q (o :: rest) a w := by
  obtain ⟨i0, hi, hz0, hz1, hz2⟩ := info_parts info5
  have hlt := hown.lt
  have hown' := hown.1
  obtain ⟨v', w', hr, h1, h2, _⟩ := Lib.run_append_own_string (P := Try.prog) w g 40 9 o.type 5 i0 Try.underlying40 Try.underlying9 hi hz0 hz1 hz2 v xs.length (xs.map (Value.int .u8)) hown.1 s (by unfold maxLen; omega) (by omega) (by omega)
  have hb : v'.ownBlock = some g ∨ v'.ownBlock = some w.heap.size := by
    rcases hown'.2 with ⟨rfl, _⟩ | ⟨g', cap, cur, rfl, _, hg, hnc, hcm, hcs, htake⟩
    · have := hown.2; simp [Value.ownBlock] at this
    · have hgg : g' = g := by simpa [Value.ownBlock] using hown.2
      subst hgg
      by_cases hroom : xs.length + s.size ≤ cap
      · have hr2 := Lib.run_append_room_string (P := Try.prog) w 40 9 o.type 5 i0 Try.underlying40 Try.underlying9 hi hz1 g' xs.length cap cur hg s hroom (by omega)
        rw [hr2] at hr
        injection hr with e1 _
        subst e1
        exact .inl rfl
      · have hr2 := Lib.run_append_grow_string (P := Try.prog) w 40 9 o.type 5 i0 (.int .u8 0) Try.underlying40 Try.underlying9 hi hz0 ⟨g', 0, none⟩ xs.length cap (xs.map (Value.int .u8)) (by rw [hz1]; simp) (World.ownsRow.cells hown' rfl) s (by omega) (by omega) (by rw [hz2]; exact growslice_fits (by omega) (by omega))
        rw [hr2] at hr
        injection hr with e1 _
        subst e1
        exact .inr rfl
  refine wpList_plain hgd fun K hK => ?_
  unfold Oper.wp execOp
  simp only [ho, resolve, invoke, builtin, Sem.run_bind, Sem.run_pure, Result.andThen_ok, List.map_toArray, List.map_cons, List.map_nil, hs, hx, hr]
  refine hK _ _ ?_
  have e : (xs ++ numsS s).map (Value.int .u8) = xs.map (Value.int .u8) ++ Lib.strCells s := by simp [numsS, Lib.strCells]
  have h1' : w'.ownsRow g 5 1 v' (xs ++ numsS s).length ((xs ++ numsS s).map (Value.int .u8)) := by rw [e, List.length_append, numsS_length]; exact h1
  rw [hown.2] at h2
  rcases hb with hb | hb
  · exact h g v' w' (OwnB.of h1' hb) h2 (.inl rfl)
  · exact h _ v' w' (OwnB.of h1' hb) h2 (.inr (Nat.le_refl _))

/-! ### The digits, from the other end -/
theorem hi_shift (n : Nat) : ∀ k, hi n (k + 1) = hi (n / 128) k ++ [((n / 128 % 128 + 128 : Nat) : Int)] := by
  intro k
  induction k with
  | zero => simp [hi]
  | succ k ih =>
    rw [hi, ih, hi, List.cons_append]
    congr 1
    rw [Nat.div_div_eq_div_mul, ← Nat.pow_succ']
theorem ahead_low (n : Nat) (h : n < 128) : ahead n = 0 := ahead_unique n 0 (by simpa using h) (.inl rfl)
theorem ahead_div (n : Nat) (h : 128 ≤ n) : ahead n = ahead (n / 128) + 1 := by
  have hp : 0 < n / 128 := by omega
  have h1 := ahead_le (n / 128) hp
  have h2 := lt_ahead (n / 128)
  refine ahead_unique n _ ?_ (.inr ?_)
  · rw [Nat.pow_succ]; omega
  · rw [Nat.pow_succ]; omega
/-- The digits ahead of the last one, each with 128 more, and one more digit so. -/
def highs (n : Nat) : List Int := hi n (ahead n) ++ [((n % 128 + 128 : Nat) : Int)]
theorem highs_div (n : Nat) (h : 128 ≤ n) : hi n (ahead n) = highs (n / 128) := by rw [ahead_div n h, hi_shift]; rfl
theorem highs_len (n : Nat) (h : n < 2 ^ 64) : (highs n).length ≤ 10 := by
  have := ahead_lt n h
  simp only [highs, List.length_append, hi_length, List.length_cons, List.length_nil]; omega

set_option maxRecDepth 100000 in
set_option maxHeartbeats 1000000 in
theorem high_any (n : Nat) : ∀ (g : Nat) (v : Value) (xs : List Int) (w : World), n < 2 ^ 64 → OwnB w g v xs → xs.length ≤ 100000000 →
    Calls Try.prog 49 #[v, .int .u64 n] w fun e w' => ∃ g' v', e = .returned v' ∧ OwnB w' g' v' (xs ++ highs n) ∧ w.grownBy w' (some g) ∧ (g' = g ∨ w.heap.size ≤ g') := by
  induction n using Nat.strongRecOn with
  | ind n ih =>
    intro g v xs w hn hown hlen
    by_cases h : 128 ≤ n
    · have hc := ih (n / 128) (by omega) g v xs w (by omega) hown hlen
      have hd : ((n / 128 : Nat) : Int) = (n : Int) / 128 := by omega
      rw [hd] at hc
      have hl := highs_len (n / 128) (by omega)
      have HE : Hid (xs ++ highs n = xs ++ highs (n / 128) ++ [((n % 128 + 128 : Nat) : Int)]) := by
        show _ = _
        rw [highs, highs_div n h, List.append_assoc]
      generalize highs n = E at HE
      generalize highs (n / 128) = F at hc hl HE
      clear ih
      go_enter Try.func49, Try.ntmps49
      go_wp2_with (first | (go_at_call 49; refine hc.mono ?_; rintro e w1 ⟨g1, v1, rfl, ho1, hG1, hn1⟩) | (at_builtin; refine appB1 rfl (.tmp 11) (.tmp 16) rfl g1 _ (xs ++ F) _ rfl rfl ho1 (by simp only [List.length_append]; omega) ?_; intro g2 v2 w2 ho2 hG2 hn2))
      go_ret
      refine ⟨g2, _, rfl, ?_, grownBy_trans hG1 hn1 hG2, grown_new hn1 hG1.size hn2⟩
      rw [HE.out]
      refine ho2.cast ?_
      congr 2
    · have HE : Hid (xs ++ highs n = xs ++ [((n % 128 + 128 : Nat) : Int)]) := by
        show _ = _
        rw [highs, ahead_low n (by omega)]; rfl
      generalize highs n = E at HE
      clear ih
      go_enter Try.func49, Try.ntmps49
      go_wp2_with (at_builtin; refine appB1 rfl (.tmp 11) (.tmp 16) rfl g _ xs _ rfl rfl hown (by omega) ?_; intro g2 v2 w2 ho2 hG2 hn2)
      go_ret
      refine ⟨g2, _, rfl, ?_, hG2, hn2⟩
      rw [HE.out]
      refine ho2.cast ?_
      congr 2

set_option maxRecDepth 100000 in
set_option maxHeartbeats 1000000 in
theorem refUint_any (n g : Nat) (v : Value) (xs : List Int) (w : World) (hn : n < 2 ^ 64) (hown : OwnB w g v xs) (hlen : xs.length ≤ 100000000) :
    Calls Try.prog 32 #[v, .int .u64 n] w fun e w' => ∃ g' v', e = .returned v' ∧ OwnB w' g' v' (xs ++ enc n) ∧ w.grownBy w' (some g) ∧ (g' = g ∨ w.heap.size ≤ g') := by
  by_cases h : 128 ≤ n
  · have hc := high_any (n / 128) g v xs w (by omega) hown hlen
    have hd : ((n / 128 : Nat) : Int) = (n : Int) / 128 := by omega
    rw [hd] at hc
    have hl := highs_len (n / 128) (by omega)
    have HE : Hid (xs ++ enc n = xs ++ highs (n / 128) ++ [((n % 128 : Nat) : Int)]) := by
      show _ = _
      rw [enc, highs_div n h, List.append_assoc]
    generalize enc n = E at HE
    generalize highs (n / 128) = F at hc hl HE
    go_enter Try.func32, Try.ntmps32
    go_wp2_with (first | (go_at_call 49; refine hc.mono ?_; rintro e w1 ⟨g1, v1, rfl, ho1, hG1, hn1⟩) | (at_builtin; refine appB1 rfl (.tmp 11) (.tmp 15) rfl g1 _ (xs ++ F) _ rfl rfl ho1 (by simp only [List.length_append]; omega) ?_; intro g2 v2 w2 ho2 hG2 hn2))
    go_ret
    refine ⟨g2, _, rfl, ?_, grownBy_trans hG1 hn1 hG2, grown_new hn1 hG1.size hn2⟩
    rw [HE.out]
    exact ho2.cast (by congr 2)
  · have HE : Hid (xs ++ enc n = xs ++ [((n % 128 : Nat) : Int)]) := by
      show _ = _
      rw [enc, ahead_low n (by omega)]; rfl
    generalize enc n = E at HE
    go_enter Try.func32, Try.ntmps32
    go_wp2_with (at_builtin; refine appB1 rfl (.tmp 11) (.tmp 15) rfl g _ xs _ rfl rfl hown (by omega) ?_; intro g2 v2 w2 ho2 hG2 hn2)
    go_ret
    refine ⟨g2, _, rfl, ?_, hG2, hn2⟩
    rw [HE.out]
    exact ho2.cast (by congr 2)
set_option maxRecDepth 100000 in
set_option maxHeartbeats 1000000 in
theorem refInt_any (z : Int) (g : Nat) (v : Value) (xs : List Int) (w : World) (h1 : -9223372036854775808 ≤ z) (h2 : z ≤ 9223372036854775807) (hown : OwnB w g v xs) (hlen : xs.length ≤ 99999999) :
    Calls Try.prog 34 #[v, .int .i64 z] w fun e w' => ∃ g' v', e = .returned v' ∧ OwnB w' g' v' (xs ++ encS z) ∧ w.grownBy w' (some g) ∧ (g' = g ∨ w.heap.size ≤ g') := by
  by_cases hz : z < 0
  · have hE : Hid (encS z = 45 :: enc (-z).toNat) := by unfold encS; rw [if_pos hz]; rfl
    have hm : (-z).toNat < 2 ^ 64 := by omega
    have hzm : -(z + 1) + 1 = (((-z).toNat : Nat) : Int) := by omega
    have hzm2 : 0 ≤ -(z + 1) := by omega
    generalize (-z).toNat = m at hE hm hzm
    obtain ⟨y, hy⟩ : ∃ y : Nat, -(z + 1) = y := ⟨(-(z + 1)).toNat, by omega⟩
    have hym : m = y + 1 := by omega
    subst hym
    go_enter Try.func34, Try.ntmps34
    go_wp2_with (first | (at_builtin; refine appB1 rfl (.tmp 7) (.tmp 8) rfl g _ xs _ rfl rfl hown (by omega) ?_; intro g1 v1 w1 ho1 hG1 hn1) | (go_at_call 32; refine (refUint_any (y + 1) g1 v1 (xs ++ [45]) w1 hm ho1 (by simp; omega)).mono ?_; rintro e w2 ⟨g2, v2, rfl, ho2, hG2, hn2⟩))
    go_ret
    exact ⟨g2, _, rfl, ho2.cast (by rw [hE.out]; simp), grownBy_trans hG1 hn1 hG2, grown_new hn1 hG1.size hn2⟩
  · obtain ⟨m, rfl⟩ : ∃ m : Nat, z = m := ⟨z.toNat, by omega⟩
    have hE : Hid (encS m = 43 :: enc m) := by unfold encS; rw [if_neg hz]; rfl
    have hm : m < 2 ^ 64 := by omega
    go_enter Try.func34, Try.ntmps34
    go_wp2_with (first | (at_builtin; refine appB1 rfl (.tmp 16) (.tmp 17) rfl g _ xs _ rfl rfl hown (by omega) ?_; intro g1 v1 w1 ho1 hG1 hn1) | (go_at_call 32; refine (refUint_any m g1 v1 (xs ++ [43]) w1 hm ho1 (by simp; omega)).mono ?_; rintro e w2 ⟨g2, v2, rfl, ho2, hG2, hn2⟩))
    go_ret
    exact ⟨g2, _, rfl, ho2.cast (by rw [hE.out]; simp), grownBy_trans hG1 hn1 hG2, grown_new hn1 hG1.size hn2⟩
set_option maxRecDepth 100000 in
set_option maxHeartbeats 1000000 in
theorem refText_any (s : ByteArray) (g : Nat) (v : Value) (xs : List Int) (w : World) (h1 : s.size ≤ 1000000) (hown : OwnB w g v xs) (hlen : xs.length ≤ 90000000) :
    Calls Try.prog 33 #[v, .string s] w fun e w' => ∃ g' v', e = .returned v' ∧ OwnB w' g' v' (xs ++ encT s) ∧ w.grownBy w' (some g) ∧ (g' = g ∨ w.heap.size ≤ g') := by
  have hl := enc_len10 s.size (by omega)
  go_enter Try.func33, Try.ntmps33
  go_wp2_with (first | (go_at_call 32; refine (refUint_any s.size g v xs w (by omega) hown (by omega)).mono ?_; rintro e w1 ⟨g1, v1, rfl, ho1, hG1, hn1⟩) | (at_builtin; refine appBS rfl (.tmp 9) (.tmp 10) rfl g1 _ (xs ++ enc s.size) s rfl rfl ho1 (by simp only [List.length_append]; omega) ?_; intro g2 v2 w2 ho2 hG2 hn2))
  go_ret
  exact ⟨g2, _, rfl, ho2.cast (by simp [encT]), grownBy_trans hG1 hn1 hG2, grown_new hn1 hG1.size hn2⟩
end Go.Proofs.Ytfbeilninpapaaa
