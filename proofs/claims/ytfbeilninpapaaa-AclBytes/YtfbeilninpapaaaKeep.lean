/- The writers of bytes once more: whatever is no row of bytes is kept. -/
import Derived.Test.YtfbeilninpapaaaTakeT
import Derived.Test.YtfbeilninpapaaaText
namespace Go.Proofs.Ytfbeilninpapaaa
set_option linter.unusedVariables false
open Go.RowKit
/-- Is the block no row of bytes? -/
def NoB (w : World) (k : Nat) : Prop := ∀ (c : Array Value) (fr : Nat × Nat), w.heap[k]? ≠ some (.cells c 5 fr)
/-- Whatever is no row of bytes is as it was. -/
structure Kb (w w' : World) : Prop where
  os : w'.os = w.os
  tape : w'.tape = w.tape
  output : w'.output = w.output
  size : w.heap.size ≤ w'.heap.size
  block : ∀ k, k < w.heap.size → NoB w k → w'.heap[k]? = w.heap[k]?
theorem Kb.refl (w : World) : Kb w w := ⟨rfl, rfl, rfl, Nat.le_refl _, fun _ _ _ => rfl⟩
theorem Kb.trans {a b c : World} (h : Kb a b) (k : Kb b c) : Kb a c :=
  ⟨k.os.trans h.os, k.tape.trans h.tape, k.output.trans h.output, Nat.le_trans h.size k.size, fun i hi hn => (k.block i (Nat.lt_of_lt_of_le hi h.size) (fun c fr e => hn c fr ((h.block i hi hn).symm.trans e))).trans (h.block i hi hn)⟩
theorem Kb.of_below {w w' : World} (h : Below w.heap.size w w') : Kb w w' := ⟨h.os, h.tape, h.output, h.size, fun k hk _ => h.block k hk⟩
theorem Kb.alloc (w : World) (o : Obj) : Kb w (w.alloc o) := Kb.of_below ((Below.refl _ w).alloc (Nat.le_refl _) o)
theorem Kb.drew (w : World) : Kb w w.drew := Kb.of_below (below_draw w 1)
theorem Kb.of_grown {w w' : World} {base : Nat} {v : Value} {xs : List Int} (h : Own w base v xs) (hg : w.grownBy w' v.ownBlock) : Kb w w' :=
  ⟨hg.os, hg.tape, hg.output, hg.size, fun k hk hn => hg.block k hk (fun e => by
    rcases h.2 with ⟨rfl, _⟩ | ⟨g, cap, cur, rfl, hb, hgg, rest⟩
    · simp [Value.ownBlock] at e
    · simp [Value.ownBlock] at e
      subst e
      exact hn _ _ hgg)⟩
theorem Kb.cell {w w' : World} (h : Kb w w') {a : Addr} {u : Value} (hc : w.cell? a = some u) (hn : NoB w a.block) : w'.cell? a = some u :=
  (World.cell?_of_block (h.block a.block (World.block_lt_of_cell? w _ hc) hn)).trans hc
theorem nob_of {w : World} {k : Nat} {c : Array Value} {t : TypeId} {fr : Nat × Nat} (h : w.heap[k]? = some (.cells c t fr)) (ht : t ≠ 5) : NoB w k := fun c' fr' e => by
  rw [h] at e
  cases e
  exact ht rfl
theorem app1K {w : World} {ops : Array Oper} {rest : List Oper} {o : Oper} {a : Act} {Q : Exit → Act → World → Prop} (hgd : o.guard = none) (s x : Operand)
    (ho : o.op = .call { callee := .builtin .append, args := #[s, x], argTypes := #[40, 40] })
    (base : Nat) (v : Value) (xs : List Int) (c : Int) (hs : a.eval s = v) (hx : a.eval x = .slice (some ⟨w.heap.size, 0, none⟩) 1 1)
    (hown : Own w base v xs) (hbase : base ≤ w.heap.size) (hlen : xs.length ≤ 1000000000)
    (h : ∀ v' w', Own w' base v' (xs ++ [c]) → Below base w w' → Kb w w' → wpList Try.prog ops Q rest (a.put o.dst v') w') :
    wpList Try.prog ops Q (o :: rest) a (w.alloc (.cells #[.int .u8 c] 5)) := by
  obtain ⟨i0, hi, hz0, hz1, hz2⟩ := info_parts info5
  refine wpList_append_own _ hgd s x 40 ho base 5 i0 (.int .u8 0) 1 1 Try.underlying40 hi hz0 hz1 hz2 rfl (by decide) v xs.length (xs.map (Value.int .u8)) hs (hown.alloc _) ⟨w.heap.size, 0, none⟩ 1 1 [.int .u8 c] hx rfl (cell_one_new _ _ _) ?_ ?_ ?_ ?_ ?_
  · intro u hu; simp at hu; subst hu; rfl
  · unfold maxLen; omega
  · omega
  · simp; omega
  · intro v' w' h1 h2 _
    refine h v' w' ?_ ?_ ((Kb.alloc w _).trans (Kb.of_grown (hown.alloc _) h2))
    · unfold Own; simpa using h1
    · refine ((Below.refl base w).alloc hbase _).grown h2 (by simp; omega) (fun k hk => ?_)
      exact (hown.lt k hk).1
theorem appSK {w : World} {ops : Array Oper} {rest : List Oper} {o : Oper} {a : Act} {Q : Exit → Act → World → Prop} (hgd : o.guard = none) (sl x : Operand)
    (ho : o.op = .call { callee := .builtin .append, args := #[sl, x], argTypes := #[40, 9] })
    (base : Nat) (v : Value) (xs : List Int) (s : ByteArray) (hs : a.eval sl = v) (hx : a.eval x = .string s)
    (hown : Own w base v xs) (hbase : base ≤ w.heap.size) (hlen : xs.length + s.size ≤ 140737488355328)
    (h : ∀ v' w', Own w' base v' (xs ++ numsS s) → Below base w w' → Kb w w' → wpList Try.prog ops Q rest (a.put o.dst v') w') :
    wpList Try.prog ops Q (o :: rest) a w := by
  obtain ⟨i0, hi, hz0, hz1, hz2⟩ := info_parts info5
  refine Lib.wpList_append_own_string _ hgd sl x 40 9 ho base 5 i0 Try.underlying40 Try.underlying9 hi hz0 hz1 hz2 v xs.length (xs.map (Value.int .u8)) hs hown s hx (by unfold maxLen; omega) hlen hbase ?_
  intro v' w' h1 h2 _
  refine h v' w' ?_ ((Below.refl base w).grown h2 hbase (fun k hk => (hown.lt k hk).1)) (Kb.of_grown hown h2)
  unfold Own
  have e : (xs ++ numsS s).map (Value.int .u8) = xs.map (Value.int .u8) ++ Lib.strCells s := by simp [numsS, Lib.strCells]
  rw [e, List.length_append, numsS_length]; exact h1

set_option maxRecDepth 100000 in
set_option maxHeartbeats 1000000 in
theorem appendNumber_k (base : Nat) (v : Value) (xs : List Int) (n : Nat) (w : World) (hn : n < 2 ^ 64) (hown : Own w base v xs) (hbase : base ≤ w.heap.size) (hlen : xs.length ≤ 100000000) :
    Calls Try.prog 57 #[v, .int .u64 n] w fun e w' => ∃ v', e = .returned v' ∧ Own w' base v' (xs ++ enc n) ∧ Below base w w' ∧ Kb w w' := by
  go_enter Try.func57, Try.ntmps57
  go_wp2_with (go_at_call 65; refine (lowBit_any n _ hn).mono ?_; rintro e w' ⟨rfl, hw'⟩; subst w')
  go_loopw [0, 5] (fun u s wr => ∃ (k : Nat) (done : List Int), k ≤ ahead n ∧ s = .int .i64 ((7 * k : Nat) : Int) ∧ Hid (done ++ hi n k = hi n (ahead n)) ∧ Own wr base u (xs ++ done) ∧ Below base w wr ∧ Kb w wr)
    (fun _ s _ => (intOf s).toNat)
  case atStart => exact ⟨ahead n, [], Nat.le_refl _, by go_num, rfl, by simpa using hown, Below.refl _ _, Kb.refl _⟩
  case round =>
    obtain ⟨k, done, hk, rfl, hd, ho, hbw, hkw⟩ := hrel
    have hk10 := ahead_lt n hn
    have hsz := hbw.size
    have hdl := hi_len n k done hd.out
    by_cases hlt : 0 < k
    · obtain ⟨j, rfl⟩ : ∃ j, k = j + 1 := ⟨k - 1, by omega⟩
      have hdg := digit_or n j
      have H := hi_step n j done hd.out
      go_wp2_with (at_builtin; refine app1K rfl (.tmp 12) (.tmp 18) rfl base _ (xs ++ done) _ rfl rfl ho (by omega) (by simp; omega) ?_; intro v1 w1 ho1 hb1 hk1)
      go_roundw
      case rel => exact ⟨j, _, by omega, by go_num, H, by simpa using ho1, hbw.trans hb1, hkw.trans hk1⟩
      case measure => simp [intOf]; omega
    · obtain rfl : k = 0 := by omega
      have hdg := digit_and n
      have H := hi_end n done hd.out
      go_wp2_with (at_builtin; refine app1K rfl (.tmp 20) (.tmp 24) rfl base _ (xs ++ done) _ rfl rfl ho (by omega) (by simp; omega) ?_; intro v1 w1 ho1 hb1 hk1)
      go_ret
      exact ⟨_, rfl, by rw [← H, ← List.append_assoc]; exact ho1, hbw.trans hb1, hkw.trans hk1⟩

set_option maxRecDepth 100000 in
set_option maxHeartbeats 1000000 in
theorem number_k (base : Nat) (v : Value) (xs : List Int) (ls : List Nat) (b o c : Nat) (w : World) (hl : ∀ n ∈ ls, n < 2 ^ 64) (hown : Own w base v xs) (hbase : base ≤ w.heap.size) (hlen : xs.length + 10 * ls.length ≤ 10000000)
    (hcell : Rest w 0 ls.length b o fun t => .int .u64 (ls.getD t 0)) (hs : b < base ∨ ls.length ≤ 1) :
    Calls Try.prog 47 #[v, .slice (some ⟨b, o, none⟩) ls.length c] w fun e w' => ∃ v', e = .returned v' ∧ Own w' base v' (xs ++ cat enc ls) ∧ Below base w w' ∧ Kb w w' := by
  go_enter Try.func47, Try.ntmps47
  go_wp2
  go_loopw [0, 9] (fun u i wr => ∃ k : Nat, k ≤ ls.length ∧ i = .int .i64 k ∧ Own wr base u (xs ++ cat enc (ls.take k)) ∧ Below base w wr ∧ Kb w wr ∧ Hid (Rest wr k ls.length b o fun t => .int .u64 (ls.getD t 0)))
    (fun _ i _ => ls.length - (intOf i).toNat)
  case atStart => exact ⟨0, Nat.zero_le _, rfl, by simpa [cat] using hown, Below.refl _ _, Kb.refl _, hcell⟩
  case round =>
    obtain ⟨k, hk, rfl, ho, hbw, hkw, hr⟩ := hrel
    have hsz := hbw.size
    have hcl := cat_len enc 10 (ls.take k) fun x hx => enc_len10 x (hl x (mem_take hx))
    have htl : (ls.take k).length ≤ ls.length := by simp; omega
    clear hcell hown
    by_cases hlt : k < ls.length
    · have hc : wr.cell? ⟨b, o + k, none⟩ = some (.int .u64 (ls.getD k 0)) := hr.out k (Nat.le_refl _) hlt
      have hct := cat_take enc ls 0 k hlt
      have hn := hl _ (getD_mem ls 0 k hlt)
      have HN : Hid (∀ (u : Value) (w1 : World), Own w1 base u (xs ++ cat enc (ls.take k) ++ enc (ls.getD k 0)) → Own w1 base u (xs ++ cat enc (ls.take (k + 1)))) := fun u w1 h => h.cast (by rw [hct]; simp)
      clear hct
      obtain ⟨n, hnn⟩ : ∃ n, n = ls.getD k 0 := ⟨_, rfl⟩
      rw [← hnn] at hc hn HN
      clear hnn
      go_wp2_with (go_at_call 57; refine (appendNumber_k base _ _ n _ hn ho (by omega) (by simp only [List.length_append]; omega)).mono ?_; rintro e w1 ⟨v1, rfl, ho1, hb1, hk1⟩)
      go_roundw
      case rel => exact ⟨k + 1, by omega, by go_num, HN.out _ _ ho1, hbw.trans hb1, hkw.trans hk1, hr.out.next hb1 hs⟩
      case measure => simp [intOf]; omega
    · obtain rfl : k = ls.length := by omega
      rw [List.take_of_length_le (Nat.le_refl _)] at ho
      go_wp2
      go_ret
      exact ⟨_, rfl, ho, hbw, hkw⟩

set_option maxRecDepth 100000 in
set_option maxHeartbeats 1000000 in
theorem text_k (base : Nat) (v : Value) (xs : List Int) (ls : List ByteArray) (b o c : Nat) (w : World) (hl : total ls ≤ 1000000) (hown : Own w base v xs) (hbase : base ≤ w.heap.size) (hlen : xs.length + 10 * ls.length ≤ 10000000)
    (hcell : Rest w 0 ls.length b o fun t => .string (ls.getD t ByteArray.empty)) (hs : b < base ∨ ls.length ≤ 1) :
    Calls Try.prog 46 #[v, .slice (some ⟨b, o, none⟩) ls.length c] w fun e w' => ∃ v', e = .returned v' ∧ Own w' base v' (xs ++ cat encT ls) ∧ Below base w w' ∧ Kb w w' := by
  go_enter Try.func46, Try.ntmps46
  go_wp2
  go_loopw [0, 9] (fun u i wr => ∃ k : Nat, k ≤ ls.length ∧ i = .int .i64 k ∧ Own wr base u (xs ++ cat encT (ls.take k)) ∧ Below base w wr ∧ Kb w wr ∧ Hid (Rest wr k ls.length b o fun t => .string (ls.getD t ByteArray.empty)))
    (fun _ i _ => ls.length - (intOf i).toNat)
  case atStart => exact ⟨0, Nat.zero_le _, rfl, by simpa [cat] using hown, Below.refl _ _, Kb.refl _, hcell⟩
  case round =>
    obtain ⟨k, hk, rfl, ho, hbw, hkw, hr⟩ := hrel
    have hsz := hbw.size
    have htt := total_take ls k
    have hcl := catT_len (ls.take k) (by omega)
    have htl : (ls.take k).length ≤ ls.length := by simp; omega
    clear hcell hown
    by_cases hlt : k < ls.length
    · have hc : wr.cell? ⟨b, o + k, none⟩ = some (.string (ls.getD k ByteArray.empty)) := hr.out k (Nat.le_refl _) hlt
      have hct := cat_take encT ls ByteArray.empty k hlt
      have hn := total_le ls _ (getD_mem ls ByteArray.empty k hlt)
      have HN : Hid (∀ (u : Value) (w1 : World), Own w1 base u (xs ++ cat encT (ls.take k) ++ encT (ls.getD k ByteArray.empty)) → Own w1 base u (xs ++ cat encT (ls.take (k + 1)))) := fun u w1 h => h.cast (by rw [hct]; simp)
      clear hct
      obtain ⟨n, hnn⟩ : ∃ n, n = ls.getD k ByteArray.empty := ⟨_, rfl⟩
      rw [← hnn] at hc hn HN
      clear hnn
      have hsn : n.size < 2 ^ 64 := by omega
      go_wp2_with (first | (go_at_call 57; refine (appendNumber_k base _ _ n.size _ hsn ho (by omega) (by simp only [List.length_append]; omega)).mono ?_; rintro e w1 ⟨v1, rfl, ho1, hb1, hk1⟩) | (at_builtin; refine appSK rfl (.tmp 17) (.tmp 18) rfl base _ _ n rfl rfl ho1 (by have := hb1.size; omega) (by have := enc_len10 n.size hsn; simp only [List.length_append]; omega) ?_; intro v2 w2 ho2 hb2 hk2))
      go_roundw
      case rel => exact ⟨k + 1, by omega, by go_num, HN.out _ _ (ho2.cast (by simp [encT])), (hbw.trans hb1).trans hb2, (hkw.trans hk1).trans hk2, hr.out.next (hb1.trans hb2) hs⟩
      case measure => simp [intOf]; omega
    · obtain rfl : k = ls.length := by omega
      rw [List.take_of_length_le (Nat.le_refl _)] at ho
      go_wp2
      go_ret
      exact ⟨_, rfl, ho, hbw, hkw⟩


set_option maxRecDepth 100000 in
set_option maxHeartbeats 1000000 in
theorem appendSigned_k (base : Nat) (v : Value) (xs : List Int) (z : Int) (w : World) (h1 : -9223372036854775808 ≤ z) (h2 : z ≤ 9223372036854775807) (hown : Own w base v xs) (hbase : base ≤ w.heap.size) (hlen : xs.length ≤ 99999999) :
    Calls Try.prog 58 #[v, .int .i64 z] w fun e w' => ∃ v', e = .returned v' ∧ Own w' base v' (xs ++ encS z) ∧ Below base w w' ∧ Kb w w' := by
  by_cases hz : z < 0
  · have hnw := neg_wrap z h1 hz
    have hE : Hid (encS z = 45 :: enc (-z).toNat) := by unfold encS; rw [if_pos hz]; rfl
    have hm : (-z).toNat < 2 ^ 64 := by omega
    obtain ⟨m, hmm⟩ : ∃ m, m = (-z).toNat := ⟨_, rfl⟩
    rw [← hmm] at hnw hE hm
    clear hmm
    go_enter Try.func58, Try.ntmps58
    go_wp2_with (first | (at_builtin; refine app1K rfl (.tmp 7) (.tmp 8) rfl base _ xs _ rfl rfl hown (by omega) (by omega) ?_; intro v1 w1 ho1 hb1 hk1) | (go_at_call 57; refine (appendNumber_k base v1 (xs ++ [45]) m w1 hm ho1 (by have := hb1.size; omega) (by simp; omega)).mono ?_; rintro e w2 ⟨v2, rfl, ho2, hb2, hk2⟩))
    go_ret
    exact ⟨_, rfl, ho2.cast (by rw [hE.out]; simp), hb1.trans hb2, hk1.trans hk2⟩
  · obtain ⟨m, rfl⟩ : ∃ m : Nat, z = m := ⟨z.toNat, by omega⟩
    have hE : Hid (encS m = 43 :: enc m) := by unfold encS; rw [if_neg hz]; rfl
    have hm : m < 2 ^ 64 := by omega
    go_enter Try.func58, Try.ntmps58
    go_wp2_with (first | (at_builtin; refine app1K rfl (.tmp 14) (.tmp 15) rfl base _ xs _ rfl rfl hown (by omega) (by omega) ?_; intro v1 w1 ho1 hb1 hk1) | (go_at_call 57; refine (appendNumber_k base v1 (xs ++ [43]) m w1 hm ho1 (by have := hb1.size; omega) (by simp; omega)).mono ?_; rintro e w2 ⟨v2, rfl, ho2, hb2, hk2⟩))
    go_ret
    exact ⟨_, rfl, ho2.cast (by rw [hE.out]; simp), hb1.trans hb2, hk1.trans hk2⟩
set_option maxRecDepth 100000 in
set_option maxHeartbeats 1000000 in
theorem signed_k (base : Nat) (v : Value) (xs : List Int) (ls : List Int) (b o c : Nat) (w : World) (hl : ∀ n ∈ ls, -9223372036854775808 ≤ n ∧ n ≤ 9223372036854775807) (hown : Own w base v xs) (hbase : base ≤ w.heap.size) (hlen : xs.length + 11 * ls.length ≤ 10000000)
    (hcell : Rest w 0 ls.length b o fun t => .int .i64 (ls.getD t 0)) (hs : b < base ∨ ls.length ≤ 1) :
    Calls Try.prog 48 #[v, .slice (some ⟨b, o, none⟩) ls.length c] w fun e w' => ∃ v', e = .returned v' ∧ Own w' base v' (xs ++ cat encS ls) ∧ Below base w w' ∧ Kb w w' := by
  go_enter Try.func48, Try.ntmps48
  go_wp2
  go_loopw [0, 9] (fun u i wr => ∃ k : Nat, k ≤ ls.length ∧ i = .int .i64 k ∧ Own wr base u (xs ++ cat encS (ls.take k)) ∧ Below base w wr ∧ Kb w wr ∧ Hid (Rest wr k ls.length b o fun t => .int .i64 (ls.getD t 0)))
    (fun _ i _ => ls.length - (intOf i).toNat)
  case atStart => exact ⟨0, Nat.zero_le _, rfl, by simpa [cat] using hown, Below.refl _ _, Kb.refl _, hcell⟩
  case round =>
    obtain ⟨k, hk, rfl, ho, hbw, hkw, hr⟩ := hrel
    have hsz := hbw.size
    have hcl := cat_len encS 11 (ls.take k) fun x hx => encS_len11 x (hl x (mem_take hx)).1 (hl x (mem_take hx)).2
    have htl : (ls.take k).length ≤ ls.length := by simp; omega
    clear hcell hown
    by_cases hlt : k < ls.length
    · have hc : wr.cell? ⟨b, o + k, none⟩ = some (.int .i64 (ls.getD k 0)) := hr.out k (Nat.le_refl _) hlt
      have hct := cat_take encS ls 0 k hlt
      have hn := hl _ (getD_mem ls 0 k hlt)
      have HN : Hid (∀ (u : Value) (w1 : World), Own w1 base u (xs ++ cat encS (ls.take k) ++ encS (ls.getD k 0)) → Own w1 base u (xs ++ cat encS (ls.take (k + 1)))) := fun u w1 h => h.cast (by rw [hct]; simp)
      clear hct
      obtain ⟨n, hnn⟩ : ∃ n, n = ls.getD k 0 := ⟨_, rfl⟩
      rw [← hnn] at hc hn HN
      clear hnn
      go_wp2_with (go_at_call 58; refine (appendSigned_k base _ _ n _ hn.1 hn.2 ho (by omega) (by simp only [List.length_append]; omega)).mono ?_; rintro e w1 ⟨v1, rfl, ho1, hb1, hk1⟩)
      go_roundw
      case rel => exact ⟨k + 1, by omega, by go_num, HN.out _ _ ho1, hbw.trans hb1, hkw.trans hk1, hr.out.next hb1 hs⟩
      case measure => simp [intOf]; omega
    · obtain rfl : k = ls.length := by omega
      rw [List.take_of_length_le (Nat.le_refl _)] at ho
      go_wp2
      go_ret
      exact ⟨_, rfl, ho, hbw, hkw⟩

theorem signed1 (base : Nat) (v : Value) (xs : List Int) (z : Int) (b : Nat) (w : World) (hz : -9223372036854775808 ≤ z ∧ z ≤ 9223372036854775807) (hown : Own w base v xs) (hbase : base ≤ w.heap.size) (hlen : xs.length ≤ 9000000) (hc : w.cell? ⟨b, 0, none⟩ = some (.int .i64 z)) :
    Calls Try.prog 48 #[v, .slice (some ⟨b, 0, none⟩) 1 1] w fun e w' => ∃ v', e = .returned v' ∧ Own w' base v' (xs ++ encS z) ∧ Below base w w' ∧ Kb w w' := by
  have h := signed_k base v xs [z] b 0 1 w (fun m hm => by simp at hm; subst hm; exact hz) hown hbase (by simp; omega) (fun t _ ht => by
    obtain rfl : t = 0 := by simp at ht; omega
    simpa using hc) (.inr (by simp))
  have e : cat encS [z] = encS z := by simp [cat]
  rw [e] at h
  exact h
theorem number1 (base : Nat) (v : Value) (xs : List Int) (n b : Nat) (w : World) (hn : n < 2 ^ 64) (hown : Own w base v xs) (hbase : base ≤ w.heap.size) (hlen : xs.length ≤ 9000000) (hc : w.cell? ⟨b, 0, none⟩ = some (.int .u64 n)) :
    Calls Try.prog 47 #[v, .slice (some ⟨b, 0, none⟩) 1 1] w fun e w' => ∃ v', e = .returned v' ∧ Own w' base v' (xs ++ enc n) ∧ Below base w w' ∧ Kb w w' := by
  have h := number_k base v xs [n] b 0 1 w (fun m hm => by simp at hm; omega) hown hbase (by simp; omega) (fun t _ ht => by
    obtain rfl : t = 0 := by simp at ht; omega
    simpa using hc) (.inr (by simp))
  have e : cat enc [n] = enc n := by simp [cat]
  rw [e] at h
  exact h
theorem text1 (base : Nat) (v : Value) (xs : List Int) (s : ByteArray) (b : Nat) (w : World) (hs : s.size ≤ 1000000) (hown : Own w base v xs) (hbase : base ≤ w.heap.size) (hlen : xs.length ≤ 9000000) (hc : w.cell? ⟨b, 0, none⟩ = some (.string s)) :
    Calls Try.prog 46 #[v, .slice (some ⟨b, 0, none⟩) 1 1] w fun e w' => ∃ v', e = .returned v' ∧ Own w' base v' (xs ++ encT s) ∧ Below base w w' ∧ Kb w w' := by
  have h := text_k base v xs [s] b 0 1 w (by simpa [total] using hs) hown hbase (by simp; omega) (fun t _ ht => by
    obtain rfl : t = 0 := by simp at ht; omega
    simpa using hc) (.inr (by simp))
  have e : cat encT [s] = encT s := by simp [cat]
  rw [e] at h
  exact h
end Go.Proofs.Ytfbeilninpapaaa
