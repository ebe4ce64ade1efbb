/- The document's writers once more: whatever is no row of bytes is kept; from nil on, too. -/
import Derived.Test.YtfbeilninpapaaaKeep
import Derived.Test.YtfbeilninpapaaaRef
namespace Go.Proofs.Ytfbeilninpapaaa
set_option linter.unusedVariables false
open Go.RowKit
set_option maxRecDepth 100000 in
set_option maxHeartbeats 1000000 in
theorem rhigh_k (n : Nat) : ∀ (base : Nat) (v : Value) (xs : List Int) (w : World), n < 2 ^ 64 → Own w base v xs → base ≤ w.heap.size → xs.length ≤ 100000000 →
    Calls Try.prog 49 #[v, .int .u64 n] w fun e w' => ∃ v', e = .returned v' ∧ Own w' base v' (xs ++ highs n) ∧ Below base w w' ∧ Kb w w' := by
  induction n using Nat.strongRecOn with
  | ind n ih =>
    intro base v xs w hn hown hbase hlen
    by_cases h : 128 ≤ n
    · have hc := ih (n / 128) (by omega) base v xs w (by omega) hown hbase hlen
      have hd : ((n / 128 : Nat) : Int) = (n : Int) / 128 := by omega
      rw [hd] at hc
      have hl := highs_len (n / 128) (by omega)
      have HE : Hid (xs ++ highs n = xs ++ highs (n / 128) ++ [((n % 128 + 128 : Nat) : Int)]) := by
        show _ = _
        rw [highs, highs_div n h, List.append_assoc]
      generalize highs n = E at HE
      generalize highs (n / 128) = F at hc hl HE
      clear ih
      go_enter Try.func49, Try.ntmps49
      go_wp2_with (first | (go_at_call 49; refine hc.mono ?_; rintro e w1 ⟨v1, rfl, ho1, hb1, hk1⟩) | (at_builtin; refine app1K rfl (.tmp 11) (.tmp 16) rfl base _ (xs ++ F) _ rfl rfl ho1 (by have := hb1.size; omega) (by simp only [List.length_append]; omega) ?_; intro v2 w2 ho2 hb2 hk2))
      go_ret
      refine ⟨_, rfl, ?_, hb1.trans hb2, hk1.trans hk2⟩
      rw [HE.out]
      refine ho2.cast ?_
      congr 2
    · have HE : Hid (xs ++ highs n = xs ++ [((n % 128 + 128 : Nat) : Int)]) := by
        show _ = _
        rw [highs, ahead_low n (by omega)]; rfl
      generalize highs n = E at HE
      clear ih
      go_enter Try.func49, Try.ntmps49
      go_wp2_with (at_builtin; refine app1K rfl (.tmp 11) (.tmp 16) rfl base _ xs _ rfl rfl hown hbase (by omega) ?_; intro v2 w2 ho2 hb2 hk2)
      go_ret
      refine ⟨_, rfl, ?_, hb2, hk2⟩
      rw [HE.out]
      refine ho2.cast ?_
      congr 2
set_option maxRecDepth 100000 in
set_option maxHeartbeats 1000000 in
theorem ruint_k (n base : Nat) (v : Value) (xs : List Int) (w : World) (hn : n < 2 ^ 64) (hown : Own w base v xs) (hbase : base ≤ w.heap.size) (hlen : xs.length ≤ 100000000) :
    Calls Try.prog 32 #[v, .int .u64 n] w fun e w' => ∃ v', e = .returned v' ∧ Own w' base v' (xs ++ enc n) ∧ Below base w w' ∧ Kb w w' := by
  by_cases h : 128 ≤ n
  · have hc := rhigh_k (n / 128) base v xs w (by omega) hown hbase hlen
    have hd : ((n / 128 : Nat) : Int) = (n : Int) / 128 := by omega
    rw [hd] at hc
    have hl := highs_len (n / 128) (by omega)
    have HE : Hid (xs ++ enc n = xs ++ highs (n / 128) ++ [((n % 128 : Nat) : Int)]) := by
      show _ = _
      rw [enc, highs_div n h, List.append_assoc]
    generalize enc n = E at HE
    generalize highs (n / 128) = F at hc hl HE
    go_enter Try.func32, Try.ntmps32
    go_wp2_with (first | (go_at_call 49; refine hc.mono ?_; rintro e w1 ⟨v1, rfl, ho1, hb1, hk1⟩) | (at_builtin; refine app1K rfl (.tmp 11) (.tmp 15) rfl base _ (xs ++ F) _ rfl rfl ho1 (by have := hb1.size; omega) (by simp only [List.length_append]; omega) ?_; intro v2 w2 ho2 hb2 hk2))
    go_ret
    refine ⟨_, rfl, ?_, hb1.trans hb2, hk1.trans hk2⟩
    rw [HE.out]
    exact ho2.cast (by congr 2)
  · have HE : Hid (xs ++ enc n = xs ++ [((n % 128 : Nat) : Int)]) := by
      show _ = _
      rw [enc, ahead_low n (by omega)]; rfl
    generalize enc n = E at HE
    go_enter Try.func32, Try.ntmps32
    go_wp2_with (at_builtin; refine app1K rfl (.tmp 11) (.tmp 15) rfl base _ xs _ rfl rfl hown hbase (by omega) ?_; intro v2 w2 ho2 hb2 hk2)
    go_ret
    refine ⟨_, rfl, ?_, hb2, hk2⟩
    rw [HE.out]
    exact ho2.cast (by congr 2)
set_option maxRecDepth 100000 in
set_option maxHeartbeats 1000000 in
theorem rint_k (z : Int) (base : Nat) (v : Value) (xs : List Int) (w : World) (h1 : -9223372036854775808 ≤ z) (h2 : z ≤ 9223372036854775807) (hown : Own w base v xs) (hbase : base ≤ w.heap.size) (hlen : xs.length ≤ 99999999) :
    Calls Try.prog 34 #[v, .int .i64 z] w fun e w' => ∃ v', e = .returned v' ∧ Own w' base v' (xs ++ encS z) ∧ Below base w w' ∧ Kb w w' := by
  by_cases hz : z < 0
  · have hE : Hid (encS z = 45 :: enc (-z).toNat) := by unfold encS; rw [if_pos hz]; rfl
    have hm : (-z).toNat < 2 ^ 64 := by omega
    have hzm : -(z + 1) + 1 = (((-z).toNat : Nat) : Int) := by omega
    have hzm2 : 0 ≤ -(z + 1) := by omega
    generalize (-z).toNat = m at hE hm hzm
    obtain ⟨y, hy⟩ : ∃ y : Nat, -(z + 1) = y := ⟨(-(z + 1)).toNat, by omega⟩
    have hym : m = y + 1 := by omega
    subst hym
    go_enter Try.func34, Try.ntmps34
    go_wp2_with (first | (at_builtin; refine app1K rfl (.tmp 7) (.tmp 8) rfl base _ xs _ rfl rfl hown hbase (by omega) ?_; intro v1 w1 ho1 hb1 hk1) | (go_at_call 32; refine (ruint_k (y + 1) base v1 (xs ++ [45]) w1 hm ho1 (by have := hb1.size; omega) (by simp; omega)).mono ?_; rintro e w2 ⟨v2, rfl, ho2, hb2, hk2⟩))
    go_ret
    exact ⟨_, rfl, ho2.cast (by rw [hE.out]; simp), hb1.trans hb2, hk1.trans hk2⟩
  · obtain ⟨m, rfl⟩ : ∃ m : Nat, z = m := ⟨z.toNat, by omega⟩
    have hE : Hid (encS m = 43 :: enc m) := by unfold encS; rw [if_neg hz]; rfl
    have hm : m < 2 ^ 64 := by omega
    go_enter Try.func34, Try.ntmps34
    go_wp2_with (first | (at_builtin; refine app1K rfl (.tmp 16) (.tmp 17) rfl base _ xs _ rfl rfl hown hbase (by omega) ?_; intro v1 w1 ho1 hb1 hk1) | (go_at_call 32; refine (ruint_k m base v1 (xs ++ [43]) w1 hm ho1 (by have := hb1.size; omega) (by simp; omega)).mono ?_; rintro e w2 ⟨v2, rfl, ho2, hb2, hk2⟩))
    go_ret
    exact ⟨_, rfl, ho2.cast (by rw [hE.out]; simp), hb1.trans hb2, hk1.trans hk2⟩
set_option maxRecDepth 100000 in
set_option maxHeartbeats 1000000 in
theorem rtext_k (s : ByteArray) (base : Nat) (v : Value) (xs : List Int) (w : World) (h1 : s.size ≤ 1000000) (hown : Own w base v xs) (hbase : base ≤ w.heap.size) (hlen : xs.length ≤ 90000000) :
    Calls Try.prog 33 #[v, .string s] w fun e w' => ∃ v', e = .returned v' ∧ Own w' base v' (xs ++ encT s) ∧ Below base w w' ∧ Kb w w' := by
  have hl := enc_len10 s.size (by omega)
  go_enter Try.func33, Try.ntmps33
  go_wp2_with (first | (go_at_call 32; refine (ruint_k s.size base v xs w (by omega) hown hbase (by omega)).mono ?_; rintro e w1 ⟨v1, rfl, ho1, hb1, hk1⟩) | (at_builtin; refine appSK rfl (.tmp 9) (.tmp 10) rfl base _ (xs ++ enc s.size) s rfl rfl ho1 (by have := hb1.size; omega) (by simp only [List.length_append]; omega) ?_; intro v2 w2 ho2 hb2 hk2))
  go_ret
  exact ⟨_, rfl, ho2.cast (by simp [encT]), hb1.trans hb2, hk1.trans hk2⟩
end Go.Proofs.Ytfbeilninpapaaa
