/- The contracts of fixed.Lay, fixed.Of, bytesOf. -/
import Derived.Test.YtkhnhnaefmcngaaBas
namespace Go.Proofs.Ytkhnhnaefmcngaa
open Go.RowKit
/-- Block g is a row of bytes, of whatever type. -/
def RowT (w : World) (g : Nat) (t : TypeId) (bs : List Int) : Prop := w.heap[g]? = some (.cells (bs.map (Value.int .u8)).toArray t (0, 0))
theorem RowT.lt {w : World} {g : Nat} {t : TypeId} {bs : List Int} (h : RowT w g t bs) : g < w.heap.size := (Array.getElem?_eq_some_iff.1 h).1
theorem RowT.cell {w : World} {g : Nat} {ty : TypeId} {bs : List Int} (h : RowT w g ty bs) (t : Nat) (ht : t < bs.length) : w.cell? ⟨g, t, none⟩ = some (.int .u8 (bs.getD t 0)) := by
  unfold RowT at h
  simp [World.cell?, h, ht]
theorem RowT.bts {w : World} {g : Nat} {ty : TypeId} {bs : List Int} (h : RowT w g ty bs) : Bts w (.slice (some ⟨g, 0, none⟩) bs.length bs.length) bs :=
  ⟨_, bs.length, rfl, ⟨(fun e => by cases e), Nat.le_refl _⟩, .inr ⟨g, 0, rfl, fun t _ ht => by rw [Nat.zero_add]; exact h.cell t ht⟩⟩
theorem RowT.keep {w w' : World} {g : Nat} {ty : TypeId} {bs : List Int} (h : RowT w g ty bs) (e : w'.heap[g]? = w.heap[g]?) : RowT w' g ty bs := e.trans h
theorem block_setCell {w : World} {g i : Nat} {C : Array Value} {t : TypeId} {u : Value} (h : w.heap[g]? = some (.cells C t (0, 0))) : (w.setCell ⟨g, i, none⟩ u).heap[g]? = some (.cells (C.setIfInBounds i u) t (0, 0)) := by
  unfold World.setCell
  rw [Array.getElem?_modify, if_pos rfl, h]
  rfl
theorem RowT.set {w : World} {g p : Nat} {ty : TypeId} {bs : List Int} (h : RowT w g ty bs) (c : Int) : RowT (w.setCell ⟨g, p, none⟩ (.int .u8 c)) g ty (bs.set p c) := by
  unfold RowT
  rw [block_setCell h]
  simp
theorem RowT.frozen {w : World} {g : Nat} {ty : TypeId} {bs : List Int} (h : RowT w g ty bs) (p : Nat) : w.frozen? ⟨g, p, none⟩ = false := by
  unfold RowT at h
  simp [World.frozen?, h]
theorem grown_refl (w : World) (k : Option Nat) : w.grownBy w k := ⟨rfl, rfl, rfl, Nat.le_refl _, fun _ _ _ => rfl⟩
theorem grown_setCell {w wr : World} {g : Nat} (h : w.grownBy wr (some g)) (p : Nat) (v : Value) : w.grownBy (wr.setCell ⟨g, p, none⟩ v) (some g) :=
  ⟨h.os, h.tape, h.output, by rw [World.size_setCell]; exact h.size, fun k hk hn => by rw [Below.heap_setCell wr ⟨g, p, none⟩ v k (fun e => hn (by rw [e]))]; exact h.block k hk hn⟩
/-- cur with q from place o on. -/
def splice (cur : List Int) (o : Nat) (q : List Int) : List Int := cur.take o ++ (q ++ cur.drop (o + q.length))
theorem splice_len (cur : List Int) (o : Nat) (q : List Int) (h : o + q.length ≤ cur.length) : (splice cur o q).length = cur.length := by
  simp [splice]; omega
theorem splice_nil (cur : List Int) (o : Nat) : splice cur o [] = cur := by simp [splice]
theorem splice_cons (cur : List Int) (p : Nat) (c : Int) (q : List Int) (h : p + 1 + q.length ≤ cur.length) : (splice cur (p + 1) q).set p c = splice cur p (c :: q) := by
  unfold splice
  rw [List.take_succ_eq_append_getElem (by omega), List.append_assoc, List.set_append_right _ _ (by simp; omega)]
  simp only [List.length_take, Nat.min_eq_left (show p ≤ cur.length by omega), Nat.sub_self, List.cons_append, List.set_cons_zero, List.nil_append, List.length_cons]
  congr 4
  omega
theorem low_byte (x : Nat) (_h : x < 2 ^ 64) : IntKind.u8.wrap (x : Int) = ((x % 256 : Nat) : Int) := by
  simp only [IntKind.wrap, IntKind.bits, IntKind.signed]
  simp
set_option maxRecDepth 100000 in
set_option maxHeartbeats 2000000 in
/-- fixed.Lay onto bytes of a block. -/
theorem lay_any (ty : TypeId) (g o n c x : Nat) (cur : List Int) (w : World) (hx : x < 2 ^ 64) (hn : o + n ≤ cur.length) (hnl : n ≤ 1000) (hrow : RowT w g ty cur) :
    Calls Try.prog 37 #[.slice (some ⟨g, o, none⟩) n c, .int .u64 x] w fun e w' => e = .returned (.tuple #[]) ∧ RowT w' g ty (splice cur o (be n x)) ∧ w.grownBy w' (some g) := by
  go_enter Try.func37, Try.ntmps37
  go_wp2
  go_loopw [1, 7] (fun y i wr => ∃ k : Nat, k ≤ n ∧ i = .int .i64 k ∧ y = .int .u64 ((x / 256 ^ k : Nat) : Int) ∧ Hid (RowT wr g ty (splice cur (o + (n - k)) (be k x))) ∧ w.grownBy wr (some g)) (fun _ i _ => n - (intOf i).toNat)
  case atStart => exact ⟨0, Nat.zero_le _, rfl, by simp, by simp [be, splice_nil]; exact hrow, grown_refl _ _⟩
  case round =>
    obtain ⟨k, hk, rfl, rfl, hr, hg⟩ := hrel
    by_cases hlt : k < n
    · have hy : x / 256 ^ k < 2 ^ 64 := Nat.lt_of_le_of_lt (Nat.div_le_self _ _) hx
      have hd : Hid (x / 256 ^ (k + 1) = x / 256 ^ k / 256) := by show _ = _; rw [Nat.pow_succ, Nat.div_div_eq_div_mul]
      have hbc : Hid (be (k + 1) x = (((x / 256 ^ k) % 256 : Nat) : Int) :: be k x) := be_cons k x
      have hb := low_byte _ hy
      have hL : (be k x).length = k := be_len _ _
      have hsp : Hid (((splice cur (o + (n - k)) (be k x)).set (o + (n - 1 - k)) (((x / 256 ^ k) % 256 : Nat) : Int)) = splice cur (o + (n - (k + 1))) (be (k + 1) x)) := by
        show _ = _
        rw [hbc.out, show o + (n - k) = o + (n - 1 - k) + 1 by omega, splice_cons _ _ _ _ (by rw [hL]; omega), show n - (k + 1) = n - 1 - k by omega]
      have hc : wr.cell? ⟨g, o + (n - 1 - k), none⟩ = some (.int .u8 ((splice cur (o + (n - k)) (be k x)).getD (o + (n - 1 - k)) 0)) := hr.out.cell _ (by rw [splice_len _ _ _ (by rw [hL]; omega)]; omega)
      have hf : wr.frozen? ⟨g, o + (n - 1 - k), none⟩ = false := hr.out.frozen _
      have hrs := hr.out.set (p := o + (n - 1 - k)) (((x / 256 ^ k) % 256 : Nat) : Int)
      rw [hsp.out] at hrs
      have hix : (n : Int) - 1 - (k : Int) = ((n - 1 - k : Nat) : Int) := by omega
      generalize splice cur (o + (n - k)) (be k x) = S at hr hc hsp
      generalize x / 256 ^ k = y at *
      generalize n - 1 - k = j at *
      clear hsp hL hbc
      go_wp2
      go_round
      case rel => exact ⟨k + 1, by omega, by go_num, by rw [hd.out]; go_num, hrs, grown_setCell hg _ _⟩
      case measure => simp [intOf]; omega
    · obtain rfl : k = n := by omega
      rw [Nat.sub_self, Nat.add_zero] at hr
      go_wp2
      exact bodyPost_end (results_none rfl _ _ _) rfl ⟨rfl, hr.out, hg⟩
theorem be_get (l : List Int) (k : Nat) (h : k < l.length) : ofBe (l.take (k + 1)) = 256 * ofBe (l.take k) + (l.getD k 0).toNat := by
  rw [List.take_succ_eq_append_getElem h, ofBe_snoc]
  simp [h]
theorem wrap_u64 (z : Int) (h0 : 0 ≤ z) (h1 : z < 2 ^ 64) : IntKind.u64.wrap z = z := by rw [IntKind.wrap_u64]; omega
theorem or_low (a : Nat) (b : Int) (ha : a < 2 ^ 56) (hb : 0 ≤ b ∧ b < 256) : bits .or .u64 (256 * (a : Int)) b = ((256 * a + b.toNat : Nat) : Int) := by
  obtain ⟨c, rfl⟩ : ∃ c : Nat, b = c := ⟨b.toNat, by omega⟩
  have h1 : (256 * a) % 2 ^ IntKind.u64.bits = 256 * a := Nat.mod_eq_of_lt (by show _ < 2 ^ 64; omega)
  have h2 : c % 2 ^ IntKind.u64.bits = c := Nat.mod_eq_of_lt (by show _ < 2 ^ 64; omega)
  have h3 := Nat.two_pow_add_eq_or_of_lt (i := 8) (b := c) (by omega) a
  rw [show (2 : Nat) ^ 8 = 256 from rfl] at h3
  rw [show (256 * (a : Int)) = ((256 * a : Nat) : Int) by omega]
  simp only [bits, BitVec.ofInt_natCast, BitVec.toNat_or, BitVec.toNat_ofNat, h1, h2, Int.toNat_natCast]
  rw [h3]
  exact wrap_u64 _ (by omega) (by omega)
theorem shl8 (a : Nat) (ha : a < 2 ^ 56) : IntKind.u64.wrap ((a : Int) * 256) = ((256 * a : Nat) : Int) := by
  rw [wrap_u64 _ (by omega) (by omega)]; omega
set_option maxRecDepth 100000 in
set_option maxHeartbeats 2000000 in
/-- fixed.Of of up to eight bytes. -/
theorem of_some (bs : List Int) (b o c : Nat) (w : World) (hby : IsBytes bs) (hlen : bs.length ≤ 8) (hcell : Rest w 0 bs.length b o fun t => .int .u8 (bs.getD t 0)) :
    Calls Try.prog 47 #[.slice (some ⟨b, o, none⟩) bs.length c] w fun e w' => e = .returned (.int .u64 (ofBe bs)) ∧ w' = w := by
  go_enter Try.func47, Try.ntmps47
  go_wp2
  go_loop [3, 8] (fun y i => ∃ k : Nat, k ≤ bs.length ∧ i = .int .i64 k ∧ y = .int .u64 ((ofBe (bs.take k) : Nat) : Int)) (fun _ i => bs.length - (intOf i).toNat)
  case atStart => exact ⟨0, Nat.zero_le _, rfl, rfl⟩
  case round =>
    obtain ⟨k, hk, rfl, rfl⟩ := hrel
    by_cases hlt : k < bs.length
    · have hc : w.cell? ⟨b, o + k, none⟩ = some (.int .u8 (bs.getD k 0)) := hcell k (Nat.zero_le _) hlt
      have hcb := hby _ (getD_mem bs 0 k hlt)
      have hlow : ofBe (bs.take k) < 2 ^ 56 := by
        have h1 := ofBe_lt (bs.take k) (hby.take k)
        have h2 : (bs.take k).length ≤ 7 := by rw [List.length_take]; omega
        exact Nat.lt_of_lt_of_le h1 (Nat.pow_le_pow_right (n := 256) (by omega) h2)
      have hs : Hid (ofBe (bs.take (k + 1)) = 256 * ofBe (bs.take k) + (bs.getD k 0).toNat) := be_get bs k hlt
      generalize ofBe (bs.take k) = y at hlow hs
      generalize bs.getD k 0 = x at hc hcb hs
      have h8 := shl8 y hlow
      have ho := or_low y x hlow hcb
      clear hcell hby
      go_wp2
      go_round
      case rel => exact ⟨k + 1, by omega, by go_num, by rw [hs.out]; congr 1; omega⟩
      case measure => simp [intOf]; omega
    · obtain rfl : k = bs.length := by omega
      rw [List.take_of_length_le (Nat.le_refl _)]
      go_wp2
      go_ret
      exact ⟨rfl, rfl⟩
set_option maxRecDepth 100000 in
theorem of_none (a : Option Addr) (c : Nat) (w : World) : Calls Try.prog 47 #[.slice a 0 c] w fun e w' => e = .returned (.int .u64 0) ∧ w' = w := by
  go_enter Try.func47, Try.ntmps47
  go_wp2
  refine wp_loop_rounds 1 ?_
  rw [rounds_succ]
  go_wp2
  go_ret
  exact ⟨rfl, rfl⟩
/-- fixed.Of of up to eight bytes. -/
theorem of_any {w : World} {v : Value} {bs : List Int} (hb : Bts w v bs) (hby : IsBytes bs) (hlen : bs.length ≤ 8) : Calls Try.prog 47 #[v] w fun e w' => e = .returned (.int .u64 (ofBe bs)) ∧ w' = w := by
  obtain ⟨a, c, rfl, _, h⟩ := hb
  rcases h with rfl | ⟨b, o, rfl, h⟩
  · exact of_none a c w
  · exact of_some bs b o c w hby hlen h
/-- How many bytes a number needs, by its bits. -/
theorem needs_log (m : Nat) (h : 0 < m) : (m.log2 + 1 + 7) / 8 = needs m := by
  have h1 := Nat.log2_self_le (n := m) (by omega)
  have h2 := Nat.lt_log2_self (n := m)
  have ha : needs m ≤ (m.log2 + 1 + 7) / 8 := by
    refine needs_le _ _ (Nat.lt_of_lt_of_le h2 ?_)
    rw [show (256 : Nat) = 2 ^ 8 from rfl, ← Nat.pow_mul]
    exact Nat.pow_le_pow_right (by omega) (by omega)
  have hb : m.log2 < 8 * needs m := by
    have := needs_lt m
    rw [show (256 : Nat) = 2 ^ 8 from rfl, ← Nat.pow_mul] at this
    exact (Nat.pow_lt_pow_iff_right (a := 2) (by omega)).1 (Nat.lt_of_le_of_lt h1 this)
  omega
set_option maxRecDepth 100000 in
set_option maxHeartbeats 1000000 in
theorem len64_zero (w : World) : Calls Try.prog 46 #[.int .u64 0] w fun e w' => e = .returned (.int .i64 0) ∧ w' = w := by
  go_enter Try.func46, Try.ntmps46
  go_wp2
  go_ret
  exact ⟨by kernel_rfl, rfl⟩
theorem len64_needs (m : Nat) (w : World) (h : m < 2 ^ 63) : ∃ L : Int, 0 ≤ L ∧ L ≤ 64 ∧ (L + 7) / 8 = needs m ∧ Calls Try.prog 46 #[.int .u64 m] w fun e w' => e = .returned (.int .i64 L) ∧ w' = w := by
  by_cases h0 : m = 0
  · subst h0
    exact ⟨0, by omega, by omega, by rw [needs, dif_pos rfl]; rfl, len64_zero w⟩
  · have hl := needs_log m (by omega)
    have hb : m.log2 < 63 := (Nat.log2_lt (by omega)).2 h
    refine ⟨(m.log2 : Int) + 1, by omega, by omega, by omega, ?_⟩
    have := len64_any (m : Int) w (by omega) (by omega)
    simpa using this
set_option maxRecDepth 100000 in
set_option maxHeartbeats 1000000 in
theorem bytesOf_any (z : Int) (w : World) (hz : I64 z) : Calls Try.prog 38 #[.int .i64 z] w fun e w' => e = .returned (.int .i64 (needs (mag z))) ∧ w' = w := by
  obtain ⟨L, h1, h2, h3, hc⟩ := len64_needs (mag z) w (mag_lt hz)
  have hm := mag_lt hz
  rw [← h3]
  obtain ⟨z1, z2⟩ := hz
  by_cases hn : z < 0
  · have e : mag z = (-1 - z).toNat := by unfold mag; rw [if_pos hn]
    have hw : IntKind.u64.wrap (-1 - z) = (mag z : Int) := by rw [wrap_u64 _ (by omega) (by omega), e]; omega
    generalize mag z = m at *
    clear e h3
    go_enter Try.func38, Try.ntmps38
    go_wp2_with (go_at_call 46; refine hc.mono ?_; rintro e w' ⟨rfl, hw'⟩; subst w')
    go_ret
    exact ⟨rfl, rfl⟩
  · have e : mag z = z.toNat := by unfold mag; rw [if_neg hn]
    have hw : IntKind.u64.wrap z = (mag z : Int) := by rw [wrap_u64 _ (by omega) (by omega), e]; omega
    generalize mag z = m at *
    clear e h3
    go_enter Try.func38, Try.ntmps38
    go_wp2_with (go_at_call 46; refine hc.mono ?_; rintro e w' ⟨rfl, hw'⟩; subst w')
    go_ret
    exact ⟨rfl, rfl⟩
end Go.Proofs.Ytkhnhnaefmcngaa
