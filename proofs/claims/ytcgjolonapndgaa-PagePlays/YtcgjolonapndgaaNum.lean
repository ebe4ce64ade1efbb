/- The contracts of page's Room and of fixed's Lay and Of. -/
import Derived.Test.YtcgjolonapndgaaMark
namespace Go.Proofs.Ytcgjolonapndgaa
open Go.RowKit Go.Maps Go.ChangeMaps Go.MapKept
set_option maxRecDepth 100000 in
set_option maxHeartbeats 1000000 in
theorem room_ok (size : Int) (w : World) (h1 : 64 ≤ size) (h2 : size ≤ 8192) : Calls Try.prog 16 #[.int .i64 size] w fun e w' => e = .returned (.int .i64 (size - 11)) ∧ w' = w := by
  have d1 : decide (size < 64) = false := by simpa using h1
  have d2 : decide (8192 < size) = false := by simpa using h2
  go_enter Try.func16, Try.ntmps16
  go_wp2
  go_ret
  exact ⟨rfl, rfl⟩
set_option maxRecDepth 100000 in
set_option maxHeartbeats 1000000 in
theorem room_bad (size : Int) (w : World) (h : size < 64 ∨ 8192 < size) : Calls Try.prog 16 #[.int .i64 size] w fun e w' => e = .returned (.int .i64 0) ∧ w' = w := by
  by_cases h1 : size < 64
  · go_enter Try.func16, Try.ntmps16
    go_wp2
    go_ret
    exact ⟨rfl, rfl⟩
  · have d1 : decide (size < 64) = false := by simpa using h1
    have h2 : 8192 < size := by omega
    go_enter Try.func16, Try.ntmps16
    go_wp2
    go_ret
    exact ⟨rfl, rfl⟩

theorem be_cons (k n : Nat) : be (k + 1) n = (((n / 256 ^ k) % 256 : Nat) : Int) :: be k n := by
  induction k generalizing n with
  | zero => simp [be]
  | succ k ih =>
    rw [be, ih, be, Nat.div_div_eq_div_mul, Nat.pow_succ, Nat.mul_comm 256]
    rfl
theorem splice_len (cur : List Int) (o : Nat) (q : List Int) (h : o + q.length ≤ cur.length) : (splice cur o q).length = cur.length := by
  simp [splice]; omega
theorem splice_nil (cur : List Int) (o : Nat) : splice cur o [] = cur := by simp [splice]
theorem splice_cons (cur : List Int) (p : Nat) (c : Int) (q : List Int) (h : p + 1 + q.length ≤ cur.length) : (splice cur (p + 1) q).set p c = splice cur p (c :: q) := by
  unfold splice
  rw [List.take_succ_eq_append_getElem (by omega), List.append_assoc, List.set_append_right _ _ (by simp; omega)]
  simp only [List.length_take, Nat.min_eq_left (show p ≤ cur.length by omega), Nat.sub_self, List.cons_append, List.set_cons_zero, List.nil_append, List.length_cons]
  congr 4
  omega
theorem Row.set {w : World} {g p : Nat} {bs : List Int} (h : Row w g bs) (c : Int) : Row (w.setCell ⟨g, p, none⟩ (.int .u8 c)) g (bs.set p c) := by
  unfold Row
  rw [block_setCell h]
  simp
theorem Row.frozen {w : World} {g : Nat} {bs : List Int} (h : Row w g bs) (p : Nat) : w.frozen? ⟨g, p, none⟩ = false := by
  unfold Row at h
  simp [World.frozen?, h]
theorem grown_setCell {w wr : World} {g : Nat} (h : w.grownBy wr (some g)) (p : Nat) (v : Value) : w.grownBy (wr.setCell ⟨g, p, none⟩ v) (some g) :=
  ⟨h.os, h.tape, h.output, by rw [World.size_setCell]; exact h.size, fun k hk hn => by rw [Below.heap_setCell wr ⟨g, p, none⟩ v k (fun e => hn (by rw [e]))]; exact h.block k hk hn⟩

theorem low_byte (x : Nat) (_h : x < 2 ^ 64) : IntKind.u8.wrap (x : Int) = ((x % 256 : Nat) : Int) := by
  simp only [IntKind.wrap, IntKind.bits, IntKind.signed]
  simp
set_option maxRecDepth 100000 in
set_option maxHeartbeats 2000000 in
/-- fixed.Lay onto bytes of a block. -/
theorem layNumber_any (g o n c x : Nat) (cur : List Int) (w : World) (hx : x < 2 ^ 64) (hn : o + n ≤ cur.length) (hnl : n ≤ 1000) (hrow : Row w g cur) :
    Calls Try.prog 36 #[.slice (some ⟨g, o, none⟩) n c, .int .u64 x] w fun e w' => e = .returned (.tuple #[]) ∧ Row w' g (splice cur o (be n x)) ∧ w.grownBy w' (some g) := by
  go_enter Try.func36, Try.ntmps36
  go_wp2
  go_loopw [1, 7] (fun y i wr => ∃ k : Nat, k ≤ n ∧ i = .int .i64 k ∧ y = .int .u64 ((x / 256 ^ k : Nat) : Int) ∧ Hid (Row wr g (splice cur (o + (n - k)) (be k x))) ∧ w.grownBy wr (some g)) (fun _ i _ => n - (intOf i).toNat)
  case atStart => exact ⟨0, Nat.zero_le _, rfl, by simp, by simp [be, splice_nil]; exact hrow, grown_refl _ _⟩
  case round =>
    obtain ⟨k, hk, rfl, rfl, hr, hg⟩ := hrel
    by_cases hlt : k < n
    · have hy : x / 256 ^ k < 2 ^ 64 := Nat.lt_of_le_of_lt (Nat.div_le_self _ _) hx
      have hd : Hid (x / 256 ^ (k + 1) = x / 256 ^ k / 256) := by show _ = _; rw [Nat.pow_succ, Nat.div_div_eq_div_mul]
      have hbc : Hid (be (k + 1) x = (((x / 256 ^ k) % 256 : Nat) : Int) :: be k x) := be_cons k x
      have hb := low_byte _ hy
      have hL : (be k x).length = k := be_len _ _
      have hsp : Hid (((splice cur (o + (n - k)) (be k x)).set (o + (n - 1 - k)) (((x / 256 ^ k) % 256 : Nat) : Int)) = splice cur (o + (n - (k + 1))) (be (k + 1) x)) := by
        show _ = _
        rw [hbc.out, show o + (n - k) = o + (n - 1 - k) + 1 by omega, splice_cons _ _ _ _ (by rw [hL]; omega), show n - (k + 1) = n - 1 - k by omega]
      have hc : wr.cell? ⟨g, o + (n - 1 - k), none⟩ = some (.int .u8 ((splice cur (o + (n - k)) (be k x)).getD (o + (n - 1 - k)) 0)) := hr.out.cell _ (by rw [splice_len _ _ _ (by rw [hL]; omega)]; omega)
      have hf : wr.frozen? ⟨g, o + (n - 1 - k), none⟩ = false := hr.out.frozen _
      have hrs := hr.out.set (p := o + (n - 1 - k)) (((x / 256 ^ k) % 256 : Nat) : Int)
      rw [hsp.out] at hrs
      have hix : (n : Int) - 1 - (k : Int) = ((n - 1 - k : Nat) : Int) := by omega
      generalize splice cur (o + (n - k)) (be k x) = S at hr hc hsp
      generalize x / 256 ^ k = y at *
      generalize n - 1 - k = j at *
      clear hsp hL hbc
      go_wp2
      go_round
      case rel => exact ⟨k + 1, by omega, by go_num, by rw [hd.out]; go_num, hrs, grown_setCell hg _ _⟩
      case measure => simp [intOf]; omega
    · obtain rfl : k = n := by omega
      rw [Nat.sub_self, Nat.add_zero] at hr
      go_wp2
      exact bodyPost_end (results_none rfl _ _ _) rfl ⟨rfl, hr.out, hg⟩

theorem be_get (l : List Int) (k : Nat) (h : k < l.length) : ofBe (l.take (k + 1)) = 256 * ofBe (l.take k) + (l.getD k 0).toNat := by
  rw [List.take_succ_eq_append_getElem h, ofBe_snoc]
  simp [h]
theorem wrap_u64 (z : Int) (h0 : 0 ≤ z) (h1 : z < 2 ^ 64) : IntKind.u64.wrap z = z := by rw [IntKind.wrap_u64]; omega
theorem or_low (a : Nat) (b : Int) (ha : a < 2 ^ 56) (hb : 0 ≤ b ∧ b < 256) : bits .or .u64 (256 * (a : Int)) b = ((256 * a + b.toNat : Nat) : Int) := by
  obtain ⟨c, rfl⟩ : ∃ c : Nat, b = c := ⟨b.toNat, by omega⟩
  have h1 : (256 * a) % 2 ^ IntKind.u64.bits = 256 * a := Nat.mod_eq_of_lt (by show _ < 2 ^ 64; omega)
  have h2 : c % 2 ^ IntKind.u64.bits = c := Nat.mod_eq_of_lt (by show _ < 2 ^ 64; omega)
  have h3 := Nat.two_pow_add_eq_or_of_lt (i := 8) (b := c) (by omega) a
  rw [show (2 : Nat) ^ 8 = 256 from rfl] at h3
  rw [show (256 * (a : Int)) = ((256 * a : Nat) : Int) by omega]
  simp only [bits, BitVec.ofInt_natCast, BitVec.toNat_or, BitVec.toNat_ofNat, h1, h2, Int.toNat_natCast]
  rw [h3]
  exact wrap_u64 _ (by omega) (by omega)
theorem shl8 (a : Nat) (ha : a < 2 ^ 56) : IntKind.u64.wrap ((a : Int) * 256) = ((256 * a : Nat) : Int) := by
  rw [wrap_u64 _ (by omega) (by omega)]; omega
theorem or_low32 (a : Nat) (b : Int) (ha : a < 2 ^ 24) (hb : 0 ≤ b ∧ b < 256) : bits .or .u32 (256 * (a : Int)) b = ((256 * a + b.toNat : Nat) : Int) := by
  obtain ⟨c, rfl⟩ : ∃ c : Nat, b = c := ⟨b.toNat, by omega⟩
  have h1 : (256 * a) % 2 ^ IntKind.u32.bits = 256 * a := Nat.mod_eq_of_lt (by show _ < 2 ^ 32; omega)
  have h2 : c % 2 ^ IntKind.u32.bits = c := Nat.mod_eq_of_lt (by show _ < 2 ^ 32; omega)
  have h3 := Nat.two_pow_add_eq_or_of_lt (i := 8) (b := c) (by omega) a
  rw [show (2 : Nat) ^ 8 = 256 from rfl] at h3
  rw [show (256 * (a : Int)) = ((256 * a : Nat) : Int) by omega]
  simp only [bits, BitVec.ofInt_natCast, BitVec.toNat_or, BitVec.toNat_ofNat, h1, h2, Int.toNat_natCast]
  rw [h3]
  exact wrap_u32 _ (by omega) (by omega)
theorem shl832 (a : Nat) (ha : a < 2 ^ 24) : IntKind.u32.wrap ((a : Int) * 256) = ((256 * a : Nat) : Int) := by
  rw [wrap_u32 _ (by omega) (by omega)]; omega
set_option maxRecDepth 100000 in
set_option maxHeartbeats 2000000 in
/-- fixed.Of of up to eight bytes. -/
theorem numberOf_some (bs : List Int) (b o c : Nat) (w : World) (hby : IsBytes bs) (hlen : bs.length ≤ 8) (hcell : Rest w 0 bs.length b o fun t => .int .u8 (bs.getD t 0)) :
    Calls Try.prog 39 #[.slice (some ⟨b, o, none⟩) bs.length c] w fun e w' => e = .returned (.int .u64 (ofBe bs)) ∧ w' = w := by
  go_enter Try.func39, Try.ntmps39
  go_wp2
  go_loop [3, 8] (fun y i => ∃ k : Nat, k ≤ bs.length ∧ i = .int .i64 k ∧ y = .int .u64 ((ofBe (bs.take k) : Nat) : Int)) (fun _ i => bs.length - (intOf i).toNat)
  case atStart => exact ⟨0, Nat.zero_le _, rfl, rfl⟩
  case round =>
    obtain ⟨k, hk, rfl, rfl⟩ := hrel
    by_cases hlt : k < bs.length
    · have hc : w.cell? ⟨b, o + k, none⟩ = some (.int .u8 (bs.getD k 0)) := hcell k (Nat.zero_le _) hlt
      have hcb := hby _ (getD_mem bs 0 k hlt)
      have hlow : ofBe (bs.take k) < 2 ^ 56 := by
        have h1 := ofBe_lt (bs.take k) (hby.take k)
        have h2 : (bs.take k).length ≤ 7 := by rw [List.length_take]; omega
        exact Nat.lt_of_lt_of_le h1 (Nat.pow_le_pow_right (n := 256) (by omega) h2)
      have hs : Hid (ofBe (bs.take (k + 1)) = 256 * ofBe (bs.take k) + (bs.getD k 0).toNat) := be_get bs k hlt
      generalize ofBe (bs.take k) = y at hlow hs
      generalize bs.getD k 0 = x at hc hcb hs
      have h8 := shl8 y hlow
      have ho := or_low y x hlow hcb
      clear hcell hby
      go_wp2
      go_round
      case rel => exact ⟨k + 1, by omega, by go_num, by rw [hs.out]; congr 1; omega⟩
      case measure => simp [intOf]; omega
    · obtain rfl : k = bs.length := by omega
      rw [List.take_of_length_le (Nat.le_refl _)]
      go_wp2
      go_ret
      exact ⟨rfl, rfl⟩
end Go.Proofs.Ytcgjolonapndgaa
