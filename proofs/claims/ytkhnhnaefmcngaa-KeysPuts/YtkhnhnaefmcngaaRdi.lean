/- The contract of readInt. -/
import Derived.Test.YtkhnhnaefmcngaaPut
import Derived.Lib.ConvBytes
namespace Go.Proofs.Ytkhnhnaefmcngaa
set_option linter.unusedVariables false
open Go.RowKit
/-- What a reader of a part at the front of bytes must tell: the part that they begin with, if there is one, and its length. -/
def RdP (bs : List Int) (p : Pt) (n : Nat) : Prop := n ≤ bs.length ∧ I64 p.num ∧ p.text.size ≤ bs.length ∧ ∀ q rest, OkP q → bs = partB q ++ rest → p = q ∧ n = (partB q).length
theorem conv_bytes (w : World) (s : ByteArray) : ∃ ad c W', (convert 9 47 (.string s)).run Try.prog w = .ok (.slice (some ad) s.size c) W' ∧ Bts W' (.slice (some ad) s.size c) (numsS s) ∧ Below w.heap.size w W' := by
  have hr := Lib.run_convert_string_bytes (P := Try.prog) w 9 47 5 s Try.underlying9 Try.underlying47 Try.underlying5
  have hge : s.size ≤ grownCap w s.size 0 5 := grownCap_ge _ _ _ _
  refine ⟨_, _, _, hr, ⟨_, _, by rw [numsS_length], ⟨(fun e => by cases e), by rw [numsS_length]; exact hge⟩, .inr ⟨_, 0, rfl, fun t _ ht => ?_⟩⟩, ⟨rfl, rfl, rfl, ?_, fun k hk => Lib.bytesWorld_at_old w 5 _ k hk⟩⟩
  · rw [Nat.zero_add, Lib.bytesWorld_cell w 5 s t (by rw [← numsS_length]; exact ht)]
    rw [numsS_length] at ht
    simp [numsS, ht]
  · rw [Lib.bytesWorld_size]; omega
theorem str_mid (S : ByteArray) (lo hi : Nat) (h0 : lo ≤ hi) (h : hi ≤ S.size) (W : World) : (Instr.slice 9 (.string S) (some (.int .i64 (lo : Int))) (some (.int .i64 (hi : Int))) none).run Try.prog W = .ok (.string (S.extract lo hi)) W := by
  have := run_slice_string (P := Try.prog) W 9 S .i64 .i64 (lo : Int) (hi : Int) Try.underlying9 (by omega) (by omega) (by omega)
  rw [Int.toNat_natCast, Int.toNat_natCast] at this
  exact this
/-- All bits above n bytes. -/
def up (n : Nat) : Nat := (2 ^ 64 - 256 ^ n) % 2 ^ 64
theorem up_lt (n : Nat) (_h : n ≤ 8) : up n < 2 ^ 64 := Nat.mod_lt _ (by omega)
theorem up_dvd (n : Nat) (h : n ≤ 8) : 256 ^ n ∣ up n := by
  obtain ⟨h1, h2⟩ := pow_8 h
  unfold up
  rw [Nat.dvd_mod_iff h2]
  exact Nat.dvd_sub h2 (Nat.dvd_refl _)
theorem or_high (n A B : Nat) (_h : n ≤ 8) (hd : 256 ^ n ∣ A) (hA : A < 2 ^ 64) (hB : B < 256 ^ n) : bits .or .u64 (A : Int) (B : Int) = ((A + B : Nat) : Int) := by
  obtain ⟨h1, h2⟩ := pow_8 _h
  have e1 : A % 2 ^ IntKind.u64.bits = A := Nat.mod_eq_of_lt hA
  have e2 : B % 2 ^ IntKind.u64.bits = B := Nat.mod_eq_of_lt (by show _ < 2 ^ 64; omega)
  obtain ⟨q, rfl⟩ := hd
  have e3 := Nat.two_pow_add_eq_or_of_lt (i := 8 * n) (b := B) (by rw [Nat.pow_mul]; exact hB) q
  rw [Nat.pow_mul, show (2 : Nat) ^ 8 = 256 from rfl] at e3
  obtain ⟨t, ht⟩ := h2
  have hq : q < t := by
    rw [ht] at hA
    exact Nat.lt_of_mul_lt_mul_left hA
  have hs : 256 ^ n * q + B < 2 ^ 64 := by
    rw [ht]
    have : 256 ^ n * (q + 1) ≤ 256 ^ n * t := Nat.mul_le_mul_left _ hq
    rw [Nat.mul_add] at this
    omega
  simp only [bits, BitVec.ofInt_natCast, BitVec.toNat_or, BitVec.toNat_ofNat, e1, e2]
  rw [← e3]
  exact wrap_u64 _ (by omega) (by omega)
theorem shl_up (n : Nat) (h : n ≤ 8) : IntKind.u64.wrap (18446744073709551615 * 2 ^ min (8 * n) 64) = ((up n : Nat) : Int) := by
  have : n = 0 ∨ n = 1 ∨ n = 2 ∨ n = 3 ∨ n = 4 ∨ n = 5 ∨ n = 6 ∨ n = 7 ∨ n = 8 := by omega
  rcases this with rfl | rfl | rfl | rfl | rfl | rfl | rfl | rfl | rfl <;> decide +kernel
theorem cells3 {w : World} {g : Nat} {a b c : Value} {ty : TypeId} (h : w.heap[g]? = some (.cells #[a, b, c] ty (0, 0))) : w.cell? ⟨g, 0, none⟩ = some a ∧ w.cell? ⟨g, 1, none⟩ = some b ∧ w.cell? ⟨g, 2, none⟩ = some c := by
  refine ⟨?_, ?_, ?_⟩ <;> simp [World.cell?, h]
theorem frozen_of {w : World} {g : Nat} {C : Array Value} {ty : TypeId} (h : w.heap[g]? = some (.cells C ty (0, 0))) (p : Nat) : w.frozen? ⟨g, p, none⟩ = false := by
  simp [World.frozen?, h]
set_option maxRecDepth 100000 in
set_option maxHeartbeats 2000000 in
theorem readInt_below (s : ByteArray) (w : World) (H n A : Nat) (hs : s.size ≤ 1000000) (h0 : 0 < s.size) (hH : s[0].toNat = H) (hlt : (H : Int) < 128) (hn : 127 - (H : Int) = (n : Int)) (h8 : (n : Int) ≤ 8) (hl : (n : Int) < (s.size : Int)) (hA : A = up n) :
    Calls Try.prog 42 #[.string s] w fun e w' => e = .returned (.tuple #[ptV ⟨1, IntKind.i64.wrap ((A + ofBe (((numsS s).take (1 + n)).drop 1) : Nat) : Int), ⟨#[]⟩⟩, .int .i64 (1 + n : Nat)]) ∧ Below w.heap.size w w' := by
  have hd1 : decide ((8 : Int) < (n : Int)) = false := by simpa using h8
  have hd2 : decide ((s.size : Int) ≤ (n : Int)) = false := by simpa using hl
  have hc := fun W => conv_bytes W (s.extract 1 (1 + n))
  have hbl : (((numsS s).take (1 + n)).drop 1).length = n := by simp [numsS_length]; omega
  have hby : IsBytes (((numsS s).take (1 + n)).drop 1) := ((numsS_bytes s).take _).drop _
  have hof := fun W (v : Value) (h : Bts W v (((numsS s).take (1 + n)).drop 1)) => of_any h hby (by omega)
  have hlb := ofBe_lt _ hby
  rw [hbl] at hlb
  have hor := or_high n A _ (by omega) (by rw [hA]; first | exact up_dvd n (by omega) | exact Nat.dvd_zero _) (by rw [hA]; first | exact up_lt n (by omega) | omega) hlb
  have hsh : IntKind.u64.wrap (18446744073709551615 * 2 ^ min (8 * n) 64) = (A : Int) := by rw [hA]; exact shl_up n (by omega)
  have hw8 : IntKind.i64.wrap (8 * (n : Int)) = ((8 * n : Nat) : Int) := by rw [Go.IntWalk.i64_in _ (by omega)]; omega
  have hw1 : IntKind.i64.wrap (1 + (n : Int)) = ((1 + n : Nat) : Int) := by rw [Go.IntWalk.i64_in _ (by omega)]; omega
  have hmid : ∀ W : World, (Instr.slice 9 (.string s) (some (.int .i64 1)) (some (.int .i64 ((1 + n : Nat) : Int))) none).run Try.prog W = .ok (.string (s.extract 1 (1 + n))) W := fun W => str_mid s 1 (1 + n) (by omega) (by omega) W
  have hex : Hid (numsS (s.extract 1 (1 + n)) = ((numsS s).take (1 + n)).drop 1) := numsS_extract _ _ _
  generalize A + ofBe (((numsS s).take (1 + n)).drop 1) = C at *
  generalize ofBe (((numsS s).take (1 + n)).drop 1) = B at *
  generalize ((numsS s).take (1 + n)).drop 1 = bs at *
  generalize s.extract 1 (1 + n) = S at *
  generalize 8 * n = m8 at *
  generalize hN1 : 1 + n = n1 at *
  clear hA hlb hby hbl
  replace hN1 : Hid _ := hN1
  obtain ⟨Z, hZ⟩ : ∃ Z, IntKind.i64.wrap (C : Int) = Z := ⟨_, rfl⟩
  have hZ2 : wrap64 (C : Int) = Z := by rw [← hZ, Go.IntWalk.i64_left]
  rw [hZ]
  obtain ⟨ad, c, W2, hcv, hbt, hbw⟩ := hc (w.alloc (.cells #[.int .i64 0, .int .i64 0, .string ⟨#[]⟩] 39)).drew
  rw [hex.out] at hbt
  have hcall := hof _ _ hbt
  replace hbw : Below (w.alloc (.cells #[.int .i64 0, .int .i64 0, .string ⟨#[]⟩] 39)).heap.size (w.alloc (.cells #[.int .i64 0, .int .i64 0, .string ⟨#[]⟩] 39)) W2 := (Below.refl _ _).drew.trans hbw
  obtain ⟨y0, y1, y2, hbw2⟩ := box3 hbw
  have hblk := (hbw.block w.heap.size (by simp)).trans (heap_new w _)
  have hlt2 : w.heap.size < W2.heap.size := by have := hbw.size; simp at this; omega
  clear hc hof hex hbw hbt
  go_enter Try.func42, Try.ntmps42
  go_wp2
  go_region_with (go_at_call 47; refine hcall.mono ?_; rintro e w3 ⟨rfl, hw3⟩; subst w3)
  go_wp2_with (go_at_call 17; refine (int_any Z _).mono ?_; rintro e w4 ⟨rfl, hb4⟩; have hbl4 := (hb4.block w.heap.size hlt2).trans hblk; have yf := fun p => frozen_of hbl4 p; obtain ⟨z0, z1, z2⟩ := cells3 hbl4; unfold ptV)
  refine bodyPost_ret (v := .tuple #[ptV ⟨1, Z, ⟨#[]⟩⟩, .int .i64 (n1 : Int)]) ?_ rfl ⟨rfl, (((hbw2.trans (hb4.mono (by omega))).setCell (Nat.le_refl _) _).setCell (Nat.le_refl _) _).setCell (Nat.le_refl _) _⟩
  simp [results, Try.results42, asAddr, Result.andThen, go_sem, ptV, z0, z1, z2]
set_option maxRecDepth 100000 in
set_option maxHeartbeats 2000000 in
theorem readInt_above (s : ByteArray) (w : World) (H n A : Nat) (hs : s.size ≤ 1000000) (h0 : 0 < s.size) (hH : s[0].toNat = H) (hlt : ¬ (H : Int) < 128) (hn : (H : Int) - 128 = (n : Int)) (h8 : (n : Int) ≤ 8) (hl : (n : Int) < (s.size : Int)) (hA : A = 0) :
    Calls Try.prog 42 #[.string s] w fun e w' => e = .returned (.tuple #[ptV ⟨1, IntKind.i64.wrap ((A + ofBe (((numsS s).take (1 + n)).drop 1) : Nat) : Int), ⟨#[]⟩⟩, .int .i64 (1 + n : Nat)]) ∧ Below w.heap.size w w' := by
  have hd1 : decide ((8 : Int) < (n : Int)) = false := by simpa using h8
  have hd2 : decide ((s.size : Int) ≤ (n : Int)) = false := by simpa using hl
  have hc := fun W => conv_bytes W (s.extract 1 (1 + n))
  have hbl : (((numsS s).take (1 + n)).drop 1).length = n := by simp [numsS_length]; omega
  have hby : IsBytes (((numsS s).take (1 + n)).drop 1) := ((numsS_bytes s).take _).drop _
  have hof := fun W (v : Value) (h : Bts W v (((numsS s).take (1 + n)).drop 1)) => of_any h hby (by omega)
  have hlb := ofBe_lt _ hby
  rw [hbl] at hlb
  have hor := or_high n A _ (by omega) (by rw [hA]; first | exact up_dvd n (by omega) | exact Nat.dvd_zero _) (by rw [hA]; first | exact up_lt n (by omega) | omega) hlb
  have hw8 : IntKind.i64.wrap (8 * (n : Int)) = ((8 * n : Nat) : Int) := by rw [Go.IntWalk.i64_in _ (by omega)]; omega
  have hw1 : IntKind.i64.wrap (1 + (n : Int)) = ((1 + n : Nat) : Int) := by rw [Go.IntWalk.i64_in _ (by omega)]; omega
  have hmid : ∀ W : World, (Instr.slice 9 (.string s) (some (.int .i64 1)) (some (.int .i64 ((1 + n : Nat) : Int))) none).run Try.prog W = .ok (.string (s.extract 1 (1 + n))) W := fun W => str_mid s 1 (1 + n) (by omega) (by omega) W
  have hex : Hid (numsS (s.extract 1 (1 + n)) = ((numsS s).take (1 + n)).drop 1) := numsS_extract _ _ _
  generalize A + ofBe (((numsS s).take (1 + n)).drop 1) = C at *
  generalize ofBe (((numsS s).take (1 + n)).drop 1) = B at *
  generalize ((numsS s).take (1 + n)).drop 1 = bs at *
  generalize s.extract 1 (1 + n) = S at *
  generalize 8 * n = m8 at *
  generalize hN1 : 1 + n = n1 at *
  replace hor : bits .or .u64 0 (B : Int) = (C : Int) := by rw [hA] at hor; exact hor
  clear hA hlb hby hbl
  replace hN1 : Hid _ := hN1
  obtain ⟨Z, hZ⟩ : ∃ Z, IntKind.i64.wrap (C : Int) = Z := ⟨_, rfl⟩
  have hZ2 : wrap64 (C : Int) = Z := by rw [← hZ, Go.IntWalk.i64_left]
  rw [hZ]
  obtain ⟨ad, c, W2, hcv, hbt, hbw⟩ := hc (w.alloc (.cells #[.int .i64 0, .int .i64 0, .string ⟨#[]⟩] 39)).drew
  rw [hex.out] at hbt
  have hcall := hof _ _ hbt
  replace hbw : Below (w.alloc (.cells #[.int .i64 0, .int .i64 0, .string ⟨#[]⟩] 39)).heap.size (w.alloc (.cells #[.int .i64 0, .int .i64 0, .string ⟨#[]⟩] 39)) W2 := (Below.refl _ _).drew.trans hbw
  obtain ⟨y0, y1, y2, hbw2⟩ := box3 hbw
  have hblk := (hbw.block w.heap.size (by simp)).trans (heap_new w _)
  have hlt2 : w.heap.size < W2.heap.size := by have := hbw.size; simp at this; omega
  clear hc hof hex hbw hbt
  go_enter Try.func42, Try.ntmps42
  go_wp2
  go_region_with (go_at_call 47; refine hcall.mono ?_; rintro e w3 ⟨rfl, hw3⟩; subst w3)
  go_wp2_with (go_at_call 17; refine (int_any Z _).mono ?_; rintro e w4 ⟨rfl, hb4⟩; have hbl4 := (hb4.block w.heap.size hlt2).trans hblk; have yf := fun p => frozen_of hbl4 p; obtain ⟨z0, z1, z2⟩ := cells3 hbl4; unfold ptV)
  refine bodyPost_ret (v := .tuple #[ptV ⟨1, Z, ⟨#[]⟩⟩, .int .i64 (n1 : Int)]) ?_ rfl ⟨rfl, (((hbw2.trans (hb4.mono (by omega))).setCell (Nat.le_refl _) _).setCell (Nat.le_refl _) _).setCell (Nat.le_refl _) _⟩
  simp [results, Try.results42, asAddr, Result.andThen, go_sem, ptV, z0, z1, z2]
set_option maxRecDepth 100000 in
set_option maxHeartbeats 2000000 in
theorem readInt_none (s : ByteArray) (w : World) (H : Nat) (n : Int) (hs : s.size ≤ 1000000) (h0 : 0 < s.size) (hH : s[0].toNat = H) (h : ((H : Int) < 128 ∧ 127 - (H : Int) = n) ∨ (¬ (H : Int) < 128 ∧ (H : Int) - 128 = n)) (h8 : 8 < n ∨ (n ≤ 8 ∧ (s.size : Int) ≤ n)) :
    Calls Try.prog 42 #[.string s] w fun e w' => e = .returned (.tuple #[ptV pt0, .int .i64 (0 : Nat)]) ∧ Below w.heap.size w w' := by
  have hH2 : H < 256 := by rw [← hH]; exact UInt8.toNat_lt _
  have hB : ∀ o : Obj, Below w.heap.size w (w.alloc o) := fun o => (Below.refl _ w).alloc (Nat.le_refl _) o
  rcases h with ⟨hlt, hn⟩ | ⟨hlt, hn⟩
  all_goals
    rcases h8 with h8 | ⟨h8, hl⟩
    · have hd1 : decide (8 < n) = true := by simpa using h8
      go_enter Try.func42, Try.ntmps42
      go_wp2
      refine bodyPost_ret (v := .tuple #[ptV pt0, .int .i64 ((0 : Nat) : Int)]) ?_ rfl ⟨rfl, hB _⟩
      simp [results, Try.results42, asAddr, Result.andThen, go_sem, ptV, pt0]
    · have hd1 : decide (8 < n) = false := by simpa using h8
      have hd2 : decide ((s.size : Int) ≤ n) = true := by simpa using hl
      go_enter Try.func42, Try.ntmps42
      go_wp2
      refine bodyPost_ret (v := .tuple #[ptV pt0, .int .i64 ((0 : Nat) : Int)]) ?_ rfl ⟨rfl, hB _⟩
      simp [results, Try.results42, asAddr, Result.andThen, go_sem, ptV, pt0]
theorem wrap_i64_in (z : Int) : I64 (IntKind.i64.wrap z) := by
  rw [IntKind.wrap_i64]; unfold I64; omega
theorem head_of (s : ByteArray) (h0 : 0 < s.size) : (numsS s).head? = some ((s[0].toNat : Nat) : Int) := by
  have : numsS s = ((s[0].toNat : Nat) : Int) :: (numsS s).drop 1 := by
    conv => lhs; rw [← List.take_append_drop 1 (numsS s)]
    have hl : 0 < (numsS s).length := by rw [numsS_length]; exact h0
    rw [List.take_succ_eq_append_getElem hl, List.take_zero, List.nil_append, List.singleton_append]
    congr 1
    simp [numsS]
    rfl
  rw [this]; rfl
/-- A number that stands at the front is read. -/
theorem num_read (bs rest : List Int) (z : Int) (hz : I64 z) (h : bs = numB z ++ rest) : needs (mag z) < bs.length ∧ IntKind.i64.wrap (((if z < 0 then up (needs (mag z)) else 0) + ofBe ((bs.take (1 + needs (mag z))).drop 1) : Nat) : Int) = z := by
  have h8 := needs_mag hz
  have hl : (be (needs (mag z)) (two z)).length = needs (mag z) := be_len _ _
  have e : (bs.take (1 + needs (mag z))).drop 1 = be (needs (mag z)) (two z) := by
    rw [h, numB, Nat.add_comm 1, List.cons_append, List.take_succ_cons, List.drop_succ_cons, List.drop_zero, List.take_left' hl]
  refine ⟨by rw [h]; simp [numB, hl]; omega, ?_⟩
  rw [e, ofBe_be]
  have hm := mag_lt hz
  have hmn := needs_lt (mag z)
  obtain ⟨p1, p2⟩ := pow_8 h8
  by_cases hn : z < 0
  · rw [if_pos hn, two_low hz (Nat.le_refl _) h8 hn]
    have hmz : (mag z : Int) = -1 - z := by unfold mag; rw [if_pos hn]; omega
    have hsum : ((up (needs (mag z)) + (256 ^ needs (mag z) - 1 - mag z) : Nat) : Int) = 2 ^ 64 - 1 - (mag z : Int) := by
      unfold up
      by_cases h9 : needs (mag z) = 8
      · rw [h9] at hmn ⊢
        have : (2 ^ 64 - 256 ^ 8) % 2 ^ 64 = 0 := by decide
        rw [this]; omega
      · have : 0 < 256 ^ needs (mag z) := Nat.pow_pos (by omega)
        rw [Nat.mod_eq_of_lt (by omega)]
        omega
    rw [hsum, hmz, IntKind.wrap_i64]
    obtain ⟨z1, z2⟩ := hz
    omega
  · rw [if_neg hn, Nat.zero_add, two_nonneg hz hn, Nat.mod_eq_of_lt hmn, IntKind.wrap_i64]
    have hmz : (mag z : Int) = z := by unfold mag; rw [if_neg hn]; omega
    obtain ⟨z1, z2⟩ := hz
    omega
theorem readInt_any (s : ByteArray) (w : World) (hs : s.size ≤ 1000000) (h0 : 0 < s.size) (hne : s[0].toNat ≠ 160) : Calls Try.prog 42 #[.string s] w fun e w' => ∃ p n, e = .returned (.tuple #[ptV p, .int .i64 (n : Nat)]) ∧ RdP (numsS s) p n ∧ Below w.heap.size w w' := by
  have hhd := head_of s h0
  obtain ⟨H, hH⟩ : ∃ H : Nat, s[0].toNat = H := ⟨_, rfl⟩
  rw [hH] at hne hhd
  have hH2 : H < 256 := by rw [← hH]; exact UInt8.toNat_lt _
  have hnl : (numsS s).length = s.size := numsS_length s
  -- what stands at the front, if it is a part
  have hq : ∀ q rest, OkP q → numsS s = partB q ++ rest → ∃ z, q = ⟨1, z, ⟨#[]⟩⟩ ∧ I64 z ∧ numsS s = numB z ++ rest ∧ (H : Int) = headN z := by
    intro q rest hq e
    obtain ⟨k, z, t⟩ := q
    rcases hq with ⟨h1, h2, h3⟩ | ⟨h1, h2, h3⟩
    · have ht : t = ⟨#[]⟩ := numsS_inj (List.length_eq_zero_iff.1 (by rw [numsS_length]; exact h2))
      simp only at h1
      subst h1 ht
      rw [partB_num rfl] at e
      refine ⟨z, rfl, h3, e, ?_⟩
      rw [e] at hhd
      simpa [numB] using hhd.symm
    · rw [partB_text h1] at e
      rw [e] at hhd
      simp [textB] at hhd
      omega
  by_cases hlt : (H : Int) < 128
  · obtain ⟨n, hn⟩ : ∃ n : Nat, 127 - (H : Int) = (n : Int) := ⟨(127 - (H : Int)).toNat, by omega⟩
    have hsz : ∀ z, I64 z → (H : Int) = headN z → z < 0 ∧ n = needs (mag z) := by
      intro z hz e
      unfold headN at e
      have := needs_mag hz
      split at e
      · next h => exact ⟨h, by omega⟩
      · omega
    by_cases hin : (n : Int) ≤ 8 ∧ (n : Int) < (s.size : Int)
    · refine (readInt_below s w H n (up n) hs h0 hH hlt hn hin.1 hin.2 rfl).mono ?_
      rintro e w' ⟨rfl, hb⟩
      refine ⟨_, _, rfl, ⟨by omega, wrap_i64_in _, Nat.zero_le _, ?_⟩, hb⟩
      intro q rest hok e
      obtain ⟨z, rfl, hz, e2, e3⟩ := hq q rest hok e
      obtain ⟨h1, h2⟩ := hsz z hz e3
      obtain ⟨_, h3⟩ := num_read (numsS s) rest z hz e2
      rw [if_pos h1, ← h2] at h3
      refine ⟨by rw [h3], ?_⟩
      rw [partB_num rfl]
      show 1 + n = (numB z).length
      rw [numB, List.length_cons, be_len, h2]; omega
    · refine (readInt_none s w H n hs h0 hH (.inl ⟨hlt, hn⟩) (by omega)).mono ?_
      rintro e w' ⟨rfl, hb⟩
      refine ⟨_, _, rfl, ⟨by omega, by show I64 0; unfold I64; omega, Nat.zero_le _, ?_⟩, hb⟩
      intro q rest hok e
      exfalso
      obtain ⟨z, rfl, hz, e2, e3⟩ := hq q rest hok e
      obtain ⟨h1, h2⟩ := hsz z hz e3
      obtain ⟨h4, _⟩ := num_read (numsS s) rest z hz e2
      have := needs_mag hz
      omega
  · obtain ⟨n, hn⟩ : ∃ n : Nat, (H : Int) - 128 = (n : Int) := ⟨((H : Int) - 128).toNat, by omega⟩
    have hsz : ∀ z, I64 z → (H : Int) = headN z → ¬ z < 0 ∧ n = needs (mag z) := by
      intro z hz e
      unfold headN at e
      have := needs_mag hz
      split at e
      · omega
      · next h => exact ⟨h, by omega⟩
    by_cases hin : (n : Int) ≤ 8 ∧ (n : Int) < (s.size : Int)
    · refine (readInt_above s w H n 0 hs h0 hH hlt hn hin.1 hin.2 rfl).mono ?_
      rintro e w' ⟨rfl, hb⟩
      refine ⟨_, _, rfl, ⟨by omega, wrap_i64_in _, Nat.zero_le _, ?_⟩, hb⟩
      intro q rest hok e
      obtain ⟨z, rfl, hz, e2, e3⟩ := hq q rest hok e
      obtain ⟨h1, h2⟩ := hsz z hz e3
      obtain ⟨_, h3⟩ := num_read (numsS s) rest z hz e2
      rw [if_neg h1, ← h2] at h3
      refine ⟨by rw [h3], ?_⟩
      rw [partB_num rfl]
      show 1 + n = (numB z).length
      rw [numB, List.length_cons, be_len, h2]; omega
    · refine (readInt_none s w H n hs h0 hH (.inr ⟨hlt, hn⟩) (by omega)).mono ?_
      rintro e w' ⟨rfl, hb⟩
      refine ⟨_, _, rfl, ⟨by omega, by show I64 0; unfold I64; omega, Nat.zero_le _, ?_⟩, hb⟩
      intro q rest hok e
      exfalso
      obtain ⟨z, rfl, hz, e2, e3⟩ := hq q rest hok e
      obtain ⟨h1, h2⟩ := hsz z hz e3
      obtain ⟨h4, _⟩ := num_read (numsS s) rest z hz e2
      have := needs_mag hz
      omega
end Go.Proofs.Ytkhnhnaefmcngaa
