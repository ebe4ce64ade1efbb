/-
  Proved here: 'klaxonlaw03.PageTurned' (P3.8), called with any ints, any page and any mask, in any memory, returns true, and its arguments read afterwards as they read before: a page with bits turned ahead of its last four bytes, within 32 neighbouring ones, is refused. No condition beyond the row's own.
-/
import Derived.Test.YtcgjolonapndgaaRows
import Derived.WalkKit
import Derived.ProofKit
import Derived.OpenShut
import Derived.ShutString
import Derived.ChangeOld
import Derived.Below
import Derived.Test.YtcgjolonapndgaaTake
namespace Go.Proofs.Ytcgjolonapndgaa.pageTurned
open Go.ChangeShapes Go.WideShapes Go.ChangeAt Go.RowKit
open Go.ChangeMaps (open_string shut_string)
set_option linter.unusedVariables false

theorem own : ownKnob Try.prog.godebug = none := by kernel_rfl
theorem laidOut : laidOutB Try.prog = true := by kernel_rfl

/-! ### The walk -/
theorem u32_bounds {a : Int} (h : (Lit.int .u32 a).wf = true) : 0 ≤ a ∧ a < 4294967296 := by
  simp only [Lit.wf, Bool.and_eq_true, IntKind.min, IntKind.max, IntKind.signed, IntKind.bits] at h
  simp at h
  omega
theorem bit_and1 (m k : Nat) (hm : m < 2 ^ 32) : bits .and .u32 ((m : Int) / 2 ^ k) 1 = (((m / 2 ^ k) % 2 : Nat) : Int) := by
  have h : ((m : Int) / 2 ^ k) = ((m / 2 ^ k : Nat) : Int) := by push_cast; rfl
  rw [h]
  exact bits_and1_u32 _ (Nat.lt_of_le_of_lt (Nat.div_le_self _ _) hm)
theorem bits_xor_u8 (a b : Nat) (ha : a < 2 ^ 8) (hb : b < 2 ^ 8) : bits .xor .u8 (a : Int) (b : Int) = ((a ^^^ b : Nat) : Int) := by
  have ha' : a % 2 ^ IntKind.u8.bits = a := Nat.mod_eq_of_lt ha
  have hb' : b % 2 ^ IntKind.u8.bits = b := Nat.mod_eq_of_lt hb
  have h := Nat.xor_lt_two_pow ha hb
  simp only [bits, BitVec.ofInt_natCast, BitVec.toNat_xor, BitVec.toNat_ofNat, ha', hb']
  simp only [IntKind.wrap, IntKind.bits, IntKind.signed]
  simp
  omega
theorem xor8 (d r : Nat) (hd : d < 256) (hr : r < 8) : bits .xor .u8 (d : Int) ((2 : Int) ^ r % 256) = ((d ^^^ 2 ^ r : Nat) : Int) := by
  have h9 : 2 ^ r < 2 ^ 8 := Nat.pow_lt_pow_right (by omega) hr
  have h10 : ((2 : Int) ^ r) = ((2 ^ r : Nat) : Int) := by push_cast; rfl
  rw [h10, ← bits_xor_u8 d (2 ^ r) (by omega) h9]
  generalize 2 ^ r = t at h9
  rw [Int.emod_eq_of_lt (by omega) (by omega)]
/-- The first k bits of the mask that is turned. -/
def low (m k : Nat) : Nat := m % 2 ^ k
theorem low_zero (m : Nat) : low m 0 = 0 := Nat.mod_one m
theorem low_succ (m k : Nat) : low m (k + 1) = low m k + 2 ^ k * ((m / 2 ^ k) % 2) := by
  unfold low; rw [Nat.pow_succ, Nat.mod_mul]
theorem low_lt (m k : Nat) : low m k < 2 ^ k := Nat.mod_lt _ (Nat.pow_pos (by omega))
theorem low_xor (m k : Nat) (h : (m / 2 ^ k) % 2 = 1) : low m (k + 1) = low m k ^^^ 2 ^ k := by
  rw [low_succ, h, Nat.mul_one]
  have := Nat.two_pow_add_eq_or_of_lt (i := k) (b := low m k) (low_lt m k) 1
  rw [Nat.mul_one] at this
  rw [Nat.add_comm, this]
  apply Nat.eq_of_testBit_eq
  intro i
  rw [Nat.testBit_or, Nat.testBit_xor]
  by_cases hi : i = k
  · subst hi
    rw [Nat.testBit_lt_two_pow (low_lt m i)]; simp
  · rw [Nat.testBit_two_pow]; simp [Ne.symm hi]
theorem low_same (m k : Nat) (h : (m / 2 ^ k) % 2 = 0) : low m (k + 1) = low m k := by rw [low_succ, h]; omega
theorem mul_xor (at_ a b : Nat) : 2 ^ at_ * (a ^^^ b) = (2 ^ at_ * a) ^^^ (2 ^ at_ * b) := by
  have hd := Nat.shiftLeft_xor_distrib (a := a) (b := b) (i := at_)
  simp only [Nat.shiftLeft_eq] at hd
  rw [Nat.mul_comm, hd, Nat.mul_comm a, Nat.mul_comm b]
/-- One more bit turned. -/
theorem turn_step (p q : List Int) (hq : IsBytes q) (at_ k m : Nat) (hv : vals q = vals p ^^^ (2 ^ at_ * low m k)) (hi : (at_ + k) / 8 < q.length) (hb : (m / 2 ^ k) % 2 = 1) :
    vals (q.set ((at_ + k) / 8) (((q.getD ((at_ + k) / 8) 0).toNat ^^^ 2 ^ ((at_ + k) % 8) : Nat) : Int)) = vals p ^^^ (2 ^ at_ * low m (k + 1)) := by
  rw [vals_set q hq _ _ hi (Nat.mod_lt _ (by omega)), hv, low_xor m k hb, mul_xor, Nat.xor_assoc, ← Nat.pow_add, Nat.div_add_mod]
theorem set_bytes (q : List Int) (hq : IsBytes q) (i j : Nat) (hi : i < q.length) (hj : j < 8) : IsBytes (q.set i (((q.getD i 0).toNat ^^^ 2 ^ j : Nat) : Int)) := by
  intro c hc
  rcases List.mem_or_eq_of_mem_set hc with h | h
  · exact hq c h
  · have h0 := hq _ (getD_mem q 0 i hi)
    have : (q.getD i 0).toNat ^^^ 2 ^ j < 2 ^ 8 := Nat.xor_lt_two_pow (by omega) (Nat.pow_lt_pow_right (by omega) hj)
    rw [h]; omega
set_option maxRecDepth 100000 in
set_option maxHeartbeats 4000000 in
theorem main (size : Nat) (k1 : Int) (i1 : Nat) (a1 : Option Addr) (len1 cap1 : Nat) (A : List Int) (at_ mask : Nat) (w : World) (hk1 : 0 ≤ k1 ∧ k1 < 256) (hi1 : i1 < 2 ^ 32) (hb : Bts w (.slice a1 len1 cap1) A) (hA : IsBytes A) (hlen : len1 = A.length) (hl : len1 ≤ 20000)
    (hE : putE size k1 len1 = 0) (hat : at_ < 8 * (size - 4)) (hm : mask < 2 ^ 32) :
    Calls Try.prog 6 #[.int .i64 size, .agg #[.int .u8 k1, .int .u32 i1, .slice a1 len1 cap1], .int .i64 at_, .int .u32 mask] w fun e w' => e = .returned (.bool true) ∧ Below w.heap.size w w' := by
  obtain ⟨h1, h2, h3, h4⟩ := putE_zero hE
  have hl' : decide ((20000 : Int) < (len1 : Int)) = false := by simp; omega
  have hb0 := hb.alloc (.cells #[.int .u8 k1, .int .u32 i1, .slice a1 len1 cap1] 25)
  have hB0 := (Below.refl w.heap.size w).alloc (Nat.le_refl _) (.cells #[.int .u8 k1, .int .u32 i1, .slice a1 len1 cap1] 25)
  have hput := put_ok size k1 i1 _ A _ (by omega) (by omega) ⟨by omega, hk1.2⟩ hi1 hb0 hA (by omega)
  have hsz : (w.alloc (.cells #[.int .u8 k1, .int .u32 i1, .slice a1 len1 cap1] 25)).heap.size = w.heap.size + 1 := by simp
  rw [hsz] at hput
  have hLl := laid_len size k1 i1 A (by omega)
  have hLb := laid_bytes size k1 i1 A hk1 hA
  have hPg := isPage_page size k1 i1 A (by omega) (by omega) h3 hi1 (by omega)
  have hnp := fun q hq hne => not_page (laid size k1 i1 A) q hLb hq hne
  have hpb : pageB size k1 i1 A = laid size k1 i1 A ++ mk (laid size k1 i1 A) := rfl
  have hml := mk_len (laid size k1 i1 A)
  have hmb : IsBytes (mk (laid size k1 i1 A)) := be_bytes _ _
  rw [hpb] at hput hPg
  generalize mk (laid size k1 i1 A) = T at *
  generalize laid size k1 i1 A = p at *
  clear hpb hb0
  have hd2 : decide ((at_ : Int) < 0) = false := by simp
  have hd3 : decide (8 * ((size : Int) - 4) ≤ (at_ : Int)) = false := by simp; omega
  replace hLl : Hid _ := hLl
  replace hPg : Hid _ := hPg
  replace hml : Hid _ := hml
  replace hnp : Hid _ := hnp
  clear hsz hlen hE hb
  go_enter Try.func6, Try.ntmps6
  go_wp2_with (first | (go_at_call 10; refine hput.mono ?_; rintro e w1 ⟨rfl, hrow1, hb1⟩; replace hrow1 : Hid _ := hrow1) | (go_at_call 14; refine (num_any _ _ (by omega) (by omega)).mono ?_; rintro e w5 ⟨rfl, hw5⟩; subst w5))
  have hz0 := hB0.size
  have hB1 := hB0.trans (hb1.mono (by omega))
  clear hput hb1 hB0 hl' hd2 hd3
  have hLs := hLl.out
  have hTs := hml.out
  go_loopw [12, 13] (fun t i wr => ∃ (k : Nat) (q : List Int), k ≤ 32 ∧ i = .int .i64 k ∧ t = .bool (decide (low mask k ≠ 0)) ∧ Hid (q.length = p.length) ∧ IsBytes q ∧ Hid (low mask k = 0 → q = p) ∧ Hid (vals q = vals p ^^^ (2 ^ at_ * low mask k)) ∧ Hid (Row wr (w.heap.size + 1 + 1) (q ++ T)) ∧ Below w.heap.size w wr) (fun _ i _ => 32 - (intOf i).toNat)
  case atStart => exact ⟨0, p, by omega, rfl, by rw [low_zero]; rfl, rfl, hLb, fun _ => rfl, by show _ = _; rw [low_zero, Nat.mul_zero, Nat.xor_zero], hrow1, hB1⟩
  case round =>
    obtain ⟨k, q, hk, rfl, rfl, hql, hqb, hq0, hqv, hqr, hBr⟩ := hrel
    have hqs := hql.out
    by_cases hc : k < 32 ∧ at_ + k < 8 * (size - 4)
    · obtain ⟨hc1, hc2⟩ := hc
      have e1 : decide ((k : Int) < 32) = true := by simp; omega
      have e2 : decide ((at_ : Int) < 8 * ((size : Int) - 4) - (k : Int)) = true := by simp; omega
      have hj : (at_ + k) / 8 < q.length := by omega
      have hr8 : (at_ + k) % 8 < 8 := Nat.mod_lt _ (by omega)
      have i1 : ((at_ : Int) + (k : Int)) / 8 = (((at_ + k) / 8 : Nat) : Int) := by omega
      have i2 : ((at_ : Int) + (k : Int)) % 8 = (((at_ + k) % 8 : Nat) : Int) := by omega
      have hd0 := hqb _ (getD_mem q 0 _ hj)
      have hcell : wr.cell? ⟨w.heap.size + 1 + 1, (at_ + k) / 8, none⟩ = some (.int .u8 (q.getD ((at_ + k) / 8) 0)) := by
        have := Row.cell hqr.out ((at_ + k) / 8) (by rw [List.length_append]; omega)
        rw [this]
        simp [List.getElem?_append_left hj]
      have hfz : wr.frozen? ⟨w.heap.size + 1 + 1, (at_ + k) / 8, none⟩ = false := Row.frozen hqr.out _
      have hA1 := bit_and1 mask k hm
      by_cases hbit : (mask / 2 ^ k) % 2 = 1
      · have hst := turn_step p q hqb at_ k mask hqv.out hj hbit
        have hsb := set_bytes q hqb _ _ hj hr8
        have hrs := Row.set (p := (at_ + k) / 8) hqr.out (((q.getD ((at_ + k) / 8) 0).toNat ^^^ 2 ^ ((at_ + k) % 8) : Nat) : Int)
        rw [List.set_append_left _ _ hj] at hrs
        have hlow : low mask (k + 1) ≠ 0 := by rw [low_succ, hbit]; have := Nat.pow_pos (n := k) (show 0 < 2 by omega); omega
        have hX := bits_xor_u8 (q.getD ((at_ + k) / 8) 0).toNat (2 ^ ((at_ + k) % 8)) (by omega) (Nat.pow_lt_pow_right (by omega) hr8)
        rw [hbit] at hA1
        have hll : Hid ((q.set ((at_ + k) / 8) (((q.getD ((at_ + k) / 8) 0).toNat ^^^ 2 ^ ((at_ + k) % 8) : Nat) : Int)).length = p.length) := by show _ = _; rw [List.length_set]; exact hqs
        replace hst : Hid _ := hst
        replace hrs : Hid _ := hrs
        replace hlow : Hid _ := hlow
        generalize q.set ((at_ + k) / 8) (((q.getD ((at_ + k) / 8) 0).toNat ^^^ 2 ^ ((at_ + k) % 8) : Nat) : Int) = q2 at *
        clear hq0 hqv hqr hql hqs hqb hj
        generalize (at_ + k) / 8 = j at *
        generalize (at_ + k) % 8 = r at *
        obtain ⟨d, hd⟩ : ∃ d : Nat, q.getD j 0 = d := ⟨(q.getD j 0).toNat, by omega⟩
        rw [hd] at hcell hd0 hX hrs
        rw [Int.toNat_natCast] at hX hrs
        clear hd
        have hX' := xor8 d r (by omega) hr8
        clear hX
        go_wp2
        go_roundw
        case rel => exact ⟨k + 1, q2, by omega, by go_num, by simp; exact hlow.out, hll, hsb, fun h => absurd h hlow.out, hst, hrs, hBr.setCell (by simp; omega) _⟩
        case measure => simp [intOf]; omega
      · have hlow := low_same mask k (by omega)
        rw [show (mask / 2 ^ k) % 2 = 0 by omega] at hA1
        rw [← hlow] at hq0 hqv ⊢
        replace hlow : Hid _ := hlow
        clear hcell hfz i1 i2
        go_wp2
        go_roundw
        case rel => exact ⟨k + 1, q, by omega, by go_num, rfl, hql, hqb, hq0, hqv, hqr, hBr⟩
        case measure => simp [intOf]; omega
    · have hbt : Bts wr (.slice (some ⟨w.heap.size + 1 + 1, 0, none⟩) size size) (q ++ T) := by
        have := Row.bts hqr.out
        rwa [List.length_append, hqs, hLs, hTs, show size - 4 + 4 = size by omega] at this
      have hqT := isBytes_append hqb hmb
      by_cases hM : low mask k = 0
      · have hqp := hq0.out hM
        have hdM : decide (low mask k ≠ 0) = false := by simp [hM]
        have hpg := hPg.out
        rw [← hqp] at hpg
        have hget := get_yes _ _ wr hbt hqT hpg
        generalize decide (low mask k ≠ 0) = tb at *
        subst hdM
        replace hpg : Hid _ := hpg
        clear hbt hq0 hqv hqr hM hqp
        by_cases hc1 : k < 32
        · have e1 : decide ((k : Int) < 32) = true := by simp; omega
          have e2 : decide ((at_ : Int) < 8 * ((size : Int) - 4) - (k : Int)) = false := by simp; omega
          go_wp2_with (first | (go_at_call 12; refine hget.mono ?_; rintro e w2 ⟨lv, rfl, ⟨base, hbase, hol⟩, hb2⟩; obtain ⟨al, cl, rfl⟩ := hol.bts.split) | (go_at_call 14; refine (num_any _ _ (by omega) (by omega)).mono ?_; rintro e w5 ⟨rfl, hw5⟩; subst w5) | (go_at_call 9; refine (live_any _).mono ?_; rintro e w6 ⟨rfl, hb6⟩))
          go_ret
          have hB2 := hBr.trans (hb2.mono hBr.size)
          exact ⟨rfl, (hB2.alloc hB2.size _).trans (hb6.mono (by simp; have := hB2.size; omega))⟩
        · have e1 : decide ((k : Int) < 32) = false := by simp; omega
          go_wp2_with (first | (go_at_call 12; refine hget.mono ?_; rintro e w2 ⟨lv, rfl, ⟨base, hbase, hol⟩, hb2⟩; obtain ⟨al, cl, rfl⟩ := hol.bts.split) | (go_at_call 14; refine (num_any _ _ (by omega) (by omega)).mono ?_; rintro e w5 ⟨rfl, hw5⟩; subst w5) | (go_at_call 9; refine (live_any _).mono ?_; rintro e w6 ⟨rfl, hb6⟩))
          go_ret
          have hB2 := hBr.trans (hb2.mono hBr.size)
          exact ⟨rfl, (hB2.alloc hB2.size _).trans (hb6.mono (by simp; have := hB2.size; omega))⟩
      · have hdM : decide (low mask k ≠ 0) = true := by simp [hM]
        have hl32 : low mask k < 2 ^ 32 := Nat.lt_of_lt_of_le (low_lt mask k) (Nat.pow_le_pow_right (by omega) hk)
        have hne := mfold_turned 4294967295 p q hLb hqb hqs at_ (low mask k) (by omega) hl32 hM hqv.out
        have hget := get_no _ _ wr hbt hqT (hnp.out q hqb hne)
        generalize decide (low mask k ≠ 0) = tb at *
        subst hdM
        clear hbt hq0 hqv hqr hM hne
        by_cases hc1 : k < 32
        · have e1 : decide ((k : Int) < 32) = true := by simp; omega
          have e2 : decide ((at_ : Int) < 8 * ((size : Int) - 4) - (k : Int)) = false := by simp; omega
          go_wp2_with (first | (go_at_call 12; refine hget.mono ?_; rintro e w2 ⟨rfl, hb2⟩) | (go_at_call 14; refine (num_any _ _ (by omega) (by omega)).mono ?_; rintro e w5 ⟨rfl, hw5⟩; subst w5) | (go_at_call 15; refine (same_any 0 0 0 0 _ _ [] [] _ (bts_nil _) (bts_nil _) (by intro c h; cases h) (by intro c h; cases h)).mono ?_; rintro e w7 ⟨rfl, hb7⟩) | (go_at_call 9; refine (live_any _).mono ?_; rintro e w6 ⟨rfl, hb6⟩))
          go_ret
          have hB2 := hBr.trans (hb2.mono hBr.size)
          have hB3 := hB2.alloc hB2.size (.cells #[.int .u8 0, .int .u32 0, .slice none 0 0] 25)
          have hB4 := hB3.trans (hb7.mono hB3.size)
          exact ⟨rfl, hB4.trans (hb6.mono hB4.size)⟩
        · have e1 : decide ((k : Int) < 32) = false := by simp; omega
          go_wp2_with (first | (go_at_call 12; refine hget.mono ?_; rintro e w2 ⟨rfl, hb2⟩) | (go_at_call 14; refine (num_any _ _ (by omega) (by omega)).mono ?_; rintro e w5 ⟨rfl, hw5⟩; subst w5) | (go_at_call 15; refine (same_any 0 0 0 0 _ _ [] [] _ (bts_nil _) (bts_nil _) (by intro c h; cases h) (by intro c h; cases h)).mono ?_; rintro e w7 ⟨rfl, hb7⟩) | (go_at_call 9; refine (live_any _).mono ?_; rintro e w6 ⟨rfl, hb6⟩))
          go_ret
          have hB2 := hBr.trans (hb2.mono hBr.size)
          have hB3 := hB2.alloc hB2.size (.cells #[.int .u8 0, .int .u32 0, .slice none 0 0] 25)
          have hB4 := hB3.trans (hb7.mono hB3.size)
          exact ⟨rfl, hB4.trans (hb6.mono hB4.size)⟩
set_option maxRecDepth 100000 in
set_option maxHeartbeats 4000000 in
theorem out_len (a0 : Int) (k1 : Int) (i1 : Nat) (a1 : Option Addr) (len1 cap1 : Nat) (a2 a3 : Int) (w : World) (hl : (20000 : Int) < (len1 : Int)) :
    Calls Try.prog 6 #[.int .i64 a0, .agg #[.int .u8 k1, .int .u32 i1, .slice a1 len1 cap1], .int .i64 a2, .int .u32 a3] w fun e w' => e = .returned (.bool true) ∧ Below w.heap.size w w' := by
  have hB1 := (Below.refl w.heap.size w).alloc (Nat.le_refl _) (.cells #[.int .u8 k1, .int .u32 i1, .slice a1 len1 cap1] 25)
  go_enter Try.func6, Try.ntmps6
  go_wp2_with (first | (go_at_call 9; refine (live_any _).mono ?_; rintro e w2 ⟨rfl, hb2⟩))
  go_ret
  exact ⟨rfl, hB1.trans (hb2.mono (by simp))⟩
set_option maxRecDepth 100000 in
set_option maxHeartbeats 4000000 in
theorem out_put (a0 : Int) (k1 : Int) (i1 : Nat) (a1 : Option Addr) (len1 cap1 : Nat) (a2 a3 : Int) (w : World) (hl : ¬ (20000 : Int) < (len1 : Int)) (hk : 0 ≤ k1) (hE : putE a0 k1 len1 ≠ 0) :
    Calls Try.prog 6 #[.int .i64 a0, .agg #[.int .u8 k1, .int .u32 i1, .slice a1 len1 cap1], .int .i64 a2, .int .u32 a3] w fun e w' => e = .returned (.bool true) ∧ Below w.heap.size w w' := by
  have hl' : decide ((20000 : Int) < (len1 : Int)) = false := by simpa using hl
  have hB1 := (Below.refl w.heap.size w).alloc (Nat.le_refl _) (.cells #[.int .u8 k1, .int .u32 i1, .slice a1 len1 cap1] 25)
  have hput := fun W => put_bad a0 k1 i1 a1 len1 cap1 W hk hE
  have hin := putE_in a0 k1 len1
  generalize putE a0 k1 len1 = E at *
  have hE' : (E == 0) = false := by simpa using hE
  have hE2 : (E != 0) = true := by simpa using hE
  go_enter Try.func6, Try.ntmps6
  go_wp2_with (first | (go_at_call 10; refine (hput _).mono ?_; rintro e w1 ⟨rfl, hb1⟩) | (go_at_call 14; refine (num_any _ _ (by omega) (by omega)).mono ?_; rintro e w5 ⟨rfl, hw5⟩; subst w5) | (go_at_call 9; refine (live_any _).mono ?_; rintro e w2 ⟨rfl, hb2⟩))
  go_ret
  have hB2 := hB1.trans (hb1.mono (by simp))
  exact ⟨rfl, hB2.trans (hb2.mono hB2.size)⟩
set_option maxRecDepth 100000 in
set_option maxHeartbeats 4000000 in
theorem out_at (size : Nat) (k1 : Int) (i1 : Nat) (a1 : Option Addr) (len1 cap1 : Nat) (A : List Int) (a2 a3 : Int) (w : World) (hk1 : 0 ≤ k1 ∧ k1 < 256) (hi1 : i1 < 2 ^ 32) (hb : Bts w (.slice a1 len1 cap1) A) (hA : IsBytes A) (hlen : len1 = A.length) (hl : len1 ≤ 20000)
    (hE : putE size k1 len1 = 0) (hat : a2 < 0 ∨ 0 ≤ a2 ∧ 8 * ((size : Int) - 4) ≤ a2) :
    Calls Try.prog 6 #[.int .i64 size, .agg #[.int .u8 k1, .int .u32 i1, .slice a1 len1 cap1], .int .i64 a2, .int .u32 a3] w fun e w' => e = .returned (.bool true) ∧ Below w.heap.size w w' := by
  obtain ⟨h1, h2, h3, h4⟩ := putE_zero hE
  have hl' : decide ((20000 : Int) < (len1 : Int)) = false := by simp; omega
  have hb0 := hb.alloc (.cells #[.int .u8 k1, .int .u32 i1, .slice a1 len1 cap1] 25)
  have hB0 := (Below.refl w.heap.size w).alloc (Nat.le_refl _) (.cells #[.int .u8 k1, .int .u32 i1, .slice a1 len1 cap1] 25)
  have hput := put_ok size k1 i1 _ A _ (by omega) (by omega) ⟨by omega, hk1.2⟩ hi1 hb0 hA (by omega)
  generalize pageB size k1 i1 A = q at hput
  clear hb0 hlen hE hb
  rcases hat with hat | ⟨ha0, hat⟩
  · have hd2 : decide (a2 < 0) = true := by simpa using hat
    go_enter Try.func6, Try.ntmps6
    go_wp2_with (first | (go_at_call 10; refine hput.mono ?_; rintro e w1 ⟨rfl, hrow1, hb1⟩; clear hrow1) | (go_at_call 14; refine (num_any _ _ (by omega) (by omega)).mono ?_; rintro e w5 ⟨rfl, hw5⟩; subst w5) | (go_at_call 9; refine (live_any _).mono ?_; rintro e w2 ⟨rfl, hb2⟩))
    go_ret
    have hB2 := hB0.trans (hb1.mono (by simp))
    exact ⟨rfl, hB2.trans (hb2.mono hB2.size)⟩
  · have hd2 : decide (a2 < 0) = false := by simpa using ha0
    have hd3 : decide (8 * ((size : Int) - 4) ≤ a2) = true := by simpa using hat
    go_enter Try.func6, Try.ntmps6
    go_wp2_with (first | (go_at_call 10; refine hput.mono ?_; rintro e w1 ⟨rfl, hrow1, hb1⟩; clear hrow1) | (go_at_call 14; refine (num_any _ _ (by omega) (by omega)).mono ?_; rintro e w5 ⟨rfl, hw5⟩; subst w5) | (go_at_call 9; refine (live_any _).mono ?_; rintro e w2 ⟨rfl, hb2⟩))
    go_ret
    have hB2 := hB0.trans (hb1.mono (by simp))
    exact ⟨rfl, hB2.trans (hb2.mono hB2.size)⟩
theorem walk (a0 : Int) (k1 : Int) (i1 : Nat) (a1 : Option Addr) (len1 cap1 : Nat) (z1 : List Int) (a2 a3 : Int) (w : World) (w0 : (Lit.int .i64 a0).wf = true) (hk1 : 0 ≤ k1 ∧ k1 < 256) (hi1 : i1 < 2 ^ 32) (w1 : IsRow .u8 w a1 len1 cap1 z1) (w2 : (Lit.int .i64 a2).wf = true) (w3 : (Lit.int .u32 a3).wf = true) :
    Calls Try.prog 6 #[.int .i64 a0, .agg #[.int .u8 k1, .int .u32 i1, .slice a1 len1 cap1], .int .i64 a2, .int .u32 a3] w fun e w' => e = .returned (.bool true) ∧ Below w.heap.size w w' := by
  by_cases hl : (20000 : Int) < (len1 : Int)
  · exact out_len a0 k1 i1 a1 len1 cap1 a2 a3 w hl
  by_cases hE : putE a0 k1 len1 = 0
  · obtain ⟨h1, h2, h3, h4⟩ := putE_zero hE
    obtain ⟨size, rfl⟩ : ∃ s : Nat, a0 = s := ⟨a0.toNat, by omega⟩
    by_cases hat : a2 < 0 ∨ 0 ≤ a2 ∧ 8 * ((size : Int) - 4) ≤ a2
    · exact out_at size k1 i1 a1 len1 cap1 (z1.take len1) a2 a3 w hk1 hi1 w1.bts w1.isBytes w1.len.symm (by omega) hE hat
    · have hm := u32_bounds w3
      obtain ⟨m, rfl⟩ : ∃ m : Nat, a3 = m := ⟨a3.toNat, by omega⟩
      obtain ⟨at_, rfl⟩ : ∃ m : Nat, a2 = m := ⟨a2.toNat, by omega⟩
      exact main size k1 i1 a1 len1 cap1 (z1.take len1) at_ m w hk1 hi1 w1.bts w1.isBytes w1.len.symm (by omega) hE (by omega) (by omega)
  · exact out_put a0 k1 i1 a1 len1 cap1 a2 a3 w hl hk1.1 hE

/-! ### THE ROW's STEP: WRITTEN OUT: LEAVE IT -/
set_option maxRecDepth 100000 in
theorem lifted (os : Os) (started : os.Started) (H : Type) (enc : TypeId × Value → H) :
    ReturnsInHanded {} Try.checked os 6 .any (Rows.pageTurnedSpec.pre6 enc Try.prog Try.f6 Rows.pageTurnedRow.domain false) (Rows.pageTurnedSpec.post enc Try.prog Try.f6 false true false false) := by
  refine returnsInHanded_of_change (C := Try.checked) own started (by kernel_rfl) Try.func6
    (ChangeSpec.witness6 (enc := enc) (C := Try.checked) false ⟨#[], #[.int .i64 0, .agg #[.int .u8 0, .int .u32 0, .slice none 0 0], .int .i64 0, .int .u32 0], []⟩ 8 (by kernel_rfl) (by kernel_rfl) (by kernel_rfl) (by kernel_rfl)) ?_
  intro W base args ds gs before hval0 hW hcnd _
  have hval : ∀ (j : Nat) t v, Try.f6.params[j]? = some t → args[j]? = some v → Value.okWide Try.prog W .any base t v := hval0
  have hW' := hW
  obtain ⟨p, q, hA0, hV, rfl, hfz, hnd⟩ := hW
  have hA : DataW.TrodAll enc Try.prog W 0 (fun _ => true) true Try.f6.params.toList args.toList ds p := hA0
  rw [Try.params6] at hA hval
  obtain ⟨v0, vs0, d0, ds0, p0, q0, hargs, rfl, rfl, h0, r0⟩ := trodAll_cons hA
  obtain ⟨v1, vs1, d1, ds1, p1, q1, rfl, rfl, rfl, h1, r1⟩ := trodAll_cons r0
  obtain ⟨v2, vs2, d2, ds2, p2, q2, rfl, rfl, rfl, h2, r2⟩ := trodAll_cons r1
  obtain ⟨v3, vs3, d3, ds3, p3, q3, rfl, rfl, rfl, h3, r3⟩ := trodAll_cons r2
  obtain ⟨rfl, rfl, rfl⟩ := trodAll_nil r3
  obtain rfl : args = #[v0, v1, v2, v3] := by cases args; simp_all
  obtain ⟨rfl, rfl⟩ := trodVars_none hV
  obtain ⟨a0, rfl, rfl, rfl, w0⟩ := open_int Try.underlying3 (hval 0 3 v0 rfl rfl) h0
  have k1 := h1
  have lt1 : ∀ x ∈ p1, x.block < W.heap.size := by obtain ⟨m, hm⟩ := k1; exact DataW.trod_lt m _ _ _ hm
  obtain ⟨kd1, id1, a1, len1, cap1, z1, rfl, hk1, hi1, w1⟩ := page_arg (hval 1 25 v1 rfl rfl) h1
  obtain ⟨a2, rfl, rfl, rfl, w2⟩ := open_int Try.underlying3 (hval 2 3 v2 rfl rfl) h2
  obtain ⟨a3, rfl, rfl, rfl, w3⟩ := open_int Try.underlying22 (hval 3 22 v3 rfl rfl) h3
  clear hA0 hval0
  refine (walk a0 kd1 id1 a1 len1 cap1 z1 a2 a3 W w0 hk1 hi1 w1 w2 w3).mono fun e W' ⟨he, bel⟩ => ?_
  subst he
  exact ⟨_, rfl, _, _, _, [], _, [], hW', trodAll_mk1 (shut_bool Try.underlying4 _), (trodAll_cons_mk (shut_int Try.underlying3 w0) (trodAll_cons_mk (Below.trod laidOut (by kernel_rfl) (of_decide_eq_true (by kernel_rfl)) k1 bel lt1) (trodAll_cons_mk (shut_int Try.underlying3 w2) (trodAll_cons_mk (shut_int Try.underlying22 w3) trodAll_mk0)))), rfl, bel.frame _, fun h => by cases h⟩

theorem over : Rows.pageTurnedRow.holds Try.pinned (OpenSpec.ofChange Rows.pageTurnedSpec) :=
  OpenClaim.holds_of_wide 6 Try.f6 rfl rfl rfl rfl rfl rfl rfl ⟨rfl, rfl, rfl, rfl, rfl⟩ rfl rfl rfl rfl rfl (by kernel_rfl) Try.func6 (by kernel_rfl)
    (of_decide_eq_true (by kernel_rfl)) (by unfold Func.isWrapper; first | (rw [if_pos (by decide +kernel)]; kernel_rfl) | (rw [if_neg (by decide +kernel)]; exact ⟨rfl, rfl⟩))
    (fun os started H enc _ => lifted os started H enc)

end Go.Proofs.Ytcgjolonapndgaa.pageTurned
namespace Go.Proofs.Ytcgjolonapndgaa
/-- The statement. -/
theorem pageTurned_holds : Rows.PageTurnedSaid := pageTurned.over
#print axioms pageTurned_holds
end Go.Proofs.Ytcgjolonapndgaa
