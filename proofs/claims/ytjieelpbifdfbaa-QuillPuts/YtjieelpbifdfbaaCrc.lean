/- The document's own mark (klaxonref01.Crc) is quill's. -/
import Derived.Test.YtjieelpbifdfbaaMark2
namespace Go.Proofs.Ytjieelpbifdfbaa
open Go.RowKit
/-- One bit's step of the document's mark: e is the byte, its lower bits gone. -/
def cstep (c e : Nat) : Nat := if (c ^^^ e) % 2 = 1 then (c / 2) ^^^ 3945912366 else c / 2
def citer (d : Nat) : Nat → Nat → Nat
  | 0, c => c
  | k + 1, c => cstep (citer d k c) (d / 2 ^ k)
theorem cstep_lt (c e : Nat) (h : c < 2 ^ 32) : cstep c e < 2 ^ 32 := by
  unfold cstep
  split
  · exact Nat.xor_lt_two_pow (by omega) (by decide)
  · omega
theorem citer_lt (d k c : Nat) (h : c < 2 ^ 32) : citer d k c < 2 ^ 32 := by
  induction k with
  | zero => exact h
  | succ k ih => exact cstep_lt _ _ ih
theorem xor_div2 (a b : Nat) : (a ^^^ b) / 2 = (a / 2) ^^^ (b / 2) := by
  have := Nat.shiftRight_xor_distrib (a := a) (b := b) (i := 1)
  simpa [Nat.shiftRight_eq_div_pow] using this
theorem citer_miter (d c : Nat) : ∀ k, miter k (c ^^^ d) = citer d k c ^^^ (d / 2 ^ k) := by
  intro k
  induction k with
  | zero => simp [miter, citer]
  | succ k ih =>
    rw [miter, ih, citer]
    generalize citer d k c = x
    have hd : d / 2 ^ (k + 1) = d / 2 ^ k / 2 := by rw [Nat.pow_succ, Nat.div_div_eq_div_mul]
    rw [hd]
    generalize d / 2 ^ k = e
    unfold mstep cstep
    split
    · rw [xor_div2, Nat.xor_assoc, Nat.xor_comm (e / 2), ← Nat.xor_assoc]
    · rw [xor_div2]
theorem citer_mbyte (c d : Nat) (hd : d < 256) : citer d 8 c = mbyte c d := by
  unfold mbyte
  rw [Int.toNat_natCast, citer_miter d c 8, Nat.div_eq_of_lt (by omega : d < 2 ^ 8), Nat.xor_zero]
theorem shr_u32 (d k : Nat) : ((d : Int) / 2 ^ k) = ((d / 2 ^ k : Nat) : Int) := by push_cast; rfl
theorem crc_bit (c e : Nat) (hc : c < 2 ^ 32) (he : e < 2 ^ 32) : bits .and .u32 (bits .xor .u32 (c : Int) (e : Int)) 1 = (((c ^^^ e) % 2 : Nat) : Int) := by
  rw [bits_xor_u32 c e hc he]
  exact bits_and1_u32 _ (Nat.xor_lt_two_pow hc he)

set_option maxRecDepth 100000 in
set_option maxHeartbeats 2000000 in
theorem crc_some (bs : List Int) (b o cp : Nat) (w : World) (hby : IsBytes bs) (hlen : bs.length ≤ 1000000000) (hcell : Rest w 0 bs.length b o fun t => .int .u8 (bs.getD t 0)) :
    Calls Try.prog 18 #[.slice (some ⟨b, o, none⟩) bs.length cp] w fun e w' => e = .returned (.int .u32 (mfold 4294967295 bs)) ∧ w' = w := by
  go_enter Try.func18, Try.ntmps18
  go_wp2
  go_loop [3, 4] (fun x i => ∃ k : Nat, k ≤ bs.length ∧ i = .int .i64 k ∧ x = .int .u32 (mfold 4294967295 (bs.take k))) (fun _ i => bs.length - (intOf i).toNat)
  case atStart => exact ⟨0, Nat.zero_le _, rfl, rfl⟩
  case round =>
    obtain ⟨k, hk, rfl, rfl⟩ := hrel
    by_cases hlt : k < bs.length
    · have hc : w.cell? ⟨b, o + k, none⟩ = some (.int .u8 (bs.getD k 0)) := hcell k (Nat.zero_le _) hlt
      have hcb := hby _ (getD_mem bs 0 k hlt)
      have HT : Hid (mfold 4294967295 (bs.take (k + 1)) = mbyte (mfold 4294967295 (bs.take k)) (bs.getD k 0)) := mfold_take 4294967295 bs k hlt
      have hY := mfold_lt (bs.take k) (hby.take k) 4294967295 (by decide)
      generalize bs.getD k 0 = x at hc hcb HT
      generalize mfold 4294967295 (bs.take k) = Y at hY HT
      obtain ⟨d, rfl⟩ : ∃ d : Nat, x = d := ⟨x.toNat, by omega⟩
      clear hby hcell
      go_wp2
      go_loop [3, 5] (fun x i => ∃ j : Nat, j ≤ 8 ∧ i = .int .i64 j ∧ x = .int .u32 (citer d j Y)) (fun _ i => 8 - (intOf i).toNat)
      case atStart => exact ⟨0, by omega, rfl, rfl⟩
      case round =>
        obtain ⟨j, hj, rfl, rfl⟩ := hrel
        by_cases hj8 : j < 8
        · have hy := citer_lt d j Y hY
          have hs : Hid (citer d (j + 1) Y = cstep (citer d j Y) (d / 2 ^ j)) := rfl
          generalize citer d j Y = y at hy hs
          have hsh := shr_u32 d j
          have he : d / 2 ^ j < 2 ^ 32 := Nat.lt_of_le_of_lt (Nat.div_le_self _ _) (by omega)
          generalize d / 2 ^ j = e at hsh he hs
          have hbit := crc_bit y e hy he
          have hX := bits_xor_u32 (y / 2) 3945912366 (by omega) (by decide)
          by_cases hod : (y ^^^ e) % 2 = 1
          · have hst : cstep y e = (y / 2) ^^^ 3945912366 := by unfold cstep; rw [if_pos hod]
            rw [hod] at hbit
            have hX' : bits .xor .u32 ((y : Int) / 2) 3945912366 = ((cstep y e : Nat) : Int) := by rw [hst, ← hX]; rfl
            clear hX hst hod
            go_wp2
            go_round
            case rel => exact ⟨j + 1, by omega, by go_num, by rw [hs.out]⟩
            case measure => simp [intOf]; omega
          · have hst : cstep y e = y / 2 := by unfold cstep; rw [if_neg hod]
            rw [show (y ^^^ e) % 2 = 0 by omega] at hbit
            replace hst : Hid _ := hst
            clear hX hod
            go_wp2
            go_round
            case rel => exact ⟨j + 1, by omega, by go_num, by rw [hs.out, hst.out]; go_num⟩
            case measure => simp [intOf]; omega
        · obtain rfl : j = 8 := by omega
          rw [citer_mbyte Y d (by omega)]
          go_wp2
          go_round
          case rel => exact ⟨k + 1, by omega, by go_num, by rw [HT.out]⟩
          case measure => simp [intOf]; omega
    · obtain rfl : k = bs.length := by omega
      rw [List.take_of_length_le (Nat.le_refl _)]
      go_wp2
      go_ret
      exact ⟨rfl, rfl⟩

set_option maxRecDepth 100000 in
theorem crc_none (a : Option Addr) (c : Nat) (w : World) : Calls Try.prog 18 #[.slice a 0 c] w fun e w' => e = .returned (.int .u32 4294967295) ∧ w' = w := by
  go_enter Try.func18, Try.ntmps18
  go_wp2
  refine wp_loop_rounds 1 ?_
  rw [rounds_succ]
  go_wp2
  go_ret
  exact ⟨rfl, rfl⟩
theorem crc_any (bs : List Int) (v : Value) (w : World) (hby : IsBytes bs) (hlen : bs.length ≤ 1000000000) (hb : Bts w v bs) : Calls Try.prog 18 #[v] w fun e w' => e = .returned (.int .u32 (mfold 4294967295 bs)) ∧ w' = w := by
  obtain ⟨a, c, rfl, _, h⟩ := hb
  rcases h with rfl | ⟨b, o, rfl, hr⟩
  · exact crc_none a c w
  · exact crc_some bs b o c w hby hlen hr
end Go.Proofs.Ytjieelpbifdfbaa
