/- What readNumber answers, and its contract. -/
import Derived.Test.YtfbeilninpapaaaText
namespace Go.Proofs.Ytfbeilninpapaaa
open Go.RowKit
/-- What readNumber answers: the number, how many bytes it takes, the error. -/
def rdN (first : Bool) (n i : Nat) : List Int → Nat × Nat × Int
  | [] => (0, 0, 3)
  | c :: r => if first = true ∧ c = 128 then (0, 0, 10) else if c < 128 then (n * 128 + c.toNat % 128, i + 1, 0)
      else if 144115188075855871 < n * 128 + c.toNat % 128 then (0, 0, 11) else rdN false (n * 128 + c.toNat % 128) (i + 1) r
def IsBytes (bs : List Int) : Prop := ∀ c ∈ bs, 0 ≤ c ∧ c < 256
theorem wrap_u64_nat (y : Nat) (h : y < 128) : IntKind.u64.wrap (y : Int) = y := by
  simp only [IntKind.wrap, IntKind.bits, IntKind.signed]
  simp
  omega
/-- n<<7 | uint64(x&127), n small enough. -/
theorem shl_or (n : Nat) (x : Int) (hn : n ≤ 144115188075855871) (h : 0 ≤ x ∧ x < 256) : bits .or .u64 ((n : Int) * 128) (IntKind.u64.wrap (bits .and .u8 x 127)) = ((n * 128 + x.toNat % 128 : Nat) : Int) := by
  obtain ⟨y, rfl⟩ : ∃ y : Nat, x = y := ⟨x.toNat, by omega⟩
  rw [and127 y (by omega), wrap_u64_nat _ (by omega)]
  have hk : ∀ z : Int, 0 ≤ z → z < 2 ^ 64 → IntKind.u64.wrap z = z := by
    intro z h0 h1
    simp only [IntKind.wrap, IntKind.bits, IntKind.signed]
    simp
    omega
  have h1 := bits_join .u64 64 (by decide) hk 7 ((n : Int) * 128) ((y % 128 : Nat) : Int) (by omega) (by omega) (by omega) (by omega) (by omega) (by omega)
  rw [h1, Int.toNat_natCast]; omega
theorem drop_at (bs : List Int) (k : Nat) (h : k < bs.length) : bs.drop k = bs.getD k 0 :: bs.drop (k + 1) := by
  rw [List.drop_eq_getElem_cons h]; simp [h]
theorem rdN_at (bs : List Int) (k n : Nat) (x : Int) (hlt : k < bs.length) (hx : x = bs.getD k 0) (hr : rdN (decide (k = 0)) n k (bs.drop k) = rdN true 0 0 bs) :
    rdN true 0 0 bs = if k = 0 ∧ x = 128 then (0, 0, 10) else if x < 128 then (n * 128 + x.toNat % 128, k + 1, 0) else if 144115188075855871 < n * 128 + x.toNat % 128 then (0, 0, 11) else rdN false (n * 128 + x.toNat % 128) (k + 1) (bs.drop (k + 1)) := by
  rw [← hr, drop_at bs k hlt, ← hx, rdN]; simp
theorem ret3 {k1 k2 k3 : IntKind} {a b c : Int} {R : Nat × Nat × Int} (h : R = (a.toNat, b.toNat, c)) (ha : 0 ≤ a) (hb : 0 ≤ b) :
    Ending.returned (.tuple #[.int k1 a, .int k2 b, .int k3 c]) = .returned (.tuple #[.int k1 R.1, .int k2 R.2.1, .int k3 R.2.2]) := by
  rw [h]; simp; omega
set_option maxRecDepth 100000 in
set_option maxHeartbeats 2000000 in
theorem readNumber_some (bs : List Int) (b o c : Nat) (w : World) (hby : IsBytes bs) (hlen : bs.length ≤ 1000000000) (hcell : Rest w 0 bs.length b o fun t => .int .u8 (bs.getD t 0)) :
    Calls Try.prog 66 #[.slice (some ⟨b, o, none⟩) bs.length c] w fun e w' => e = .returned (.tuple #[.int .u64 (rdN true 0 0 bs).1, .int .i64 (rdN true 0 0 bs).2.1, .int .i64 (rdN true 0 0 bs).2.2]) ∧ w' = w := by
  go_enter Try.func66, Try.ntmps66
  go_wp2
  go_loop [5, 10] (fun x i => ∃ (k n : Nat), k ≤ bs.length ∧ i = .int .i64 k ∧ x = .int .u64 n ∧ n ≤ 144115188075855871 ∧ Hid (rdN (decide (k = 0)) n k (bs.drop k) = rdN true 0 0 bs))
    (fun _ i => bs.length - (intOf i).toNat)
  case atStart => exact ⟨0, 0, Nat.zero_le _, rfl, rfl, by omega, rfl⟩
  case round =>
    obtain ⟨k, n, hk, rfl, rfl, hn, hr⟩ := hrel
    by_cases hlt : k < bs.length
    · have hc : w.cell? ⟨b, o + k, none⟩ = some (.int .u8 (bs.getD k 0)) := hcell k (Nat.zero_le _) hlt
      have hcb := hby _ (getD_mem bs 0 k hlt)
      obtain ⟨x, hx⟩ : ∃ x, x = bs.getD k 0 := ⟨_, rfl⟩
      rw [← hx] at hc hcb
      have hor := shl_or n x hn hcb
      have HR := rdN_at bs k n x hlt hx hr.out
      obtain ⟨m, hm⟩ : ∃ m, m = n * 128 + x.toNat % 128 := ⟨_, rfl⟩
      rw [← hm] at hor HR
      have HM : m < 2 ^ 64 := by omega
      clear hx hcell hr hm hby
      replace HR : Hid (_ = _) := HR
      rcases Nat.eq_zero_or_pos k with rfl | hpos
      · rw [Nat.add_zero] at hc
        by_cases h128 : x = 128
        · have e : (x == 128) = true := by simp [h128]
          replace HR : Hid (_ = _) := HR.out.trans (if_pos ⟨rfl, h128⟩)
          clear h128
          go_wp2
          go_ret3
          exact ⟨ret3 HR.out (by omega) (by omega), rfl⟩
        · have e : (x == 128) = false := by simp [h128]
          replace HR : Hid (_ = _) := HR.out.trans (if_neg (fun h => h128 h.2))
          clear h128
          by_cases hx128 : x < 128
          · replace HR : Hid (_ = _) := HR.out.trans (if_pos hx128)
            go_wp2
            go_ret3
            exact ⟨ret3 HR.out (by omega) (by omega), rfl⟩
          · replace HR : Hid (_ = _) := HR.out.trans (if_neg hx128)
            by_cases hw : 144115188075855871 < m
            · replace HR : Hid (_ = _) := HR.out.trans (if_pos hw)
              go_wp2
              go_ret3
              exact ⟨ret3 HR.out (by omega) (by omega), rfl⟩
            · replace HR : Hid (_ = _) := HR.out.trans (if_neg hw)
              go_wp2
              go_round
              case rel => exact ⟨1, m, by omega, by go_num, rfl, by omega, HR.out.symm⟩
              case measure => simp [intOf]; omega
      · have e : ¬ k = 0 := by omega
        replace HR : Hid (_ = _) := HR.out.trans (if_neg (fun h => e h.1))
        by_cases hx128 : x < 128
        · replace HR : Hid (_ = _) := HR.out.trans (if_pos hx128)
          go_wp2
          go_ret3
          exact ⟨ret3 HR.out (by omega) (by omega), rfl⟩
        · replace HR : Hid (_ = _) := HR.out.trans (if_neg hx128)
          by_cases hw : 144115188075855871 < m
          · replace HR : Hid (_ = _) := HR.out.trans (if_pos hw)
            go_wp2
            go_ret3
            exact ⟨ret3 HR.out (by omega) (by omega), rfl⟩
          · replace HR : Hid (_ = _) := HR.out.trans (if_neg hw)
            go_wp2
            go_round
            case rel => exact ⟨k + 1, m, by omega, by go_num, rfl, by omega, (show _ = _ by simpa using HR.out.symm)⟩
            case measure => simp [intOf]; omega
    · obtain rfl : k = bs.length := by omega
      have HR : Hid (rdN true 0 0 bs = (0, 0, 3)) := by rw [← hr.out, List.drop_length]; rfl
      go_wp2
      go_ret3
      exact ⟨ret3 HR.out (by omega) (by omega), rfl⟩

set_option maxRecDepth 100000 in
theorem readNumber_none (a : Option Addr) (c : Nat) (w : World) :
    Calls Try.prog 66 #[.slice a 0 c] w fun e w' => e = .returned (.tuple #[.int .u64 0, .int .i64 0, .int .i64 3]) ∧ w' = w := by
  go_enter Try.func66, Try.ntmps66
  go_wp2
  refine wp_loop_rounds 1 ?_
  rw [rounds_succ]
  go_wp2
  go_ret3
  exact ⟨rfl, rfl⟩

theorem readNumber_any (bs : List Int) (v : Value) (w : World) (hby : IsBytes bs) (hlen : bs.length ≤ 1000000000) (hb : Bts w v bs) :
    Calls Try.prog 66 #[v] w fun e w' => e = .returned (.tuple #[.int .u64 (rdN true 0 0 bs).1, .int .i64 (rdN true 0 0 bs).2.1, .int .i64 (rdN true 0 0 bs).2.2]) ∧ w' = w := by
  obtain ⟨a, c, rfl, hnil, hcell⟩ := hb
  rcases hcell with rfl | ⟨b, o, rfl, hr⟩
  · exact readNumber_none a c w
  · exact readNumber_some bs b o c w hby hlen hr
end Go.Proofs.Ytfbeilninpapaaa
