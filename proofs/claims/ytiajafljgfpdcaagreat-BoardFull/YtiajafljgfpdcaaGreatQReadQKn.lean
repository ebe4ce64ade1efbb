/- QRead; QRead2; QStrip; QTake; QTakeT; QKeep; QKn. -/
import Derived.Test.YtiajafljgfpdcaaGreatQMathQText
import Derived.Deep.QuietTactic
import Derived.BigQuiet
/- What readNumber answers, and its contract. -/
namespace Go.Proofs.YtiajafljgfpdcaaGreat.Q
open Go.RowKit
/-- What readNumber answers: the number, how many bytes it takes, the error. -/
def rdN (first : Bool) (n i : Nat) : List Int → Nat × Nat × Int
  | [] => (0, 0, 3)
  | c :: r => if first = true ∧ c = 128 then (0, 0, 10) else if c < 128 then (n * 128 + c.toNat % 128, i + 1, 0)
      else if 144115188075855871 < n * 128 + c.toNat % 128 then (0, 0, 11) else rdN false (n * 128 + c.toNat % 128) (i + 1) r
def IsBytes (bs : List Int) : Prop := ∀ c ∈ bs, 0 ≤ c ∧ c < 256
theorem wrap_u64_nat (y : Nat) (h : y < 128) : IntKind.u64.wrap (y : Int) = y := by
  simp only [IntKind.wrap, IntKind.bits, IntKind.signed]
  simp
  omega
/-- n<<7 | uint64(x&127), n small enough. -/
theorem shl_or (n : Nat) (x : Int) (hn : n ≤ 144115188075855871) (h : 0 ≤ x ∧ x < 256) : bits .or .u64 ((n : Int) * 128) (IntKind.u64.wrap (bits .and .u8 x 127)) = ((n * 128 + x.toNat % 128 : Nat) : Int) := by
  obtain ⟨y, rfl⟩ : ∃ y : Nat, x = y := ⟨x.toNat, by omega⟩
  rw [and127 y (by omega), wrap_u64_nat _ (by omega)]
  have hk : ∀ z : Int, 0 ≤ z → z < 2 ^ 64 → IntKind.u64.wrap z = z := by
    intro z h0 h1
    simp only [IntKind.wrap, IntKind.bits, IntKind.signed]
    simp
    omega
  have h1 := bits_join .u64 64 (by decide) hk 7 ((n : Int) * 128) ((y % 128 : Nat) : Int) (by omega) (by omega) (by omega) (by omega) (by omega) (by omega)
  rw [h1, Int.toNat_natCast]; omega
theorem drop_at (bs : List Int) (k : Nat) (h : k < bs.length) : bs.drop k = bs.getD k 0 :: bs.drop (k + 1) := by
  rw [List.drop_eq_getElem_cons h]; simp [h]
theorem rdN_at (bs : List Int) (k n : Nat) (x : Int) (hlt : k < bs.length) (hx : x = bs.getD k 0) (hr : rdN (decide (k = 0)) n k (bs.drop k) = rdN true 0 0 bs) :
    rdN true 0 0 bs = if k = 0 ∧ x = 128 then (0, 0, 10) else if x < 128 then (n * 128 + x.toNat % 128, k + 1, 0) else if 144115188075855871 < n * 128 + x.toNat % 128 then (0, 0, 11) else rdN false (n * 128 + x.toNat % 128) (k + 1) (bs.drop (k + 1)) := by
  rw [← hr, drop_at bs k hlt, ← hx, rdN]; simp
theorem ret3 {k1 k2 k3 : IntKind} {a b c : Int} {R : Nat × Nat × Int} (h : R = (a.toNat, b.toNat, c)) (ha : 0 ≤ a) (hb : 0 ≤ b) :
    Ending.returned (.tuple #[.int k1 a, .int k2 b, .int k3 c]) = .returned (.tuple #[.int k1 R.1, .int k2 R.2.1, .int k3 R.2.2]) := by
  rw [h]; simp; omega
set_option maxRecDepth 100000 in
set_option maxHeartbeats 2000000 in
theorem readNumber_some (bs : List Int) (b o c : Nat) (w : World) (hby : IsBytes bs) (hlen : bs.length ≤ 1000000000) (hcell : Rest w 0 bs.length b o fun t => .int .u8 (bs.getD t 0)) :
    Calls Tryz.prog 114 #[.slice (some ⟨b, o, none⟩) bs.length c] w fun e w' => e = .returned (.tuple #[.int .u64 (rdN true 0 0 bs).1, .int .i64 (rdN true 0 0 bs).2.1, .int .i64 (rdN true 0 0 bs).2.2]) ∧ w' = w := by
  go_enter Tryz.func114, Tryz.ntmps114
  go_wp2
  go_loop [5, 10] (fun x i => ∃ (k n : Nat), k ≤ bs.length ∧ i = .int .i64 k ∧ x = .int .u64 n ∧ n ≤ 144115188075855871 ∧ Hid (rdN (decide (k = 0)) n k (bs.drop k) = rdN true 0 0 bs))
    (fun _ i => bs.length - (intOf i).toNat)
  case atStart => exact ⟨0, 0, Nat.zero_le _, rfl, rfl, by omega, rfl⟩
  case round =>
    obtain ⟨k, n, hk, rfl, rfl, hn, hr⟩ := hrel
    by_cases hlt : k < bs.length
    · have hc : w.cell? ⟨b, o + k, none⟩ = some (.int .u8 (bs.getD k 0)) := hcell k (Nat.zero_le _) hlt
      have hcb := hby _ (getD_mem bs 0 k hlt)
      obtain ⟨x, hx⟩ : ∃ x, x = bs.getD k 0 := ⟨_, rfl⟩
      rw [← hx] at hc hcb
      have hor := shl_or n x hn hcb
      have HR := rdN_at bs k n x hlt hx hr.out
      obtain ⟨m, hm⟩ : ∃ m, m = n * 128 + x.toNat % 128 := ⟨_, rfl⟩
      rw [← hm] at hor HR
      have HM : m < 2 ^ 64 := by omega
      clear hx hcell hr hm hby
      replace HR : Hid (_ = _) := HR
      rcases Nat.eq_zero_or_pos k with rfl | hpos
      · rw [Nat.add_zero] at hc
        by_cases h128 : x = 128
        · have e : (x == 128) = true := by simp [h128]
          replace HR : Hid (_ = _) := HR.out.trans (if_pos ⟨rfl, h128⟩)
          clear h128
          go_wp2
          go_ret3
          exact ⟨ret3 HR.out (by omega) (by omega), rfl⟩
        · have e : (x == 128) = false := by simp [h128]
          replace HR : Hid (_ = _) := HR.out.trans (if_neg (fun h => h128 h.2))
          clear h128
          by_cases hx128 : x < 128
          · replace HR : Hid (_ = _) := HR.out.trans (if_pos hx128)
            go_wp2
            go_ret3
            exact ⟨ret3 HR.out (by omega) (by omega), rfl⟩
          · replace HR : Hid (_ = _) := HR.out.trans (if_neg hx128)
            by_cases hw : 144115188075855871 < m
            · replace HR : Hid (_ = _) := HR.out.trans (if_pos hw)
              go_wp2
              go_ret3
              exact ⟨ret3 HR.out (by omega) (by omega), rfl⟩
            · replace HR : Hid (_ = _) := HR.out.trans (if_neg hw)
              go_wp2
              go_round
              case rel => exact ⟨1, m, by omega, by go_num, rfl, by omega, HR.out.symm⟩
              case measure => simp [intOf]; omega
      · have e : ¬ k = 0 := by omega
        replace HR : Hid (_ = _) := HR.out.trans (if_neg (fun h => e h.1))
        by_cases hx128 : x < 128
        · replace HR : Hid (_ = _) := HR.out.trans (if_pos hx128)
          go_wp2
          go_ret3
          exact ⟨ret3 HR.out (by omega) (by omega), rfl⟩
        · replace HR : Hid (_ = _) := HR.out.trans (if_neg hx128)
          by_cases hw : 144115188075855871 < m
          · replace HR : Hid (_ = _) := HR.out.trans (if_pos hw)
            go_wp2
            go_ret3
            exact ⟨ret3 HR.out (by omega) (by omega), rfl⟩
          · replace HR : Hid (_ = _) := HR.out.trans (if_neg hw)
            go_wp2
            go_round
            case rel => exact ⟨k + 1, m, by omega, by go_num, rfl, by omega, (show _ = _ by simpa using HR.out.symm)⟩
            case measure => simp [intOf]; omega
    · obtain rfl : k = bs.length := by omega
      have HR : Hid (rdN true 0 0 bs = (0, 0, 3)) := by rw [← hr.out, List.drop_length]; rfl
      go_wp2
      go_ret3
      exact ⟨ret3 HR.out (by omega) (by omega), rfl⟩

set_option maxRecDepth 100000 in
theorem readNumber_none (a : Option Addr) (c : Nat) (w : World) :
    Calls Tryz.prog 114 #[.slice a 0 c] w fun e w' => e = .returned (.tuple #[.int .u64 0, .int .i64 0, .int .i64 3]) ∧ w' = w := by
  go_enter Tryz.func114, Tryz.ntmps114
  go_wp2
  refine wp_loop_rounds 1 ?_
  rw [rounds_succ]
  go_wp2
  go_ret3
  exact ⟨rfl, rfl⟩

theorem readNumber_any (bs : List Int) (v : Value) (w : World) (hby : IsBytes bs) (hlen : bs.length ≤ 1000000000) (hb : Bts w v bs) :
    Calls Tryz.prog 114 #[v] w fun e w' => e = .returned (.tuple #[.int .u64 (rdN true 0 0 bs).1, .int .i64 (rdN true 0 0 bs).2.1, .int .i64 (rdN true 0 0 bs).2.2]) ∧ w' = w := by
  obtain ⟨a, c, rfl, hnil, hcell⟩ := hb
  rcases hcell with rfl | ⟨b, o, rfl, hr⟩
  · exact readNumber_none a c w
  · exact readNumber_some bs b o c w hby hlen hr
end Go.Proofs.YtiajafljgfpdcaaGreat.Q
/- The contracts of readOne, withSign, readSigned and readText. -/
namespace Go.Proofs.YtiajafljgfpdcaaGreat.Q
open Go.RowKit
set_option maxRecDepth 100000 in
theorem readOne_none (a : Option Addr) (c : Nat) (w : World) :
    Calls Tryz.prog 156 #[.slice a 0 c] w fun e w' => e = .returned (.tuple #[.int .u8 0, .int .i64 0, .int .i64 3]) ∧ w' = w := by
  go_enter Tryz.func156, Tryz.ntmps156
  go_wp2
  go_ret3
  exact ⟨rfl, rfl⟩
set_option maxRecDepth 100000 in
theorem readOne_some (x : Int) (n b o c : Nat) (w : World) (hn : 0 < n) (hc : w.cell? ⟨b, o, none⟩ = some (.int .u8 x)) :
    Calls Tryz.prog 156 #[.slice (some ⟨b, o, none⟩) n c] w fun e w' => e = .returned (.tuple #[.int .u8 x, .int .i64 1, .int .i64 0]) ∧ w' = w := by
  have e : ((n : Int) == 0) = false := by simp; omega
  go_enter Tryz.func156, Tryz.ntmps156
  go_wp2
  go_ret3
  exact ⟨rfl, rfl⟩
/-- What readOne answers. -/
def rdO : List Int → Int × Nat × Int
  | [] => (0, 0, 3)
  | c :: _ => (c, 1, 0)
theorem readOne_any (bs : List Int) (v : Value) (w : World) (hb : Bts w v bs) :
    Calls Tryz.prog 156 #[v] w fun e w' => e = .returned (.tuple #[.int .u8 (rdO bs).1, .int .i64 (rdO bs).2.1, .int .i64 (rdO bs).2.2]) ∧ w' = w := by
  obtain ⟨a, c, rfl, hnil, hcell⟩ := hb
  cases bs with
  | nil => exact readOne_none a c w
  | cons x r =>
    rcases hcell with h | ⟨b, o, rfl, hr⟩
    · cases h
    · exact readOne_some x _ b o c w (by simp) (hr 0 (Nat.zero_le _) (by simp))
/-- What withSign answers. -/
def wS (c : Int) (n : Nat) : Int × Int := if c = 45 then (if n = 0 then (0, 10) else if 9223372036854775808 < n then (0, 11) else (-(n : Int), 0)) else (if 9223372036854775807 < n then (0, 11) else ((n : Int), 0))
theorem neg_back (n : Nat) (_h0 : ¬ n = 0) (h : ¬ 9223372036854775808 < n) : wrap64 (IntKind.u64.wrap (-(n : Int))) = -(n : Int) := by
  simp only [wrap64, IntKind.wrap, IntKind.bits, IntKind.signed]
  simp
  omega
theorem ret2 {k1 k2 : IntKind} {a b a' b' : Int} (h1 : a = a') (h2 : b = b') : Ending.returned (.tuple #[.int k1 a, .int k2 b]) = .returned (.tuple #[.int k1 a', .int k2 b']) := by rw [h1, h2]
set_option maxRecDepth 100000 in
theorem withSign_minus (n : Nat) (w : World) (hn : n < 2 ^ 64) : Calls Tryz.prog 157 #[.int .u8 45, .int .u64 n] w fun e w' => e = .returned (.tuple #[.int .i64 (wS 45 n).1, .int .i64 (wS 45 n).2]) ∧ w' = w := by
  by_cases h0 : n = 0
  · subst h0
    go_enter Tryz.func157, Tryz.ntmps157
    go_wp2
    go_ret2
    exact ⟨rfl, rfl⟩
  · have e : ((n : Int) == 0) = false := by simp; omega
    by_cases h1 : 9223372036854775808 < n
    · go_enter Tryz.func157, Tryz.ntmps157
      go_wp2
      go_ret2
      exact ⟨ret2 (by simp [wS, h0, h1]) (by simp [wS, h0, h1]), rfl⟩
    · have hnb : Hid _ := neg_back n h0 h1
      go_enter Tryz.func157, Tryz.ntmps157
      go_wp2
      go_ret2
      exact ⟨ret2 (by rw [hnb.out]; simp [wS, h0, h1]) (by simp [wS, h0, h1]), rfl⟩
set_option maxRecDepth 100000 in
theorem withSign_plus (n : Nat) (w : World) (hn : n < 2 ^ 64) : Calls Tryz.prog 157 #[.int .u8 43, .int .u64 n] w fun e w' => e = .returned (.tuple #[.int .i64 (wS 43 n).1, .int .i64 (wS 43 n).2]) ∧ w' = w := by
  by_cases h1 : 9223372036854775807 < n
  · go_enter Tryz.func157, Tryz.ntmps157
    go_wp2
    go_ret2
    exact ⟨ret2 (by simp [wS, h1]) (by simp [wS, h1]), rfl⟩
  · go_enter Tryz.func157, Tryz.ntmps157
    go_wp2
    go_ret2
    exact ⟨ret2 (by simp [wS, h1]) (by simp [wS, h1]), rfl⟩
theorem withSign_any (c : Int) (n : Nat) (w : World) (hn : n < 2 ^ 64) (hc : c = 43 ∨ c = 45) : Calls Tryz.prog 157 #[.int .u8 c, .int .u64 n] w fun e w' => e = .returned (.tuple #[.int .i64 (wS c n).1, .int .i64 (wS c n).2]) ∧ w' = w := by
  rcases hc with rfl | rfl
  · exact withSign_plus n w hn
  · exact withSign_minus n w hn

/-- What readNumber answers is in bounds. -/
theorem rdN_bounds (bs : List Int) : ∀ (f : Bool) (n i : Nat), n ≤ 144115188075855871 → (rdN f n i bs).1 < 2 ^ 64 ∧ (rdN f n i bs).2.1 ≤ i + bs.length := by
  induction bs with
  | nil => intro f n i _; simp [rdN]
  | cons c r ih =>
    intro f n i hn
    rw [rdN]
    split
    · simp
    · split
      · simp; omega
      · split
        · simp
        · rename_i h1 h2 h3
          have := ih false (n * 128 + c.toNat % 128) (i + 1) (by omega)
          simp only [List.length_cons]; omega
theorem rdN_err (bs : List Int) : ∀ (f : Bool) (n i : Nat), (rdN f n i bs).2.2 = 0 ∨ (rdN f n i bs).2.2 = 3 ∨ (rdN f n i bs).2.2 = 10 ∨ (rdN f n i bs).2.2 = 11 := by
  induction bs with
  | nil => intro f n i; simp [rdN]
  | cons c r ih =>
    intro f n i
    rw [rdN]
    split
    · simp
    · split
      · simp
      · split
        · simp
        · exact ih _ _ _

/-- What readSigned answers. -/
def rdS : List Int → Int × Nat × Int
  | [] => (0, 0, 3)
  | c :: r => if c = 43 ∨ c = 45 then (if (rdN true 0 0 r).2.2 = 0 then ((wS c (rdN true 0 0 r).1).1, 1 + (rdN true 0 0 r).2.1, (wS c (rdN true 0 0 r).1).2) else (0, 0, (rdN true 0 0 r).2.2)) else (0, 0, 10)
theorem retS {k1 k2 k3 : IntKind} {a b c : Int} {R : Int × Nat × Int} (h : R = (a, b.toNat, c)) (hb : 0 ≤ b) :
    Ending.returned (.tuple #[.int k1 a, .int k2 b, .int k3 c]) = .returned (.tuple #[.int k1 R.1, .int k2 R.2.1, .int k3 R.2.2]) := by
  rw [h]; simp; omega

set_option maxRecDepth 100000 in
set_option maxHeartbeats 1000000 in
theorem readSigned_any (bs : List Int) (v : Value) (w : World) (hby : IsBytes bs) (hlen : bs.length ≤ 1000000000) (hb : Bts w v bs) :
    Calls Tryz.prog 140 #[v] w fun e w' => e = .returned (.tuple #[.int .i64 (rdS bs).1, .int .i64 (rdS bs).2.1, .int .i64 (rdS bs).2.2]) ∧ w' = w := by
  have h1 := readOne_any bs v w hb
  cases bs with
  | nil =>
    simp only [rdO] at h1
    go_enter Tryz.func140, Tryz.ntmps140
    go_wp2_with (go_at_call 156; refine h1.mono ?_; rintro e w' ⟨rfl, hw'⟩; subst w')
    go_ret3
    exact ⟨retS rfl (by omega), rfl⟩
  | cons x r =>
    simp only [rdO] at h1
    have hx := hby x (by simp)
    by_cases hs : x = 43 ∨ x = 45
    · obtain ⟨v2, hrun0, hb2, _⟩ := slice_from hb 1 (by simp)
      have hrun : ∀ W, (Instr.slice 43 v (some (.int .i64 1)) none none).run Tryz.prog W = .ok v2 W := hrun0
      clear hrun0
      have h2 := readNumber_any r v2 w (fun c hc => hby c (by simp [hc])) (by simp at hlen; omega) hb2
      have hbd := rdN_bounds r true 0 0 (by omega)
      have her := rdN_err r true 0 0
      have HS : Hid (rdS (x :: r) = if (rdN true 0 0 r).2.2 = 0 then ((wS x (rdN true 0 0 r).1).1, 1 + (rdN true 0 0 r).2.1, (wS x (rdN true 0 0 r).1).2) else (0, 0, (rdN true 0 0 r).2.2)) := by rw [rdS, if_pos hs]; exact rfl
      have hrl : r.length ≤ 1000000000 := by simp at hlen; omega
      generalize rdN true 0 0 r = R at h2 hbd her HS
      obtain ⟨m, sz, er⟩ := R
      simp only at h2 hbd her HS
      have h3 := withSign_any x m w hbd.1 hs
      clear hby hb hlen
      by_cases he : er = 0
      · have HS' : Hid (_ = _) := HS.out.trans (if_pos he)
        clear HS her
        subst he
        rcases hs with rfl | rfl
        all_goals
          go_enter Tryz.func140, Tryz.ntmps140
          go_wp2_with (first | (go_at_call 156; refine h1.mono ?_; rintro e w1 ⟨rfl, hw1⟩; subst w1) | (go_at_call 114; refine h2.mono ?_; rintro e w1 ⟨rfl, hw1⟩; subst w1) | (go_at_call 157; refine h3.mono ?_; rintro e w1 ⟨rfl, hw1⟩; subst w1))
          go_ret3
          exact ⟨retS (HS'.out.trans (by simp; omega)) (by omega), rfl⟩
      · have HS' : Hid (_ = _) := HS.out.trans (if_neg he)
        have hee : (er == 0) = false := by simpa using he
        clear HS her h3
        rcases hs with rfl | rfl
        all_goals
          go_enter Tryz.func140, Tryz.ntmps140
          go_wp2_with (first | (go_at_call 156; refine h1.mono ?_; rintro e w1 ⟨rfl, hw1⟩; subst w1) | (go_at_call 114; refine h2.mono ?_; rintro e w1 ⟨rfl, hw1⟩; subst w1))
          go_ret3
          exact ⟨retS HS'.out (by omega), rfl⟩
    · have HS : Hid (rdS (x :: r) = (0, 0, 10)) := by rw [rdS, if_neg hs]; exact rfl
      have e0 : ¬ x = 43 := by omega
      have e1 : (x != 43) = true := by simp; omega
      have e2 : (x != 45) = true := by simp; omega
      clear hby hs
      go_enter Tryz.func140, Tryz.ntmps140
      go_wp2_with (go_at_call 156; refine h1.mono ?_; rintro e w1 ⟨rfl, hw1⟩; subst w1)
      go_ret3
      exact ⟨retS HS.out (by omega), rfl⟩

/-- What readText answers. -/
def rdT (most : Nat) (bs : List Int) : List Int × Nat × Int :=
  if (rdN true 0 0 bs).2.2 = 0 then
    (if most < (rdN true 0 0 bs).1 then ([], 0, 1) else if (bs.drop (rdN true 0 0 bs).2.1).length < (rdN true 0 0 bs).1 then ([], 0, 3)
      else ((bs.drop (rdN true 0 0 bs).2.1).take (rdN true 0 0 bs).1, (rdN true 0 0 bs).2.1 + (rdN true 0 0 bs).1, 0))
  else ([], 0, (rdN true 0 0 bs).2.2)
theorem strOf_nil : strOfNums [] = ⟨#[]⟩ := rfl
theorem retT {k2 k3 : IntKind} {s : ByteArray} {b c : Int} {R : List Int × Nat × Int} {l : List Int} (h : R = (l, b.toNat, c)) (hs : strOfNums l = s) (hb : 0 ≤ b) :
    Ending.returned (.tuple #[.string s, .int k2 b, .int k3 c]) = .returned (.tuple #[.string (strOfNums R.1), .int k2 R.2.1, .int k3 R.2.2]) := by
  rw [h]; simp; exact ⟨hs.symm, by omega⟩
set_option maxRecDepth 100000 in
set_option maxHeartbeats 1000000 in
theorem readText_any (most : Nat) (bs : List Int) (v : Value) (w : World) (hm : most < 2 ^ 63) (hby : IsBytes bs) (hlen : bs.length ≤ 1000000000) (hb : Bts w v bs) :
    Calls Tryz.prog 138 #[v, .int .u64 most] w fun e w' => e = .returned (.tuple #[.string (strOfNums (rdT most bs).1), .int .i64 (rdT most bs).2.1, .int .i64 (rdT most bs).2.2]) ∧ w' = w := by
  have h2 := readNumber_any bs v w hby hlen hb
  have hbd := rdN_bounds bs true 0 0 (by omega)
  have her := rdN_err bs true 0 0
  have HS : Hid (_ = _) := rdT.eq_def most bs
  generalize rdN true 0 0 bs = R at h2 hbd her HS
  obtain ⟨m, sz, er⟩ := R
  simp only at h2 hbd her HS
  by_cases he : er = 0
  · replace HS : Hid (_ = _) := HS.out.trans (if_pos he)
    clear her
    subst he
    by_cases hmo : most < m
    · replace HS : Hid (_ = _) := HS.out.trans (if_pos hmo)
      go_enter Tryz.func138, Tryz.ntmps138
      go_wp2_with (go_at_call 114; refine h2.mono ?_; rintro e w1 ⟨rfl, hw1⟩; subst w1)
      go_ret3
      exact ⟨retT HS.out rfl (by omega), rfl⟩
    · replace HS : Hid (_ = _) := HS.out.trans (if_neg hmo)
      obtain ⟨v2, hrun, hb2, _⟩ := slice_from hb sz (by omega)
      have hlen2 := len_bts hb2
      have hdl : (bs.drop sz).length ≤ 1000000000 := by simp; omega
      generalize bs.drop sz = ds at hb2 hlen2 hdl HS
      by_cases hsh : ds.length < m
      · replace HS : Hid (_ = _) := HS.out.trans (if_pos hsh)
        go_enter Tryz.func138, Tryz.ntmps138
        go_wp2_with (go_at_call 114; refine h2.mono ?_; rintro e w1 ⟨rfl, hw1⟩; subst w1)
        go_ret3
        exact ⟨retT HS.out rfl (by omega), rfl⟩
      · replace HS : Hid (_ = _) := HS.out.trans (if_neg hsh)
        obtain ⟨v3, hrun3, hb3⟩ := slice_to hb2 m (by omega)
        have hstr := conv_str hb3
        go_enter Tryz.func138, Tryz.ntmps138
        go_wp2_with (go_at_call 114; refine h2.mono ?_; rintro e w1 ⟨rfl, hw1⟩; subst w1)
        go_ret3
        exact ⟨retT (HS.out.trans (by simp; omega)) rfl (by omega), rfl⟩
  · replace HS : Hid (_ = _) := HS.out.trans (if_neg he)
    have hee : (er == 0) = false := by simpa using he
    clear her
    go_enter Tryz.func138, Tryz.ntmps138
    go_wp2_with (go_at_call 114; refine h2.mono ?_; rintro e w1 ⟨rfl, hw1⟩; subst w1)
    go_ret3
    exact ⟨retT HS.out rfl (by omega), rfl⟩
end Go.Proofs.YtiajafljgfpdcaaGreat.Q
/- Strips: the notion, bytes.Clone and quill.Unroll. -/
namespace Go.Proofs.YtiajafljgfpdcaaGreat.Q
open Go.RowKit
set_option maxRecDepth 100000 in
theorem clone_none (w : World) : Calls Tryz.prog 93 #[.slice none 0 0] w fun e w' => e = .returned (.slice none 0 0) ∧ w' = w := by
  have hnil : ∀ W, (binOp .eql 43 (.slice none 0 0) (.slice none 0 0)).run Tryz.prog W = .ok (.bool true) W := fun W => Lib.run_eql_slice_nil W 43 5 none 0 0 0 0 Tryz.underlying43
  go_enter Tryz.func93, Tryz.ntmps93
  go_wp2
  go_ret
  exact ⟨rfl, rfl⟩
/-- []byte{} in a new block. -/
theorem own_emptyB (w : World) : Own (w.alloc (.cells #[] 5)) w.heap.size (.slice (some ⟨w.heap.size, 0, none⟩) 0 0) [] :=
  World.ownsRow_made w #[] 0 (Nat.le_refl _) (by unfold maxLen; omega) rfl
set_option maxRecDepth 100000 in
theorem clone_some (a : Addr) (c : Nat) (bs : List Int) (w : World) (hlen : bs.length ≤ 1000000000) (hb : Bts w (.slice (some a) bs.length c) bs) :
    Calls Tryz.prog 93 #[.slice (some a) bs.length c] w fun e w' => ∃ v', e = .returned v' ∧ Own w' w.heap.size v' bs ∧ Below w.heap.size w w' := by
  have hnil : ∀ W n c, (binOp .eql 43 (.slice (some a) n c) (.slice none 0 0)).run Tryz.prog W = .ok (.bool false) W := fun W n c => Lib.run_eql_slice_nil W 43 5 (some a) n c 0 0 Tryz.underlying43
  have ho := own_emptyB w
  have hb' := hb.alloc (.cells #[] 5)
  go_enter Tryz.func93, Tryz.ntmps93
  go_wp2_with (at_builtin; refine appX rfl (.tmp 5) (.tmp 6) rfl w.heap.size _ _ [] bs rfl rfl ho hb' (by simp) (by simp; omega) ?_; intro v1 w1 ho1 hb1 _)
  go_ret
  exact ⟨_, rfl, ho1, ((Below.refl _ w).alloc (Nat.le_refl _) _).trans hb1⟩
theorem clone_any (bs : List Int) (v : Value) (w : World) (hlen : bs.length ≤ 1000000000) (hb : Bts w v bs) :
    Calls Tryz.prog 93 #[v] w fun e w' => ∃ v', e = .returned v' ∧ Own w' w.heap.size v' bs ∧ Below w.heap.size w w' := by
  have hb' := hb
  obtain ⟨a, c, rfl, ⟨hn, hl⟩, h1⟩ := hb
  cases a with
  | none =>
    obtain rfl := hn rfl
    have : bs = [] := by cases bs <;> simp_all
    subst this
    refine (clone_none w).mono ?_
    rintro e w' ⟨rfl, rfl⟩
    exact ⟨_, rfl, World.ownsRow_nil _ _ _ _, Below.refl _ _⟩
  | some a => exact clone_some a c bs w hlen hb'
/-- A strip in block g: its bytes (in blocks from lo on, below g), its place, its error. -/
def IsStrip (w : World) (lo g : Nat) (bs : List Int) (pl : Nat) (err : Int) : Prop :=
  ∃ a n c, w.heap[g]? = some (.cells #[.slice a n c, .int .i64 pl, .int .i64 err] 149 (0, 0)) ∧ Bts w (.slice a n c) bs ∧ (lo ≤ g ∧ ∀ k, (Value.slice a n c).ownBlock = some k → lo ≤ k ∧ k < g) ∧ pl ≤ bs.length

set_option maxRecDepth 100000 in
theorem unroll_any (bs : List Int) (v : Value) (w : World) (hlen : bs.length ≤ 1000000000) (hb : Bts w v bs) :
    Calls Tryz.prog 55 #[v] w fun e w' => ∃ g, e = .returned (.pointer (some ⟨g, 0, none⟩)) ∧ w.heap.size ≤ g ∧ IsStrip w' w.heap.size g bs 0 0 ∧ Below w.heap.size w w' := by
  go_enter Tryz.func55, Tryz.ntmps55
  go_wp2_with (go_at_call 93; refine (clone_any bs v _ hlen hb).mono ?_; rintro e w1 ⟨v1, rfl, ho1, hb1⟩; obtain ⟨a1, c1, rfl⟩ := ho1.shape)
  go_ret
  refine ⟨w1.heap.size, rfl, hb1.size, ⟨a1, bs.length, c1, heap_alloc_new w1 _, ho1.bts.alloc _, ⟨hb1.size, fun k hk => ?_⟩, Nat.zero_le _⟩, hb1.alloc hb1.size _⟩
  exact ho1.lt k hk

theorem strip_cells {w : World} {g : Nat} {C : Array Value} (h : w.heap[g]? = some (.cells C 149 (0, 0))) (i : Nat) (v : Value) (hv : C[i]? = some v) : w.cell? ⟨g, i, none⟩ = some v ∧ w.frozen? ⟨g, i, none⟩ = false := by
  simp [World.cell?, World.frozen?, h, hv]

theorem block_setCell {w : World} {g i : Nat} {C : Array Value} {t : TypeId} {u : Value} (h : w.heap[g]? = some (.cells C t (0, 0))) : (w.setCell ⟨g, i, none⟩ u).heap[g]? = some (.cells (C.setIfInBounds i u) t (0, 0)) := by
  have hlt := lt_of_block h
  have h' : w.heap[g] = .cells C t (0, 0) := by simpa [Array.getElem?_eq_getElem hlt] using h
  show (w.heap.modify g _)[g]? = _
  rw [Array.getElem?_eq_getElem (by simpa using hlt), Array.getElem_modify_self, h']
  rfl

/-- What is read in blocks other than g stays while g is written. -/
theorem Bts.other {w W : World} {g i : Nat} {u v : Value} {bs : List Int} (h : Bts w v bs) (hW : Below w.heap.size w W) (hk : ∀ k, v.ownBlock = some k → k ≠ g) : Bts (W.setCell ⟨g, i, none⟩ u) v bs := by
  obtain ⟨a, c, rfl, hn, h1⟩ := h
  refine ⟨a, c, rfl, hn, ?_⟩
  rcases h1 with h1 | ⟨b, o, rfl, hr⟩
  · exact .inl h1
  · refine .inr ⟨b, o, rfl, fun t h0 ht => ?_⟩
    have hc := hr t h0 ht
    have hbl := World.block_lt_of_cell? w _ hc
    have hne : b ≠ g := hk b rfl
    exact (World.cell?_of_block (w := W) (Below.heap_setCell W _ u b hne)).trans ((hW.cell (p := ⟨b, o + t, none⟩) hbl).trans hc)

theorem grownBy_set {w W : World} (hW : Below w.heap.size w W) (g i : Nat) (u : Value) : w.grownBy (W.setCell ⟨g, i, none⟩ u) (some g) :=
  ⟨hW.os, hW.tape, hW.output, by simpa [World.setCell] using hW.size, fun k hk hne => (Below.heap_setCell W _ u k (fun e => hne (by rw [e]))).trans (hW.block k hk)⟩
theorem grownBy_below {w W : World} (hW : Below w.heap.size w W) (row : Option Nat) : w.grownBy W row :=
  ⟨hW.os, hW.tape, hW.output, hW.size, fun k hk _ => hW.block k hk⟩

section
variable {w W : World} {lo g pl : Nat} {bs : List Int} {err : Int}
theorem IsStrip.lt (hs : IsStrip w lo g bs pl err) : g < w.heap.size := by
  obtain ⟨a, n, c, hg, _⟩ := hs
  exact lt_of_block hg
theorem strip_stay (hs : IsStrip w lo g bs pl err) (hW : Below w.heap.size w W) : IsStrip W lo g bs pl err ∧ w.grownBy W (some g) := by
  have hlt := hs.lt
  obtain ⟨a, n, c, hg, hb, hk, hpl⟩ := hs
  exact ⟨⟨a, n, c, (hW.block g hlt).trans hg, hb.grow hW, hk, hpl⟩, grownBy_below hW _⟩
theorem strip_move (hs : IsStrip w lo g bs pl err) (hW : Below w.heap.size w W) (pl' : Nat) (h : pl' ≤ bs.length) (X : Int) (hX : X = pl') :
    IsStrip (W.setCell ⟨g, 1, none⟩ (.int .i64 X)) lo g bs pl' err ∧ w.grownBy (W.setCell ⟨g, 1, none⟩ (.int .i64 X)) (some g) := by
  subst hX
  have hlt := hs.lt
  obtain ⟨a, n, c, hg, hb, hk, hpl⟩ := hs
  refine ⟨⟨a, n, c, ?_, hb.other hW (fun k h => Nat.ne_of_lt (hk.2 k h).2), hk, h⟩, grownBy_set hW _ _ _⟩
  rw [block_setCell ((hW.block g hlt).trans hg)]; rfl
theorem strip_fail (hs : IsStrip w lo g bs pl err) (hW : Below w.heap.size w W) (er : Int) :
    IsStrip (W.setCell ⟨g, 2, none⟩ (.int .i64 er)) lo g bs pl er ∧ w.grownBy (W.setCell ⟨g, 2, none⟩ (.int .i64 er)) (some g) := by
  have hlt := hs.lt
  obtain ⟨a, n, c, hg, hb, hk, hpl⟩ := hs
  refine ⟨⟨a, n, c, ?_, hb.other hW (fun k h => Nat.ne_of_lt (hk.2 k h).2), hk, hpl⟩, grownBy_set hW _ _ _⟩
  rw [block_setCell ((hW.block g hlt).trans hg)]; rfl
/-- A strip stays while a block is written that is none of its own. -/
theorem strip_other {row : Nat} (hs : IsStrip w lo g bs pl err) (hW : w.grownBy W (some row)) (hr : row < lo ∨ g < row) : IsStrip W lo g bs pl err := by
  have hlt := hs.lt
  obtain ⟨a, n, c, hg, hb, hk, hpl⟩ := hs
  refine ⟨a, n, c, (hW.block g hlt (by simp; omega)).trans hg, ?_, hk, hpl⟩
  obtain ⟨a', c', e, hn, h1⟩ := hb
  cases e
  refine ⟨a, c, rfl, hn, ?_⟩
  rcases h1 with h1 | ⟨b, o, rfl, hr2⟩
  · exact .inl h1
  · refine .inr ⟨b, o, rfl, fun t h0 ht => ?_⟩
    have hbb := hk.2 b rfl
    exact hW.cell (hr2 t h0 ht) (by simp; omega)
end

/-- Behind a reading that answers R: the place, the error. -/
def nextP {α : Type} (pl : Nat) (err : Int) (R : α × Nat × Int) : Nat := if err = 0 then (if R.2.2 = 0 then pl + R.2.1 else pl) else pl
def nextE {α : Type} (err : Int) (R : α × Nat × Int) : Int := if err = 0 then R.2.2 else err
def nextV {α : Type} (z : α) (err : Int) (R : α × Nat × Int) : α := if err = 0 then (if R.2.2 = 0 then R.1 else z) else z

theorem IsBytes.drop {bs : List Int} (h : IsBytes bs) (k : Nat) : IsBytes (bs.drop k) := fun c hc => h c (List.mem_of_mem_drop hc)
theorem below_draw (w : World) (n : Nat) : Below w.heap.size w (w.drewN n) := below_drewN (Below.refl _ _) n
end Go.Proofs.YtiajafljgfpdcaaGreat.Q
/- The contracts of a strip's Number, Signed and One. -/
namespace Go.Proofs.YtiajafljgfpdcaaGreat.Q
open Go.RowKit
theorem rdS_bounds (bs : List Int) : (rdS bs).2.1 ≤ 0 + bs.length := by
  cases bs with
  | nil => simp [rdS]
  | cons c r =>
    have := rdN_bounds r true 0 0 (by omega)
    rw [rdS]
    split
    · split
      · simp only [List.length_cons]; omega
      · simp
    · simp
theorem rdO_bounds (bs : List Int) : (rdO bs).2.1 ≤ 0 + bs.length := by
  cases bs with
  | nil => simp [rdO]
  | cons c r => simp [rdO]

set_option maxRecDepth 100000 in
set_option maxHeartbeats 2000000 in
theorem stripNumber_ok (lo g : Nat) (bs : List Int) (pl : Nat) (w : World) (hs : IsStrip w lo g bs pl 0) (hby : IsBytes bs) (hlen : bs.length ≤ 1000000000) :
    Calls Tryz.prog 90 #[.pointer (some ⟨g, 0, none⟩)] w fun e w' => e = .returned (.int .u64 (nextV 0 0 (rdN true 0 0 (bs.drop pl)) : Nat)) ∧ IsStrip w' lo g bs (nextP pl 0 (rdN true 0 0 (bs.drop pl))) (nextE 0 (rdN true 0 0 (bs.drop pl))) ∧ w.grownBy w' (some g) := by
  have hs0 := hs
  obtain ⟨a, n, c, hg, hb, hk, hpl⟩ := hs
  have q0 : w.cell? ⟨g, 0, none⟩ = some (.slice a n c) := (strip_cells hg 0 _ rfl).1
  have q1 : w.cell? ⟨g, 1, none⟩ = some (.int .i64 pl) := (strip_cells hg 1 _ rfl).1
  have q2 : w.cell? ⟨g, 2, none⟩ = some (.int .i64 0) := (strip_cells hg 2 _ rfl).1
  have f1 := (strip_cells hg 1 _ rfl).2
  have f2 := (strip_cells hg 2 _ rfl).2
  obtain ⟨v2, hrun, hb2, _⟩ := slice_from hb pl hpl
  have hdl : (bs.drop pl).length = bs.length - pl := List.length_drop
  have hR := fun n => readNumber_any (bs.drop pl) v2 (w.drewN n) (hby.drop pl) (by omega) (hb2.grow (below_draw w n))
  have hbd := (rdN_bounds (bs.drop pl) true 0 0 (by omega)).2
  generalize rdN true 0 0 (bs.drop pl) = R at hR hbd
  obtain ⟨m, sz, er⟩ := R
  simp only at hR hbd
  clear hb hb2 hk hg
  by_cases he : er = 0
  · subst he
    go_enter Tryz.func90, Tryz.ntmps90
    go_wp2
    go_quiet ((go_at_call 114; exact Calls.quiet_of_same (hR _)))
    go_wp2
    go_ret
    refine ⟨rfl, ?_⟩
    exact strip_move hs0 (below_draw w _) (pl + sz) (by omega) _ (by omega)
  · have hee : (er == 0) = false := by simpa using he
    have hv : nextV 0 0 (m, sz, er) = 0 := by simp [nextV, he]
    have hp : nextP pl 0 (m, sz, er) = pl := by simp [nextP, he]
    rw [hv, hp]
    go_enter Tryz.func90, Tryz.ntmps90
    go_wp2
    go_quiet ((go_at_call 114; exact Calls.quiet_of_same (hR _)))
    go_wp2
    go_ret
    refine ⟨rfl, ?_⟩
    exact strip_fail hs0 (below_draw w _) er
set_option maxRecDepth 100000 in
theorem stripNumber_bad (lo g : Nat) (bs : List Int) (pl : Nat) (err : Int) (w : World) (hs : IsStrip w lo g bs pl err) (he : err ≠ 0) :
    Calls Tryz.prog 90 #[.pointer (some ⟨g, 0, none⟩)] w fun e w' => e = .returned (.int .u64 0) ∧ w' = w := by
  obtain ⟨a, n, c, hg, hb, hk, hpl⟩ := hs
  have q2 : w.cell? ⟨g, 2, none⟩ = some (.int .i64 err) := (strip_cells hg 2 _ rfl).1
  have hee : (err == 0) = false := by simpa using he
  have hef : ¬ err = 0 := he
  clear hb hg he
  go_enter Tryz.func90, Tryz.ntmps90
  go_wp2
  go_ret
  exact ⟨rfl, rfl⟩
theorem stripNumber_any (lo g : Nat) (bs : List Int) (pl : Nat) (err : Int) (w : World) (hs : IsStrip w lo g bs pl err) (hby : IsBytes bs) (hlen : bs.length ≤ 1000000000) :
    Calls Tryz.prog 90 #[.pointer (some ⟨g, 0, none⟩)] w fun e w' => e = .returned (.int .u64 (nextV 0 err (rdN true 0 0 (bs.drop pl)) : Nat)) ∧ IsStrip w' lo g bs (nextP pl err (rdN true 0 0 (bs.drop pl))) (nextE err (rdN true 0 0 (bs.drop pl))) ∧ w.grownBy w' (some g) := by
  by_cases he : err = 0
  · subst he; exact stripNumber_ok lo g bs pl w hs hby hlen
  · refine (stripNumber_bad lo g bs pl err w hs he).mono ?_
    rintro e w' ⟨rfl, rfl⟩
    have hv : nextV 0 err (rdN true 0 0 (bs.drop pl)) = 0 := by simp [nextV, he]
    have hp : nextP pl err (rdN true 0 0 (bs.drop pl)) = pl := by simp [nextP, he]
    have hx : nextE err (rdN true 0 0 (bs.drop pl)) = err := by simp [nextE, he]
    rw [hv, hp, hx]
    exact ⟨rfl, strip_stay hs (Below.refl _ _)⟩

set_option maxRecDepth 100000 in
set_option maxHeartbeats 2000000 in
theorem stripSigned_ok (lo g : Nat) (bs : List Int) (pl : Nat) (w : World) (hs : IsStrip w lo g bs pl 0) (hby : IsBytes bs) (hlen : bs.length ≤ 1000000000) :
    Calls Tryz.prog 116 #[.pointer (some ⟨g, 0, none⟩)] w fun e w' => e = .returned (.int .i64 (nextV 0 0 (rdS (bs.drop pl)) : Int)) ∧ IsStrip w' lo g bs (nextP pl 0 (rdS (bs.drop pl))) (nextE 0 (rdS (bs.drop pl))) ∧ w.grownBy w' (some g) := by
  have hs0 := hs
  obtain ⟨a, n, c, hg, hb, hk, hpl⟩ := hs
  have q0 : w.cell? ⟨g, 0, none⟩ = some (.slice a n c) := (strip_cells hg 0 _ rfl).1
  have q1 : w.cell? ⟨g, 1, none⟩ = some (.int .i64 pl) := (strip_cells hg 1 _ rfl).1
  have q2 : w.cell? ⟨g, 2, none⟩ = some (.int .i64 0) := (strip_cells hg 2 _ rfl).1
  have f1 := (strip_cells hg 1 _ rfl).2
  have f2 := (strip_cells hg 2 _ rfl).2
  obtain ⟨v2, hrun, hb2, _⟩ := slice_from hb pl hpl
  have hdl : (bs.drop pl).length = bs.length - pl := List.length_drop
  have hR := fun n => readSigned_any (bs.drop pl) v2 (w.drewN n) (hby.drop pl) (by omega) (hb2.grow (below_draw w n))
  have hbd := rdS_bounds (bs.drop pl)
  generalize rdS (bs.drop pl) = R at hR hbd
  obtain ⟨m, sz, er⟩ := R
  simp only at hR hbd
  clear hb hb2 hk hg
  by_cases he : er = 0
  · subst he
    go_enter Tryz.func116, Tryz.ntmps116
    go_wp2
    go_quiet ((go_at_call 140; exact Calls.quiet_of_same (hR _)))
    go_wp2
    go_ret
    refine ⟨rfl, ?_⟩
    exact strip_move hs0 (below_draw w _) (pl + sz) (by omega) _ (by omega)
  · have hee : (er == 0) = false := by simpa using he
    have hv : nextV 0 0 (m, sz, er) = 0 := by simp [nextV, he]
    have hp : nextP pl 0 (m, sz, er) = pl := by simp [nextP, he]
    rw [hv, hp]
    go_enter Tryz.func116, Tryz.ntmps116
    go_wp2
    go_quiet ((go_at_call 140; exact Calls.quiet_of_same (hR _)))
    go_wp2
    go_ret
    refine ⟨rfl, ?_⟩
    exact strip_fail hs0 (below_draw w _) er
set_option maxRecDepth 100000 in
theorem stripSigned_bad (lo g : Nat) (bs : List Int) (pl : Nat) (err : Int) (w : World) (hs : IsStrip w lo g bs pl err) (he : err ≠ 0) :
    Calls Tryz.prog 116 #[.pointer (some ⟨g, 0, none⟩)] w fun e w' => e = .returned (.int .i64 0) ∧ w' = w := by
  obtain ⟨a, n, c, hg, hb, hk, hpl⟩ := hs
  have q2 : w.cell? ⟨g, 2, none⟩ = some (.int .i64 err) := (strip_cells hg 2 _ rfl).1
  have hee : (err == 0) = false := by simpa using he
  have hef : ¬ err = 0 := he
  clear hb hg he
  go_enter Tryz.func116, Tryz.ntmps116
  go_wp2
  go_ret
  exact ⟨rfl, rfl⟩
theorem stripSigned_any (lo g : Nat) (bs : List Int) (pl : Nat) (err : Int) (w : World) (hs : IsStrip w lo g bs pl err) (hby : IsBytes bs) (hlen : bs.length ≤ 1000000000) :
    Calls Tryz.prog 116 #[.pointer (some ⟨g, 0, none⟩)] w fun e w' => e = .returned (.int .i64 (nextV 0 err (rdS (bs.drop pl)) : Int)) ∧ IsStrip w' lo g bs (nextP pl err (rdS (bs.drop pl))) (nextE err (rdS (bs.drop pl))) ∧ w.grownBy w' (some g) := by
  by_cases he : err = 0
  · subst he; exact stripSigned_ok lo g bs pl w hs hby hlen
  · refine (stripSigned_bad lo g bs pl err w hs he).mono ?_
    rintro e w' ⟨rfl, rfl⟩
    have hv : nextV 0 err (rdS (bs.drop pl)) = 0 := by simp [nextV, he]
    have hp : nextP pl err (rdS (bs.drop pl)) = pl := by simp [nextP, he]
    have hx : nextE err (rdS (bs.drop pl)) = err := by simp [nextE, he]
    rw [hv, hp, hx]
    exact ⟨rfl, strip_stay hs (Below.refl _ _)⟩

end Go.Proofs.YtiajafljgfpdcaaGreat.Q
/- The contract of a strip's Text. -/
namespace Go.Proofs.YtiajafljgfpdcaaGreat.Q
open Go.RowKit
set_option maxRecDepth 100000 in
theorem text1_any (most : Int) (q : Nat) (bs : List Int) (v : Value) (w : World) (h1 : -9223372036854775808 ≤ most) (h2 : most ≤ 9223372036854775807) (hq : w.cell? ⟨q, 0, none⟩ = some (.int .i64 most)) (hby : IsBytes bs) (hlen : bs.length ≤ 1000000000) (hb : Bts w v bs) :
    Calls Tryz.prog 137 #[v, .pointer (some ⟨q, 0, none⟩)] w fun e w' => e = .returned (.tuple #[.string (strOfNums (rdT most.toNat bs).1), .int .i64 (rdT most.toNat bs).2.1, .int .i64 (rdT most.toNat bs).2.2]) ∧ w' = w := by
  have hR := readText_any most.toNat bs v w (by omega) hby hlen hb
  by_cases hm : most < 0
  · have hmax : max most 0 = 0 := by omega
    have ht : most.toNat = 0 := by omega
    rw [ht] at hR ⊢
    generalize rdT 0 bs = R at hR
    obtain ⟨l, sz, er⟩ := R
    go_enter Tryz.func137, Tryz.ntmps137
    go_wp2_with (go_at_call 138; refine hR.mono ?_; rintro e w' ⟨rfl, hw'⟩; subst w')
    go_ret3
    exact ⟨rfl, rfl⟩
  · obtain ⟨k, rfl⟩ : ∃ k : Nat, most = k := ⟨most.toNat, by omega⟩
    have hmax : max (k : Int) 0 = k := by omega
    rw [Int.toNat_natCast] at hR ⊢
    generalize rdT k bs = R at hR
    obtain ⟨l, sz, er⟩ := R
    go_enter Tryz.func137, Tryz.ntmps137
    go_wp2_with (go_at_call 138; refine hR.mono ?_; rintro e w' ⟨rfl, hw'⟩; subst w')
    go_ret3
    exact ⟨rfl, rfl⟩

theorem rdT_bounds (most : Nat) (bs : List Int) : (rdT most bs).2.1 ≤ 0 + bs.length := by
  have := rdN_bounds bs true 0 0 (by omega)
  unfold rdT
  split
  · split
    · simp
    · split
      · simp
      · rename_i h; rw [List.length_drop] at h; simp only; omega
  · simp
set_option maxRecDepth 100000 in
set_option maxHeartbeats 2000000 in
theorem stripText_ok (lo g : Nat) (bs : List Int) (pl : Nat) (most : Int) (w : World) (h1 : -9223372036854775808 ≤ most) (h2 : most ≤ 9223372036854775807) (hs : IsStrip w lo g bs pl 0) (hby : IsBytes bs) (hlen : bs.length ≤ 1000000000) :
    Calls Tryz.prog 115 #[.pointer (some ⟨g, 0, none⟩), .int .i64 most] w fun e w' => e = .returned (.string (strOfNums (nextV [] 0 (rdT most.toNat (bs.drop pl))))) ∧ IsStrip w' lo g bs (nextP pl 0 (rdT most.toNat (bs.drop pl))) (nextE 0 (rdT most.toNat (bs.drop pl))) ∧ w.grownBy w' (some g) := by
  have hs0 := hs
  have hlt := hs.lt
  obtain ⟨a, n, c, hg, hb, hk, hpl⟩ := hs
  have q0 : w.cell? ⟨g, 0, none⟩ = some (.slice a n c) := (strip_cells hg 0 _ rfl).1
  have q1 : w.cell? ⟨g, 1, none⟩ = some (.int .i64 pl) := (strip_cells hg 1 _ rfl).1
  have q2 : w.cell? ⟨g, 2, none⟩ = some (.int .i64 0) := (strip_cells hg 2 _ rfl).1
  have f1 := (strip_cells hg 1 _ rfl).2
  have f2 := (strip_cells hg 2 _ rfl).2
  obtain ⟨v2, hrun, hb2, _⟩ := slice_from hb pl hpl
  have hdl : (bs.drop pl).length = bs.length - pl := List.length_drop
  have hBA : Below w.heap.size w (w.alloc (.cells #[.int .i64 most] 3)) := (Below.refl _ _).alloc (Nat.le_refl _) _
  have hR := fun n => text1_any most w.heap.size (bs.drop pl) v2 ((w.alloc (.cells #[.int .i64 most] 3)).drewN n) h1 h2 (by simp) (hby.drop pl) (by omega) (hb2.grow (below_drewN hBA n))
  have hbd := rdT_bounds most.toNat (bs.drop pl)
  generalize rdT most.toNat (bs.drop pl) = R at hR hbd
  obtain ⟨m, sz, er⟩ := R
  simp only at hR hbd
  clear hb hb2 hk hg
  by_cases he : er = 0
  · subst he
    go_enter Tryz.func115, Tryz.ntmps115
    go_wp2
    go_quiet ((go_at_call 137; exact Calls.quiet_of_same (hR _)))
    go_wp2
    go_ret
    refine ⟨rfl, ?_⟩
    exact strip_move hs0 (below_drewN hBA _) (pl + sz) (by omega) _ (by omega)
  · have hee : (er == 0) = false := by simpa using he
    have hv : nextV [] 0 (m, sz, er) = [] := by simp [nextV, he]
    have hp : nextP pl 0 (m, sz, er) = pl := by simp [nextP, he]
    rw [hv, hp]
    go_enter Tryz.func115, Tryz.ntmps115
    go_wp2
    go_quiet ((go_at_call 137; exact Calls.quiet_of_same (hR _)))
    go_wp2
    go_ret
    refine ⟨rfl, ?_⟩
    exact strip_fail hs0 (below_drewN hBA _) er
set_option maxRecDepth 100000 in
theorem stripText_bad (lo g : Nat) (bs : List Int) (pl : Nat) (err most : Int) (w : World) (hs : IsStrip w lo g bs pl err) (he : err ≠ 0) :
    Calls Tryz.prog 115 #[.pointer (some ⟨g, 0, none⟩), .int .i64 most] w fun e w' => e = .returned (.string ⟨#[]⟩) ∧ w' = w.alloc (.cells #[.int .i64 most] 3) := by
  have hlt := hs.lt
  obtain ⟨a, n, c, hg, hb, hk, hpl⟩ := hs
  have q2 : w.cell? ⟨g, 2, none⟩ = some (.int .i64 err) := (strip_cells hg 2 _ rfl).1
  have hee : (err == 0) = false := by simpa using he
  have hef : ¬ err = 0 := he
  clear hb hg he
  go_enter Tryz.func115, Tryz.ntmps115
  go_wp2
  go_ret
  exact ⟨rfl, rfl⟩
theorem stripText_any (lo g : Nat) (bs : List Int) (pl : Nat) (err most : Int) (w : World) (h1 : -9223372036854775808 ≤ most) (h2 : most ≤ 9223372036854775807) (hs : IsStrip w lo g bs pl err) (hby : IsBytes bs) (hlen : bs.length ≤ 1000000000) :
    Calls Tryz.prog 115 #[.pointer (some ⟨g, 0, none⟩), .int .i64 most] w fun e w' => e = .returned (.string (strOfNums (nextV [] err (rdT most.toNat (bs.drop pl))))) ∧ IsStrip w' lo g bs (nextP pl err (rdT most.toNat (bs.drop pl))) (nextE err (rdT most.toNat (bs.drop pl))) ∧ w.grownBy w' (some g) := by
  by_cases he : err = 0
  · subst he; exact stripText_ok lo g bs pl most w h1 h2 hs hby hlen
  · refine (stripText_bad lo g bs pl err most w hs he).mono ?_
    rintro e w' ⟨rfl, rfl⟩
    have hv : nextV [] err (rdT most.toNat (bs.drop pl)) = [] := by simp [nextV, he]
    have hp : nextP pl err (rdT most.toNat (bs.drop pl)) = pl := by simp [nextP, he]
    have hx : nextE err (rdT most.toNat (bs.drop pl)) = err := by simp [nextE, he]
    rw [hv, hp, hx]
    exact ⟨rfl, strip_stay hs ((Below.refl _ _).alloc (Nat.le_refl _) _)⟩
end Go.Proofs.YtiajafljgfpdcaaGreat.Q
/- The writers of bytes once more: whatever is no row of bytes is kept. -/
namespace Go.Proofs.YtiajafljgfpdcaaGreat.Q
set_option linter.unusedVariables false
open Go.RowKit
/-- Is the block no row of bytes? -/
def NoB (w : World) (k : Nat) : Prop := ∀ (c : Array Value) (fr : Nat × Nat), w.heap[k]? ≠ some (.cells c 5 fr)
/-- Whatever is no row of bytes is as it was. -/
structure Kb (w w' : World) : Prop where
  os : w'.os = w.os
  tape : w'.tape = w.tape
  output : w'.output = w.output
  size : w.heap.size ≤ w'.heap.size
  block : ∀ k, k < w.heap.size → NoB w k → w'.heap[k]? = w.heap[k]?
theorem Kb.refl (w : World) : Kb w w := ⟨rfl, rfl, rfl, Nat.le_refl _, fun _ _ _ => rfl⟩
theorem Kb.trans {a b c : World} (h : Kb a b) (k : Kb b c) : Kb a c :=
  ⟨k.os.trans h.os, k.tape.trans h.tape, k.output.trans h.output, Nat.le_trans h.size k.size, fun i hi hn => (k.block i (Nat.lt_of_lt_of_le hi h.size) (fun c fr e => hn c fr ((h.block i hi hn).symm.trans e))).trans (h.block i hi hn)⟩
theorem Kb.of_below {w w' : World} (h : Below w.heap.size w w') : Kb w w' := ⟨h.os, h.tape, h.output, h.size, fun k hk _ => h.block k hk⟩
theorem Kb.alloc (w : World) (o : Obj) : Kb w (w.alloc o) := Kb.of_below ((Below.refl _ w).alloc (Nat.le_refl _) o)
theorem Kb.drew (w : World) : Kb w w.drew := Kb.of_below (below_draw w 1)
theorem Kb.of_grown {w w' : World} {base : Nat} {v : Value} {xs : List Int} (h : Own w base v xs) (hg : w.grownBy w' v.ownBlock) : Kb w w' :=
  ⟨hg.os, hg.tape, hg.output, hg.size, fun k hk hn => hg.block k hk (fun e => by
    rcases h.2 with ⟨rfl, _⟩ | ⟨g, cap, cur, rfl, hb, hgg, rest⟩
    · simp [Value.ownBlock] at e
    · simp [Value.ownBlock] at e
      subst e
      exact hn _ _ hgg)⟩
theorem Kb.cell {w w' : World} (h : Kb w w') {a : Addr} {u : Value} (hc : w.cell? a = some u) (hn : NoB w a.block) : w'.cell? a = some u :=
  (World.cell?_of_block (h.block a.block (World.block_lt_of_cell? w _ hc) hn)).trans hc
theorem nob_of {w : World} {k : Nat} {c : Array Value} {t : TypeId} {fr : Nat × Nat} (h : w.heap[k]? = some (.cells c t fr)) (ht : t ≠ 5) : NoB w k := fun c' fr' e => by
  rw [h] at e
  cases e
  exact ht rfl
theorem app1K {w : World} {ops : Array Oper} {rest : List Oper} {o : Oper} {a : Act} {Q : Exit → Act → World → Prop} (hgd : o.guard = none) (s x : Operand)
    (ho : o.op = .call { callee := .builtin .append, args := #[s, x], argTypes := #[43, 43] })
    (base : Nat) (v : Value) (xs : List Int) (c : Int) (hs : a.eval s = v) (hx : a.eval x = .slice (some ⟨w.heap.size, 0, none⟩) 1 1)
    (hown : Own w base v xs) (hbase : base ≤ w.heap.size) (hlen : xs.length ≤ 1000000000)
    (h : ∀ v' w', Own w' base v' (xs ++ [c]) → Below base w w' → Kb w w' → wpList Tryz.prog ops Q rest (a.put o.dst v') w') :
    wpList Tryz.prog ops Q (o :: rest) a (w.alloc (.cells #[.int .u8 c] 5)) := by
  obtain ⟨i0, hi, hz0, hz1, hz2⟩ := info_parts info5
  refine wpList_append_own _ hgd s x 43 ho base 5 i0 (.int .u8 0) 1 1 Tryz.underlying43 hi hz0 hz1 hz2 rfl (by decide) v xs.length (xs.map (Value.int .u8)) hs (hown.alloc _) ⟨w.heap.size, 0, none⟩ 1 1 [.int .u8 c] hx rfl (cell_one_new _ _ _) ?_ ?_ ?_ ?_ ?_
  · intro u hu; simp at hu; subst hu; rfl
  · unfold maxLen; omega
  · omega
  · simp; omega
  · intro v' w' h1 h2 _
    refine h v' w' ?_ ?_ ((Kb.alloc w _).trans (Kb.of_grown (hown.alloc _) h2))
    · unfold Own; simpa using h1
    · refine ((Below.refl base w).alloc hbase _).grown h2 (by simp; omega) (fun k hk => ?_)
      exact (hown.lt k hk).1
theorem appSK {w : World} {ops : Array Oper} {rest : List Oper} {o : Oper} {a : Act} {Q : Exit → Act → World → Prop} (hgd : o.guard = none) (sl x : Operand)
    (ho : o.op = .call { callee := .builtin .append, args := #[sl, x], argTypes := #[43, 9] })
    (base : Nat) (v : Value) (xs : List Int) (s : ByteArray) (hs : a.eval sl = v) (hx : a.eval x = .string s)
    (hown : Own w base v xs) (hbase : base ≤ w.heap.size) (hlen : xs.length + s.size ≤ 140737488355328)
    (h : ∀ v' w', Own w' base v' (xs ++ numsS s) → Below base w w' → Kb w w' → wpList Tryz.prog ops Q rest (a.put o.dst v') w') :
    wpList Tryz.prog ops Q (o :: rest) a w := by
  obtain ⟨i0, hi, hz0, hz1, hz2⟩ := info_parts info5
  refine Lib.wpList_append_own_string _ hgd sl x 43 9 ho base 5 i0 Tryz.underlying43 Tryz.underlying9 hi hz0 hz1 hz2 v xs.length (xs.map (Value.int .u8)) hs hown s hx (by unfold maxLen; omega) hlen hbase ?_
  intro v' w' h1 h2 _
  refine h v' w' ?_ ((Below.refl base w).grown h2 hbase (fun k hk => (hown.lt k hk).1)) (Kb.of_grown hown h2)
  unfold Own
  have e : (xs ++ numsS s).map (Value.int .u8) = xs.map (Value.int .u8) ++ Lib.strCells s := by simp [numsS, Lib.strCells]
  rw [e, List.length_append, numsS_length]; exact h1

set_option maxRecDepth 100000 in
set_option maxHeartbeats 1000000 in
theorem appendNumber_k (base : Nat) (v : Value) (xs : List Int) (n : Nat) (w : World) (hn : n < 2 ^ 64) (hown : Own w base v xs) (hbase : base ≤ w.heap.size) (hlen : xs.length ≤ 100000000) :
    Calls Tryz.prog 86 #[v, .int .u64 n] w fun e w' => ∃ v', e = .returned v' ∧ Own w' base v' (xs ++ enc n) ∧ Below base w w' ∧ Kb w w' := by
  go_enter Tryz.func86, Tryz.ntmps86
  go_wp2_with (go_at_call 111; refine (lowBit_any n _ hn).mono ?_; rintro e w' ⟨rfl, hw'⟩; subst w')
  go_loopw [0, 5] (fun u s wr => ∃ (k : Nat) (done : List Int), k ≤ ahead n ∧ s = .int .i64 ((7 * k : Nat) : Int) ∧ Hid (done ++ hi n k = hi n (ahead n)) ∧ Own wr base u (xs ++ done) ∧ Below base w wr ∧ Kb w wr)
    (fun _ s _ => (intOf s).toNat)
  case atStart => exact ⟨ahead n, [], Nat.le_refl _, by go_num, rfl, by simpa using hown, Below.refl _ _, Kb.refl _⟩
  case round =>
    obtain ⟨k, done, hk, rfl, hd, ho, hbw, hkw⟩ := hrel
    have hk10 := ahead_lt n hn
    have hsz := hbw.size
    have hdl := hi_len n k done hd.out
    by_cases hlt : 0 < k
    · obtain ⟨j, rfl⟩ : ∃ j, k = j + 1 := ⟨k - 1, by omega⟩
      have hdg := digit_or n j
      have H := hi_step n j done hd.out
      go_wp2_with (at_builtin; refine app1K rfl (.tmp 12) (.tmp 18) rfl base _ (xs ++ done) _ rfl rfl ho (by omega) (by simp; omega) ?_; intro v1 w1 ho1 hb1 hk1)
      go_roundw
      case rel => exact ⟨j, _, by omega, by go_num, H, by simpa using ho1, hbw.trans hb1, hkw.trans hk1⟩
      case measure => simp [intOf]; omega
    · obtain rfl : k = 0 := by omega
      have hdg := digit_and n
      have H := hi_end n done hd.out
      go_wp2_with (at_builtin; refine app1K rfl (.tmp 20) (.tmp 24) rfl base _ (xs ++ done) _ rfl rfl ho (by omega) (by simp; omega) ?_; intro v1 w1 ho1 hb1 hk1)
      go_ret
      exact ⟨_, rfl, by rw [← H, ← List.append_assoc]; exact ho1, hbw.trans hb1, hkw.trans hk1⟩

set_option maxRecDepth 100000 in
set_option maxHeartbeats 1000000 in
theorem number_k (base : Nat) (v : Value) (xs : List Int) (ls : List Nat) (b o c : Nat) (w : World) (hl : ∀ n ∈ ls, n < 2 ^ 64) (hown : Own w base v xs) (hbase : base ≤ w.heap.size) (hlen : xs.length + 10 * ls.length ≤ 10000000)
    (hcell : Rest w 0 ls.length b o fun t => .int .u64 (ls.getD t 0)) (hs : b < base ∨ ls.length ≤ 1) :
    Calls Tryz.prog 48 #[v, .slice (some ⟨b, o, none⟩) ls.length c] w fun e w' => ∃ v', e = .returned v' ∧ Own w' base v' (xs ++ cat enc ls) ∧ Below base w w' ∧ Kb w w' := by
  go_enter Tryz.func48, Tryz.ntmps48
  go_wp2
  go_loopw [0, 9] (fun u i wr => ∃ k : Nat, k ≤ ls.length ∧ i = .int .i64 k ∧ Own wr base u (xs ++ cat enc (ls.take k)) ∧ Below base w wr ∧ Kb w wr ∧ Hid (Rest wr k ls.length b o fun t => .int .u64 (ls.getD t 0)))
    (fun _ i _ => ls.length - (intOf i).toNat)
  case atStart => exact ⟨0, Nat.zero_le _, rfl, by simpa [cat] using hown, Below.refl _ _, Kb.refl _, hcell⟩
  case round =>
    obtain ⟨k, hk, rfl, ho, hbw, hkw, hr⟩ := hrel
    have hsz := hbw.size
    have hcl := cat_len enc 10 (ls.take k) fun x hx => enc_len10 x (hl x (mem_take hx))
    have htl : (ls.take k).length ≤ ls.length := by simp; omega
    clear hcell hown
    by_cases hlt : k < ls.length
    · have hc : wr.cell? ⟨b, o + k, none⟩ = some (.int .u64 (ls.getD k 0)) := hr.out k (Nat.le_refl _) hlt
      have hct := cat_take enc ls 0 k hlt
      have hn := hl _ (getD_mem ls 0 k hlt)
      have HN : Hid (∀ (u : Value) (w1 : World), Own w1 base u (xs ++ cat enc (ls.take k) ++ enc (ls.getD k 0)) → Own w1 base u (xs ++ cat enc (ls.take (k + 1)))) := fun u w1 h => h.cast (by rw [hct]; simp)
      clear hct
      obtain ⟨n, hnn⟩ : ∃ n, n = ls.getD k 0 := ⟨_, rfl⟩
      rw [← hnn] at hc hn HN
      clear hnn
      go_wp2_with (go_at_call 86; refine (appendNumber_k base _ _ n _ hn ho (by omega) (by simp only [List.length_append]; omega)).mono ?_; rintro e w1 ⟨v1, rfl, ho1, hb1, hk1⟩)
      go_roundw
      case rel => exact ⟨k + 1, by omega, by go_num, HN.out _ _ ho1, hbw.trans hb1, hkw.trans hk1, hr.out.next hb1 hs⟩
      case measure => simp [intOf]; omega
    · obtain rfl : k = ls.length := by omega
      rw [List.take_of_length_le (Nat.le_refl _)] at ho
      go_wp2
      go_ret
      exact ⟨_, rfl, ho, hbw, hkw⟩

set_option maxRecDepth 100000 in
set_option maxHeartbeats 1000000 in
theorem text_k (base : Nat) (v : Value) (xs : List Int) (ls : List ByteArray) (b o c : Nat) (w : World) (hl : total ls ≤ 1000000) (hown : Own w base v xs) (hbase : base ≤ w.heap.size) (hlen : xs.length + 10 * ls.length ≤ 10000000)
    (hcell : Rest w 0 ls.length b o fun t => .string (ls.getD t ByteArray.empty)) (hs : b < base ∨ ls.length ≤ 1) :
    Calls Tryz.prog 87 #[v, .slice (some ⟨b, o, none⟩) ls.length c] w fun e w' => ∃ v', e = .returned v' ∧ Own w' base v' (xs ++ cat encT ls) ∧ Below base w w' ∧ Kb w w' := by
  go_enter Tryz.func87, Tryz.ntmps87
  go_wp2
  go_loopw [0, 9] (fun u i wr => ∃ k : Nat, k ≤ ls.length ∧ i = .int .i64 k ∧ Own wr base u (xs ++ cat encT (ls.take k)) ∧ Below base w wr ∧ Kb w wr ∧ Hid (Rest wr k ls.length b o fun t => .string (ls.getD t ByteArray.empty)))
    (fun _ i _ => ls.length - (intOf i).toNat)
  case atStart => exact ⟨0, Nat.zero_le _, rfl, by simpa [cat] using hown, Below.refl _ _, Kb.refl _, hcell⟩
  case round =>
    obtain ⟨k, hk, rfl, ho, hbw, hkw, hr⟩ := hrel
    have hsz := hbw.size
    have htt := total_take ls k
    have hcl := catT_len (ls.take k) (by omega)
    have htl : (ls.take k).length ≤ ls.length := by simp; omega
    clear hcell hown
    by_cases hlt : k < ls.length
    · have hc : wr.cell? ⟨b, o + k, none⟩ = some (.string (ls.getD k ByteArray.empty)) := hr.out k (Nat.le_refl _) hlt
      have hct := cat_take encT ls ByteArray.empty k hlt
      have hn := total_le ls _ (getD_mem ls ByteArray.empty k hlt)
      have HN : Hid (∀ (u : Value) (w1 : World), Own w1 base u (xs ++ cat encT (ls.take k) ++ encT (ls.getD k ByteArray.empty)) → Own w1 base u (xs ++ cat encT (ls.take (k + 1)))) := fun u w1 h => h.cast (by rw [hct]; simp)
      clear hct
      obtain ⟨n, hnn⟩ : ∃ n, n = ls.getD k ByteArray.empty := ⟨_, rfl⟩
      rw [← hnn] at hc hn HN
      clear hnn
      have hsn : n.size < 2 ^ 64 := by omega
      go_wp2_with (first | (go_at_call 86; refine (appendNumber_k base _ _ n.size _ hsn ho (by omega) (by simp only [List.length_append]; omega)).mono ?_; rintro e w1 ⟨v1, rfl, ho1, hb1, hk1⟩) | (at_builtin; refine appSK rfl (.tmp 17) (.tmp 18) rfl base _ _ n rfl rfl ho1 (by have := hb1.size; omega) (by have := enc_len10 n.size hsn; simp only [List.length_append]; omega) ?_; intro v2 w2 ho2 hb2 hk2))
      go_roundw
      case rel => exact ⟨k + 1, by omega, by go_num, HN.out _ _ (ho2.cast (by simp [encT])), (hbw.trans hb1).trans hb2, (hkw.trans hk1).trans hk2, hr.out.next (hb1.trans hb2) hs⟩
      case measure => simp [intOf]; omega
    · obtain rfl : k = ls.length := by omega
      rw [List.take_of_length_le (Nat.le_refl _)] at ho
      go_wp2
      go_ret
      exact ⟨_, rfl, ho, hbw, hkw⟩


set_option maxRecDepth 100000 in
set_option maxHeartbeats 1000000 in
theorem appendSigned_k (base : Nat) (v : Value) (xs : List Int) (z : Int) (w : World) (h1 : -9223372036854775808 ≤ z) (h2 : z ≤ 9223372036854775807) (hown : Own w base v xs) (hbase : base ≤ w.heap.size) (hlen : xs.length ≤ 99999999) :
    Calls Tryz.prog 112 #[v, .int .i64 z] w fun e w' => ∃ v', e = .returned v' ∧ Own w' base v' (xs ++ encS z) ∧ Below base w w' ∧ Kb w w' := by
  by_cases hz : z < 0
  · have hnw := neg_wrap z h1 hz
    have hE : Hid (encS z = 45 :: enc (-z).toNat) := by unfold encS; rw [if_pos hz]; rfl
    have hm : (-z).toNat < 2 ^ 64 := by omega
    obtain ⟨m, hmm⟩ : ∃ m, m = (-z).toNat := ⟨_, rfl⟩
    rw [← hmm] at hnw hE hm
    clear hmm
    go_enter Tryz.func112, Tryz.ntmps112
    go_wp2_with (first | (at_builtin; refine app1K rfl (.tmp 7) (.tmp 8) rfl base _ xs _ rfl rfl hown (by omega) (by omega) ?_; intro v1 w1 ho1 hb1 hk1) | (go_at_call 86; refine (appendNumber_k base v1 (xs ++ [45]) m w1 hm ho1 (by have := hb1.size; omega) (by simp; omega)).mono ?_; rintro e w2 ⟨v2, rfl, ho2, hb2, hk2⟩))
    go_ret
    exact ⟨_, rfl, ho2.cast (by rw [hE.out]; simp), hb1.trans hb2, hk1.trans hk2⟩
  · obtain ⟨m, rfl⟩ : ∃ m : Nat, z = m := ⟨z.toNat, by omega⟩
    have hE : Hid (encS m = 43 :: enc m) := by unfold encS; rw [if_neg hz]; rfl
    have hm : m < 2 ^ 64 := by omega
    go_enter Tryz.func112, Tryz.ntmps112
    go_wp2_with (first | (at_builtin; refine app1K rfl (.tmp 14) (.tmp 15) rfl base _ xs _ rfl rfl hown (by omega) (by omega) ?_; intro v1 w1 ho1 hb1 hk1) | (go_at_call 86; refine (appendNumber_k base v1 (xs ++ [43]) m w1 hm ho1 (by have := hb1.size; omega) (by simp; omega)).mono ?_; rintro e w2 ⟨v2, rfl, ho2, hb2, hk2⟩))
    go_ret
    exact ⟨_, rfl, ho2.cast (by rw [hE.out]; simp), hb1.trans hb2, hk1.trans hk2⟩
set_option maxRecDepth 100000 in
set_option maxHeartbeats 1000000 in
theorem signed_k (base : Nat) (v : Value) (xs : List Int) (ls : List Int) (b o c : Nat) (w : World) (hl : ∀ n ∈ ls, -9223372036854775808 ≤ n ∧ n ≤ 9223372036854775807) (hown : Own w base v xs) (hbase : base ≤ w.heap.size) (hlen : xs.length + 11 * ls.length ≤ 10000000)
    (hcell : Rest w 0 ls.length b o fun t => .int .i64 (ls.getD t 0)) (hs : b < base ∨ ls.length ≤ 1) :
    Calls Tryz.prog 88 #[v, .slice (some ⟨b, o, none⟩) ls.length c] w fun e w' => ∃ v', e = .returned v' ∧ Own w' base v' (xs ++ cat encS ls) ∧ Below base w w' ∧ Kb w w' := by
  go_enter Tryz.func88, Tryz.ntmps88
  go_wp2
  go_loopw [0, 9] (fun u i wr => ∃ k : Nat, k ≤ ls.length ∧ i = .int .i64 k ∧ Own wr base u (xs ++ cat encS (ls.take k)) ∧ Below base w wr ∧ Kb w wr ∧ Hid (Rest wr k ls.length b o fun t => .int .i64 (ls.getD t 0)))
    (fun _ i _ => ls.length - (intOf i).toNat)
  case atStart => exact ⟨0, Nat.zero_le _, rfl, by simpa [cat] using hown, Below.refl _ _, Kb.refl _, hcell⟩
  case round =>
    obtain ⟨k, hk, rfl, ho, hbw, hkw, hr⟩ := hrel
    have hsz := hbw.size
    have hcl := cat_len encS 11 (ls.take k) fun x hx => encS_len11 x (hl x (mem_take hx)).1 (hl x (mem_take hx)).2
    have htl : (ls.take k).length ≤ ls.length := by simp; omega
    clear hcell hown
    by_cases hlt : k < ls.length
    · have hc : wr.cell? ⟨b, o + k, none⟩ = some (.int .i64 (ls.getD k 0)) := hr.out k (Nat.le_refl _) hlt
      have hct := cat_take encS ls 0 k hlt
      have hn := hl _ (getD_mem ls 0 k hlt)
      have HN : Hid (∀ (u : Value) (w1 : World), Own w1 base u (xs ++ cat encS (ls.take k) ++ encS (ls.getD k 0)) → Own w1 base u (xs ++ cat encS (ls.take (k + 1)))) := fun u w1 h => h.cast (by rw [hct]; simp)
      clear hct
      obtain ⟨n, hnn⟩ : ∃ n, n = ls.getD k 0 := ⟨_, rfl⟩
      rw [← hnn] at hc hn HN
      clear hnn
      go_wp2_with (go_at_call 112; refine (appendSigned_k base _ _ n _ hn.1 hn.2 ho (by omega) (by simp only [List.length_append]; omega)).mono ?_; rintro e w1 ⟨v1, rfl, ho1, hb1, hk1⟩)
      go_roundw
      case rel => exact ⟨k + 1, by omega, by go_num, HN.out _ _ ho1, hbw.trans hb1, hkw.trans hk1, hr.out.next hb1 hs⟩
      case measure => simp [intOf]; omega
    · obtain rfl : k = ls.length := by omega
      rw [List.take_of_length_le (Nat.le_refl _)] at ho
      go_wp2
      go_ret
      exact ⟨_, rfl, ho, hbw, hkw⟩

theorem signed1 (base : Nat) (v : Value) (xs : List Int) (z : Int) (b : Nat) (w : World) (hz : -9223372036854775808 ≤ z ∧ z ≤ 9223372036854775807) (hown : Own w base v xs) (hbase : base ≤ w.heap.size) (hlen : xs.length ≤ 9000000) (hc : w.cell? ⟨b, 0, none⟩ = some (.int .i64 z)) :
    Calls Tryz.prog 88 #[v, .slice (some ⟨b, 0, none⟩) 1 1] w fun e w' => ∃ v', e = .returned v' ∧ Own w' base v' (xs ++ encS z) ∧ Below base w w' ∧ Kb w w' := by
  have h := signed_k base v xs [z] b 0 1 w (fun m hm => by simp at hm; subst hm; exact hz) hown hbase (by simp; omega) (fun t _ ht => by
    obtain rfl : t = 0 := by simp at ht; omega
    simpa using hc) (.inr (by simp))
  have e : cat encS [z] = encS z := by simp [cat]
  rw [e] at h
  exact h
theorem number1 (base : Nat) (v : Value) (xs : List Int) (n b : Nat) (w : World) (hn : n < 2 ^ 64) (hown : Own w base v xs) (hbase : base ≤ w.heap.size) (hlen : xs.length ≤ 9000000) (hc : w.cell? ⟨b, 0, none⟩ = some (.int .u64 n)) :
    Calls Tryz.prog 48 #[v, .slice (some ⟨b, 0, none⟩) 1 1] w fun e w' => ∃ v', e = .returned v' ∧ Own w' base v' (xs ++ enc n) ∧ Below base w w' ∧ Kb w w' := by
  have h := number_k base v xs [n] b 0 1 w (fun m hm => by simp at hm; omega) hown hbase (by simp; omega) (fun t _ ht => by
    obtain rfl : t = 0 := by simp at ht; omega
    simpa using hc) (.inr (by simp))
  have e : cat enc [n] = enc n := by simp [cat]
  rw [e] at h
  exact h
theorem text1 (base : Nat) (v : Value) (xs : List Int) (s : ByteArray) (b : Nat) (w : World) (hs : s.size ≤ 1000000) (hown : Own w base v xs) (hbase : base ≤ w.heap.size) (hlen : xs.length ≤ 9000000) (hc : w.cell? ⟨b, 0, none⟩ = some (.string s)) :
    Calls Tryz.prog 87 #[v, .slice (some ⟨b, 0, none⟩) 1 1] w fun e w' => ∃ v', e = .returned v' ∧ Own w' base v' (xs ++ encT s) ∧ Below base w w' ∧ Kb w w' := by
  have h := text_k base v xs [s] b 0 1 w (by simpa [total] using hs) hown hbase (by simp; omega) (fun t _ ht => by
    obtain rfl : t = 0 := by simp at ht; omega
    simpa using hc) (.inr (by simp))
  have e : cat encT [s] = encT s := by simp [cat]
  rw [e] at h
  exact h
end Go.Proofs.YtiajafljgfpdcaaGreat.Q
/- quill.Text and quill.Signed of what lies in no row of bytes. -/
namespace Go.Proofs.YtiajafljgfpdcaaGreat.Q
set_option linter.unusedVariables false
open Go.RowKit
set_option maxRecDepth 100000 in
set_option maxHeartbeats 1000000 in
theorem text_n (base : Nat) (v : Value) (xs : List Int) (ls : List ByteArray) (b o c : Nat) (w : World) (hl : total ls ≤ 1000000) (hown : Own w base v xs) (hbase : base ≤ w.heap.size) (hlen : xs.length + 10 * ls.length ≤ 10000000)
    (hcell : Rest w 0 ls.length b o fun t => .string (ls.getD t ByteArray.empty)) (hs : NoB w b) :
    Calls Tryz.prog 87 #[v, .slice (some ⟨b, o, none⟩) ls.length c] w fun e w' => ∃ v', e = .returned v' ∧ Own w' base v' (xs ++ cat encT ls) ∧ Below base w w' ∧ Kb w w' := by
  have hcell0 : Hid (∀ t, t < ls.length → w.cell? ⟨b, o + t, none⟩ = some (.string (ls.getD t ByteArray.empty))) := fun t h => hcell t (Nat.zero_le _) h
  go_enter Tryz.func87, Tryz.ntmps87
  go_wp2
  go_loopw [0, 9] (fun u i wr => ∃ k : Nat, k ≤ ls.length ∧ i = .int .i64 k ∧ Own wr base u (xs ++ cat encT (ls.take k)) ∧ Below base w wr ∧ Kb w wr ∧ Hid (Rest wr k ls.length b o fun t => .string (ls.getD t ByteArray.empty)))
    (fun _ i _ => ls.length - (intOf i).toNat)
  case atStart => exact ⟨0, Nat.zero_le _, rfl, by simpa [cat] using hown, Below.refl _ _, Kb.refl _, hcell⟩
  case round =>
    obtain ⟨k, hk, rfl, ho, hbw, hkw, hr⟩ := hrel
    have hsz := hbw.size
    have htt := total_take ls k
    have hcl := catT_len (ls.take k) (by omega)
    have htl : (ls.take k).length ≤ ls.length := by simp; omega
    clear hcell hown
    by_cases hlt : k < ls.length
    · have hc : wr.cell? ⟨b, o + k, none⟩ = some (.string (ls.getD k ByteArray.empty)) := hr.out k (Nat.le_refl _) hlt
      have hct := cat_take encT ls ByteArray.empty k hlt
      have hn := total_le ls _ (getD_mem ls ByteArray.empty k hlt)
      have HN : Hid (∀ (u : Value) (w1 : World), Own w1 base u (xs ++ cat encT (ls.take k) ++ encT (ls.getD k ByteArray.empty)) → Own w1 base u (xs ++ cat encT (ls.take (k + 1)))) := fun u w1 h => h.cast (by rw [hct]; simp)
      clear hct
      obtain ⟨n, hnn⟩ : ∃ n, n = ls.getD k ByteArray.empty := ⟨_, rfl⟩
      rw [← hnn] at hc hn HN
      clear hnn
      have hsn : n.size < 2 ^ 64 := by omega
      go_wp2_with (first | (go_at_call 86; refine (appendNumber_k base _ _ n.size _ hsn ho (by omega) (by simp only [List.length_append]; omega)).mono ?_; rintro e w1 ⟨v1, rfl, ho1, hb1, hk1⟩) | (at_builtin; refine appSK rfl (.tmp 17) (.tmp 18) rfl base _ _ n rfl rfl ho1 (by have := hb1.size; omega) (by have := enc_len10 n.size hsn; simp only [List.length_append]; omega) ?_; intro v2 w2 ho2 hb2 hk2))
      go_roundw
      case rel => exact ⟨k + 1, by omega, by go_num, HN.out _ _ (ho2.cast (by simp [encT])), (hbw.trans hb1).trans hb2, (hkw.trans hk1).trans hk2, fun t _ h2 => ((hkw.trans hk1).trans hk2).cell (hcell0.out t h2) hs⟩
      case measure => simp [intOf]; omega
    · obtain rfl : k = ls.length := by omega
      rw [List.take_of_length_le (Nat.le_refl _)] at ho
      go_wp2
      go_ret
      exact ⟨_, rfl, ho, hbw, hkw⟩


set_option maxRecDepth 100000 in
set_option maxHeartbeats 1000000 in
theorem signed_n (base : Nat) (v : Value) (xs : List Int) (ls : List Int) (b o c : Nat) (w : World) (hl : ∀ n ∈ ls, -9223372036854775808 ≤ n ∧ n ≤ 9223372036854775807) (hown : Own w base v xs) (hbase : base ≤ w.heap.size) (hlen : xs.length + 11 * ls.length ≤ 10000000)
    (hcell : Rest w 0 ls.length b o fun t => .int .i64 (ls.getD t 0)) (hs : NoB w b) :
    Calls Tryz.prog 88 #[v, .slice (some ⟨b, o, none⟩) ls.length c] w fun e w' => ∃ v', e = .returned v' ∧ Own w' base v' (xs ++ cat encS ls) ∧ Below base w w' ∧ Kb w w' := by
  have hcell0 : Hid (∀ t, t < ls.length → w.cell? ⟨b, o + t, none⟩ = some (.int .i64 (ls.getD t 0))) := fun t h => hcell t (Nat.zero_le _) h
  go_enter Tryz.func88, Tryz.ntmps88
  go_wp2
  go_loopw [0, 9] (fun u i wr => ∃ k : Nat, k ≤ ls.length ∧ i = .int .i64 k ∧ Own wr base u (xs ++ cat encS (ls.take k)) ∧ Below base w wr ∧ Kb w wr ∧ Hid (Rest wr k ls.length b o fun t => .int .i64 (ls.getD t 0)))
    (fun _ i _ => ls.length - (intOf i).toNat)
  case atStart => exact ⟨0, Nat.zero_le _, rfl, by simpa [cat] using hown, Below.refl _ _, Kb.refl _, hcell⟩
  case round =>
    obtain ⟨k, hk, rfl, ho, hbw, hkw, hr⟩ := hrel
    have hsz := hbw.size
    have hcl := cat_len encS 11 (ls.take k) fun x hx => encS_len11 x (hl x (mem_take hx)).1 (hl x (mem_take hx)).2
    have htl : (ls.take k).length ≤ ls.length := by simp; omega
    clear hcell hown
    by_cases hlt : k < ls.length
    · have hc : wr.cell? ⟨b, o + k, none⟩ = some (.int .i64 (ls.getD k 0)) := hr.out k (Nat.le_refl _) hlt
      have hct := cat_take encS ls 0 k hlt
      have hn := hl _ (getD_mem ls 0 k hlt)
      have HN : Hid (∀ (u : Value) (w1 : World), Own w1 base u (xs ++ cat encS (ls.take k) ++ encS (ls.getD k 0)) → Own w1 base u (xs ++ cat encS (ls.take (k + 1)))) := fun u w1 h => h.cast (by rw [hct]; simp)
      clear hct
      obtain ⟨n, hnn⟩ : ∃ n, n = ls.getD k 0 := ⟨_, rfl⟩
      rw [← hnn] at hc hn HN
      clear hnn
      go_wp2_with (go_at_call 112; refine (appendSigned_k base _ _ n _ hn.1 hn.2 ho (by omega) (by simp only [List.length_append]; omega)).mono ?_; rintro e w1 ⟨v1, rfl, ho1, hb1, hk1⟩)
      go_roundw
      case rel => exact ⟨k + 1, by omega, by go_num, HN.out _ _ ho1, hbw.trans hb1, hkw.trans hk1, fun t _ h2 => (hkw.trans hk1).cell (hcell0.out t h2) hs⟩
      case measure => simp [intOf]; omega
    · obtain rfl : k = ls.length := by omega
      rw [List.take_of_length_le (Nat.le_refl _)] at ho
      go_wp2
      go_ret
      exact ⟨_, rfl, ho, hbw, hkw⟩

end Go.Proofs.YtiajafljgfpdcaaGreat.Q
