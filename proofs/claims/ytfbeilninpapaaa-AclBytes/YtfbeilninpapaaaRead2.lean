/- The contracts of readOne, withSign, readSigned and readText. -/
import Derived.Test.YtfbeilninpapaaaRead
namespace Go.Proofs.Ytfbeilninpapaaa
open Go.RowKit
set_option maxRecDepth 100000 in
theorem readOne_none (a : Option Addr) (c : Nat) (w : World) :
    Calls Try.prog 68 #[.slice a 0 c] w fun e w' => e = .returned (.tuple #[.int .u8 0, .int .i64 0, .int .i64 3]) ∧ w' = w := by
  go_enter Try.func68, Try.ntmps68
  go_wp2
  go_ret3
  exact ⟨rfl, rfl⟩
set_option maxRecDepth 100000 in
theorem readOne_some (x : Int) (n b o c : Nat) (w : World) (hn : 0 < n) (hc : w.cell? ⟨b, o, none⟩ = some (.int .u8 x)) :
    Calls Try.prog 68 #[.slice (some ⟨b, o, none⟩) n c] w fun e w' => e = .returned (.tuple #[.int .u8 x, .int .i64 1, .int .i64 0]) ∧ w' = w := by
  have e : ((n : Int) == 0) = false := by simp; omega
  go_enter Try.func68, Try.ntmps68
  go_wp2
  go_ret3
  exact ⟨rfl, rfl⟩
/-- What readOne answers. -/
def rdO : List Int → Int × Nat × Int
  | [] => (0, 0, 3)
  | c :: _ => (c, 1, 0)
theorem readOne_any (bs : List Int) (v : Value) (w : World) (hb : Bts w v bs) :
    Calls Try.prog 68 #[v] w fun e w' => e = .returned (.tuple #[.int .u8 (rdO bs).1, .int .i64 (rdO bs).2.1, .int .i64 (rdO bs).2.2]) ∧ w' = w := by
  obtain ⟨a, c, rfl, hnil, hcell⟩ := hb
  cases bs with
  | nil => exact readOne_none a c w
  | cons x r =>
    rcases hcell with h | ⟨b, o, rfl, hr⟩
    · cases h
    · exact readOne_some x _ b o c w (by simp) (hr 0 (Nat.zero_le _) (by simp))
/-- What withSign answers. -/
def wS (c : Int) (n : Nat) : Int × Int := if c = 45 then (if n = 0 then (0, 10) else if 9223372036854775808 < n then (0, 11) else (-(n : Int), 0)) else (if 9223372036854775807 < n then (0, 11) else ((n : Int), 0))
theorem neg_back (n : Nat) (_h0 : ¬ n = 0) (h : ¬ 9223372036854775808 < n) : wrap64 (IntKind.u64.wrap (-(n : Int))) = -(n : Int) := by
  simp only [wrap64, IntKind.wrap, IntKind.bits, IntKind.signed]
  simp
  omega
theorem ret2 {k1 k2 : IntKind} {a b a' b' : Int} (h1 : a = a') (h2 : b = b') : Ending.returned (.tuple #[.int k1 a, .int k2 b]) = .returned (.tuple #[.int k1 a', .int k2 b']) := by rw [h1, h2]
set_option maxRecDepth 100000 in
theorem withSign_minus (n : Nat) (w : World) (hn : n < 2 ^ 64) : Calls Try.prog 69 #[.int .u8 45, .int .u64 n] w fun e w' => e = .returned (.tuple #[.int .i64 (wS 45 n).1, .int .i64 (wS 45 n).2]) ∧ w' = w := by
  by_cases h0 : n = 0
  · subst h0
    go_enter Try.func69, Try.ntmps69
    go_wp2
    go_ret2
    exact ⟨rfl, rfl⟩
  · have e : ((n : Int) == 0) = false := by simp; omega
    by_cases h1 : 9223372036854775808 < n
    · go_enter Try.func69, Try.ntmps69
      go_wp2
      go_ret2
      exact ⟨ret2 (by simp [wS, h0, h1]) (by simp [wS, h0, h1]), rfl⟩
    · have hnb : Hid _ := neg_back n h0 h1
      go_enter Try.func69, Try.ntmps69
      go_wp2
      go_ret2
      exact ⟨ret2 (by rw [hnb.out]; simp [wS, h0, h1]) (by simp [wS, h0, h1]), rfl⟩
set_option maxRecDepth 100000 in
theorem withSign_plus (n : Nat) (w : World) (hn : n < 2 ^ 64) : Calls Try.prog 69 #[.int .u8 43, .int .u64 n] w fun e w' => e = .returned (.tuple #[.int .i64 (wS 43 n).1, .int .i64 (wS 43 n).2]) ∧ w' = w := by
  by_cases h1 : 9223372036854775807 < n
  · go_enter Try.func69, Try.ntmps69
    go_wp2
    go_ret2
    exact ⟨ret2 (by simp [wS, h1]) (by simp [wS, h1]), rfl⟩
  · go_enter Try.func69, Try.ntmps69
    go_wp2
    go_ret2
    exact ⟨ret2 (by simp [wS, h1]) (by simp [wS, h1]), rfl⟩
theorem withSign_any (c : Int) (n : Nat) (w : World) (hn : n < 2 ^ 64) (hc : c = 43 ∨ c = 45) : Calls Try.prog 69 #[.int .u8 c, .int .u64 n] w fun e w' => e = .returned (.tuple #[.int .i64 (wS c n).1, .int .i64 (wS c n).2]) ∧ w' = w := by
  rcases hc with rfl | rfl
  · exact withSign_plus n w hn
  · exact withSign_minus n w hn

/-- What readNumber answers is in bounds. -/
theorem rdN_bounds (bs : List Int) : ∀ (f : Bool) (n i : Nat), n ≤ 144115188075855871 → (rdN f n i bs).1 < 2 ^ 64 ∧ (rdN f n i bs).2.1 ≤ i + bs.length := by
  induction bs with
  | nil => intro f n i _; simp [rdN]
  | cons c r ih =>
    intro f n i hn
    rw [rdN]
    split
    · simp
    · split
      · simp; omega
      · split
        · simp
        · rename_i h1 h2 h3
          have := ih false (n * 128 + c.toNat % 128) (i + 1) (by omega)
          simp only [List.length_cons]; omega
theorem rdN_err (bs : List Int) : ∀ (f : Bool) (n i : Nat), (rdN f n i bs).2.2 = 0 ∨ (rdN f n i bs).2.2 = 3 ∨ (rdN f n i bs).2.2 = 10 ∨ (rdN f n i bs).2.2 = 11 := by
  induction bs with
  | nil => intro f n i; simp [rdN]
  | cons c r ih =>
    intro f n i
    rw [rdN]
    split
    · simp
    · split
      · simp
      · split
        · simp
        · exact ih _ _ _

/-- What readSigned answers. -/
def rdS : List Int → Int × Nat × Int
  | [] => (0, 0, 3)
  | c :: r => if c = 43 ∨ c = 45 then (if (rdN true 0 0 r).2.2 = 0 then ((wS c (rdN true 0 0 r).1).1, 1 + (rdN true 0 0 r).2.1, (wS c (rdN true 0 0 r).1).2) else (0, 0, (rdN true 0 0 r).2.2)) else (0, 0, 10)
theorem retS {k1 k2 k3 : IntKind} {a b c : Int} {R : Int × Nat × Int} (h : R = (a, b.toNat, c)) (hb : 0 ≤ b) :
    Ending.returned (.tuple #[.int k1 a, .int k2 b, .int k3 c]) = .returned (.tuple #[.int k1 R.1, .int k2 R.2.1, .int k3 R.2.2]) := by
  rw [h]; simp; omega

set_option maxRecDepth 100000 in
set_option maxHeartbeats 1000000 in
theorem readSigned_any (bs : List Int) (v : Value) (w : World) (hby : IsBytes bs) (hlen : bs.length ≤ 1000000000) (hb : Bts w v bs) :
    Calls Try.prog 64 #[v] w fun e w' => e = .returned (.tuple #[.int .i64 (rdS bs).1, .int .i64 (rdS bs).2.1, .int .i64 (rdS bs).2.2]) ∧ w' = w := by
  have h1 := readOne_any bs v w hb
  cases bs with
  | nil =>
    simp only [rdO] at h1
    go_enter Try.func64, Try.ntmps64
    go_wp2_with (go_at_call 68; refine h1.mono ?_; rintro e w' ⟨rfl, hw'⟩; subst w')
    go_ret3
    exact ⟨retS rfl (by omega), rfl⟩
  | cons x r =>
    simp only [rdO] at h1
    have hx := hby x (by simp)
    by_cases hs : x = 43 ∨ x = 45
    · obtain ⟨v2, hrun0, hb2, _⟩ := slice_from hb 1 (by simp)
      have hrun : ∀ W, (Instr.slice 40 v (some (.int .i64 1)) none none).run Try.prog W = .ok v2 W := hrun0
      clear hrun0
      have h2 := readNumber_any r v2 w (fun c hc => hby c (by simp [hc])) (by simp at hlen; omega) hb2
      have hbd := rdN_bounds r true 0 0 (by omega)
      have her := rdN_err r true 0 0
      have HS : Hid (rdS (x :: r) = if (rdN true 0 0 r).2.2 = 0 then ((wS x (rdN true 0 0 r).1).1, 1 + (rdN true 0 0 r).2.1, (wS x (rdN true 0 0 r).1).2) else (0, 0, (rdN true 0 0 r).2.2)) := by rw [rdS, if_pos hs]; exact rfl
      have hrl : r.length ≤ 1000000000 := by simp at hlen; omega
      generalize rdN true 0 0 r = R at h2 hbd her HS
      obtain ⟨m, sz, er⟩ := R
      simp only at h2 hbd her HS
      have h3 := withSign_any x m w hbd.1 hs
      clear hby hb hlen
      by_cases he : er = 0
      · have HS' : Hid (_ = _) := HS.out.trans (if_pos he)
        clear HS her
        subst he
        rcases hs with rfl | rfl
        all_goals
          go_enter Try.func64, Try.ntmps64
          go_wp2_with (first | (go_at_call 68; refine h1.mono ?_; rintro e w1 ⟨rfl, hw1⟩; subst w1) | (go_at_call 66; refine h2.mono ?_; rintro e w1 ⟨rfl, hw1⟩; subst w1) | (go_at_call 69; refine h3.mono ?_; rintro e w1 ⟨rfl, hw1⟩; subst w1))
          go_ret3
          exact ⟨retS (HS'.out.trans (by simp; omega)) (by omega), rfl⟩
      · have HS' : Hid (_ = _) := HS.out.trans (if_neg he)
        have hee : (er == 0) = false := by simpa using he
        clear HS her h3
        rcases hs with rfl | rfl
        all_goals
          go_enter Try.func64, Try.ntmps64
          go_wp2_with (first | (go_at_call 68; refine h1.mono ?_; rintro e w1 ⟨rfl, hw1⟩; subst w1) | (go_at_call 66; refine h2.mono ?_; rintro e w1 ⟨rfl, hw1⟩; subst w1))
          go_ret3
          exact ⟨retS HS'.out (by omega), rfl⟩
    · have HS : Hid (rdS (x :: r) = (0, 0, 10)) := by rw [rdS, if_neg hs]; exact rfl
      have e0 : ¬ x = 43 := by omega
      have e1 : (x != 43) = true := by simp; omega
      have e2 : (x != 45) = true := by simp; omega
      clear hby hs
      go_enter Try.func64, Try.ntmps64
      go_wp2_with (go_at_call 68; refine h1.mono ?_; rintro e w1 ⟨rfl, hw1⟩; subst w1)
      go_ret3
      exact ⟨retS HS.out (by omega), rfl⟩

/-- What readText answers. -/
def rdT (most : Nat) (bs : List Int) : List Int × Nat × Int :=
  if (rdN true 0 0 bs).2.2 = 0 then
    (if most < (rdN true 0 0 bs).1 then ([], 0, 1) else if (bs.drop (rdN true 0 0 bs).2.1).length < (rdN true 0 0 bs).1 then ([], 0, 3)
      else ((bs.drop (rdN true 0 0 bs).2.1).take (rdN true 0 0 bs).1, (rdN true 0 0 bs).2.1 + (rdN true 0 0 bs).1, 0))
  else ([], 0, (rdN true 0 0 bs).2.2)
theorem strOf_nil : strOfNums [] = ⟨#[]⟩ := rfl
theorem retT {k2 k3 : IntKind} {s : ByteArray} {b c : Int} {R : List Int × Nat × Int} {l : List Int} (h : R = (l, b.toNat, c)) (hs : strOfNums l = s) (hb : 0 ≤ b) :
    Ending.returned (.tuple #[.string s, .int k2 b, .int k3 c]) = .returned (.tuple #[.string (strOfNums R.1), .int k2 R.2.1, .int k3 R.2.2]) := by
  rw [h]; simp; exact ⟨hs.symm, by omega⟩
set_option maxRecDepth 100000 in
set_option maxHeartbeats 1000000 in
theorem readText_any (most : Nat) (bs : List Int) (v : Value) (w : World) (hm : most < 2 ^ 63) (hby : IsBytes bs) (hlen : bs.length ≤ 1000000000) (hb : Bts w v bs) :
    Calls Try.prog 61 #[v, .int .u64 most] w fun e w' => e = .returned (.tuple #[.string (strOfNums (rdT most bs).1), .int .i64 (rdT most bs).2.1, .int .i64 (rdT most bs).2.2]) ∧ w' = w := by
  have h2 := readNumber_any bs v w hby hlen hb
  have hbd := rdN_bounds bs true 0 0 (by omega)
  have her := rdN_err bs true 0 0
  have HS : Hid (_ = _) := rdT.eq_def most bs
  generalize rdN true 0 0 bs = R at h2 hbd her HS
  obtain ⟨m, sz, er⟩ := R
  simp only at h2 hbd her HS
  by_cases he : er = 0
  · replace HS : Hid (_ = _) := HS.out.trans (if_pos he)
    clear her
    subst he
    by_cases hmo : most < m
    · replace HS : Hid (_ = _) := HS.out.trans (if_pos hmo)
      go_enter Try.func61, Try.ntmps61
      go_wp2_with (go_at_call 66; refine h2.mono ?_; rintro e w1 ⟨rfl, hw1⟩; subst w1)
      go_ret3
      exact ⟨retT HS.out rfl (by omega), rfl⟩
    · replace HS : Hid (_ = _) := HS.out.trans (if_neg hmo)
      obtain ⟨v2, hrun, hb2, _⟩ := slice_from hb sz (by omega)
      have hlen2 := len_bts hb2
      have hdl : (bs.drop sz).length ≤ 1000000000 := by simp; omega
      generalize bs.drop sz = ds at hb2 hlen2 hdl HS
      by_cases hsh : ds.length < m
      · replace HS : Hid (_ = _) := HS.out.trans (if_pos hsh)
        go_enter Try.func61, Try.ntmps61
        go_wp2_with (go_at_call 66; refine h2.mono ?_; rintro e w1 ⟨rfl, hw1⟩; subst w1)
        go_ret3
        exact ⟨retT HS.out rfl (by omega), rfl⟩
      · replace HS : Hid (_ = _) := HS.out.trans (if_neg hsh)
        obtain ⟨v3, hrun3, hb3⟩ := slice_to hb2 m (by omega)
        have hstr := conv_str hb3
        go_enter Try.func61, Try.ntmps61
        go_wp2_with (go_at_call 66; refine h2.mono ?_; rintro e w1 ⟨rfl, hw1⟩; subst w1)
        go_ret3
        exact ⟨retT (HS.out.trans (by simp; omega)) rfl (by omega), rfl⟩
  · replace HS : Hid (_ = _) := HS.out.trans (if_neg he)
    have hee : (er == 0) = false := by simpa using he
    clear her
    go_enter Try.func61, Try.ntmps61
    go_wp2_with (go_at_call 66; refine h2.mono ?_; rintro e w1 ⟨rfl, hw1⟩; subst w1)
    go_ret3
    exact ⟨retT HS.out rfl (by omega), rfl⟩
end Go.Proofs.Ytfbeilninpapaaa
