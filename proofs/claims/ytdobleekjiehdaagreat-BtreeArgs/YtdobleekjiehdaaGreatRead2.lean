/- The contracts of readOne, withSign, readSigned and readText. -/
import Derived.Test.YtdobleekjiehdaaGreatRead
namespace Go.Proofs.YtdobleekjiehdaaGreat
open Go.RowKit
/-- What readOne answers. -/
def rdO : List Int → Int × Nat × Int
  | [] => (0, 0, 3)
  | c :: _ => (c, 1, 0)
/-- What withSign answers. -/
def wS (c : Int) (n : Nat) : Int × Int := if c = 45 then (if n = 0 then (0, 10) else if 9223372036854775808 < n then (0, 11) else (-(n : Int), 0)) else (if 9223372036854775807 < n then (0, 11) else ((n : Int), 0))
theorem neg_back (n : Nat) (_h0 : ¬ n = 0) (h : ¬ 9223372036854775808 < n) : wrap64 (IntKind.u64.wrap (-(n : Int))) = -(n : Int) := by
  simp only [wrap64, IntKind.wrap, IntKind.bits, IntKind.signed]
  simp
  omega
theorem ret2 {k1 k2 : IntKind} {a b a' b' : Int} (h1 : a = a') (h2 : b = b') : Ending.returned (.tuple #[.int k1 a, .int k2 b]) = .returned (.tuple #[.int k1 a', .int k2 b']) := by rw [h1, h2]
/-- What readNumber answers is in bounds. -/
theorem rdN_bounds (bs : List Int) : ∀ (f : Bool) (n i : Nat), n ≤ 144115188075855871 → (rdN f n i bs).1 < 2 ^ 64 ∧ (rdN f n i bs).2.1 ≤ i + bs.length := by
  induction bs with
  | nil => intro f n i _; simp [rdN]
  | cons c r ih =>
    intro f n i hn
    rw [rdN]
    split
    · simp
    · split
      · simp; omega
      · split
        · simp
        · rename_i h1 h2 h3
          have := ih false (n * 128 + c.toNat % 128) (i + 1) (by omega)
          simp only [List.length_cons]; omega
theorem rdN_err (bs : List Int) : ∀ (f : Bool) (n i : Nat), (rdN f n i bs).2.2 = 0 ∨ (rdN f n i bs).2.2 = 3 ∨ (rdN f n i bs).2.2 = 10 ∨ (rdN f n i bs).2.2 = 11 := by
  induction bs with
  | nil => intro f n i; simp [rdN]
  | cons c r ih =>
    intro f n i
    rw [rdN]
    split
    · simp
    · split
      · simp
      · split
        · simp
        · exact ih _ _ _

/-- What readSigned answers. -/
def rdS : List Int → Int × Nat × Int
  | [] => (0, 0, 3)
  | c :: r => if c = 43 ∨ c = 45 then (if (rdN true 0 0 r).2.2 = 0 then ((wS c (rdN true 0 0 r).1).1, 1 + (rdN true 0 0 r).2.1, (wS c (rdN true 0 0 r).1).2) else (0, 0, (rdN true 0 0 r).2.2)) else (0, 0, 10)
theorem retS {k1 k2 k3 : IntKind} {a b c : Int} {R : Int × Nat × Int} (h : R = (a, b.toNat, c)) (hb : 0 ≤ b) :
    Ending.returned (.tuple #[.int k1 a, .int k2 b, .int k3 c]) = .returned (.tuple #[.int k1 R.1, .int k2 R.2.1, .int k3 R.2.2]) := by
  rw [h]; simp; omega

/-- What readText answers. -/
def rdT (most : Nat) (bs : List Int) : List Int × Nat × Int :=
  if (rdN true 0 0 bs).2.2 = 0 then
    (if most < (rdN true 0 0 bs).1 then ([], 0, 1) else if (bs.drop (rdN true 0 0 bs).2.1).length < (rdN true 0 0 bs).1 then ([], 0, 3)
      else ((bs.drop (rdN true 0 0 bs).2.1).take (rdN true 0 0 bs).1, (rdN true 0 0 bs).2.1 + (rdN true 0 0 bs).1, 0))
  else ([], 0, (rdN true 0 0 bs).2.2)
theorem strOf_nil : strOfNums [] = ⟨#[]⟩ := rfl
theorem retT {k2 k3 : IntKind} {s : ByteArray} {b c : Int} {R : List Int × Nat × Int} {l : List Int} (h : R = (l, b.toNat, c)) (hs : strOfNums l = s) (hb : 0 ≤ b) :
    Ending.returned (.tuple #[.string s, .int k2 b, .int k3 c]) = .returned (.tuple #[.string (strOfNums R.1), .int k2 R.2.1, .int k3 R.2.2]) := by
  rw [h]; simp; exact ⟨hs.symm, by omega⟩
set_option maxRecDepth 100000 in
set_option maxHeartbeats 1000000 in
theorem readText_any (most : Nat) (bs : List Int) (v : Value) (w : World) (hm : most < 2 ^ 63) (hby : IsBytes bs) (hlen : bs.length ≤ 1000000000) (hb : Bts w v bs) :
    Calls Tryz.prog 119 #[v, .int .u64 most] w fun e w' => e = .returned (.tuple #[.string (strOfNums (rdT most bs).1), .int .i64 (rdT most bs).2.1, .int .i64 (rdT most bs).2.2]) ∧ w' = w := by
  have h2 := readNumber_any bs v w hby hlen hb
  have hbd := rdN_bounds bs true 0 0 (by omega)
  have her := rdN_err bs true 0 0
  have HS : Hid (_ = _) := rdT.eq_def most bs
  generalize rdN true 0 0 bs = R at h2 hbd her HS
  obtain ⟨m, sz, er⟩ := R
  simp only at h2 hbd her HS
  by_cases he : er = 0
  · replace HS : Hid (_ = _) := HS.out.trans (if_pos he)
    clear her
    subst he
    by_cases hmo : most < m
    · replace HS : Hid (_ = _) := HS.out.trans (if_pos hmo)
      go_enter Tryz.func119, Tryz.ntmps119
      go_wp2_with (go_at_call 104; refine h2.mono ?_; rintro e w1 ⟨rfl, hw1⟩; subst w1)
      go_ret3
      exact ⟨retT HS.out rfl (by omega), rfl⟩
    · replace HS : Hid (_ = _) := HS.out.trans (if_neg hmo)
      obtain ⟨v2, hrun, hb2, _⟩ := slice_from hb sz (by omega)
      have hlen2 := len_bts hb2
      have hdl : (bs.drop sz).length ≤ 1000000000 := by simp; omega
      generalize bs.drop sz = ds at hb2 hlen2 hdl HS
      by_cases hsh : ds.length < m
      · replace HS : Hid (_ = _) := HS.out.trans (if_pos hsh)
        go_enter Tryz.func119, Tryz.ntmps119
        go_wp2_with (go_at_call 104; refine h2.mono ?_; rintro e w1 ⟨rfl, hw1⟩; subst w1)
        go_ret3
        exact ⟨retT HS.out rfl (by omega), rfl⟩
      · replace HS : Hid (_ = _) := HS.out.trans (if_neg hsh)
        obtain ⟨v3, hrun3, hb3⟩ := slice_to hb2 m (by omega)
        have hstr := conv_str hb3
        go_enter Tryz.func119, Tryz.ntmps119
        go_wp2_with (go_at_call 104; refine h2.mono ?_; rintro e w1 ⟨rfl, hw1⟩; subst w1)
        go_ret3
        exact ⟨retT (HS.out.trans (by simp; omega)) rfl (by omega), rfl⟩
  · replace HS : Hid (_ = _) := HS.out.trans (if_neg he)
    have hee : (er == 0) = false := by simpa using he
    clear her
    go_enter Tryz.func119, Tryz.ntmps119
    go_wp2_with (go_at_call 104; refine h2.mono ?_; rintro e w1 ⟨rfl, hw1⟩; subst w1)
    go_ret3
    exact ⟨retT HS.out rfl (by omega), rfl⟩
end Go.Proofs.YtdobleekjiehdaaGreat
