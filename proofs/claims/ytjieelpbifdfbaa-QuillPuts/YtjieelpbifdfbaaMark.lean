/- The mark of bytes: its mathematics, and the contracts of markByte and quill.Mark. -/
import Derived.Test.YtjieelpbifdfbaaStrip
namespace Go.Proofs.Ytjieelpbifdfbaa
open Go.RowKit
/-- One bit's step. -/
def mstep (m : Nat) : Nat := if m % 2 = 1 then (m / 2) ^^^ 3945912366 else m / 2
def miter : Nat → Nat → Nat
  | 0, m => m
  | k + 1, m => mstep (miter k m)
/-- One byte's step. -/
def mbyte (m : Nat) (c : Int) : Nat := miter 8 (m ^^^ c.toNat)
def mfold (m : Nat) (bs : List Int) : Nat := bs.foldl mbyte m
theorem mstep_lt (m : Nat) (h : m < 2 ^ 32) : mstep m < 2 ^ 32 := by
  unfold mstep
  split
  · exact Nat.xor_lt_two_pow (by omega) (by decide)
  · omega
theorem miter_lt (k m : Nat) (h : m < 2 ^ 32) : miter k m < 2 ^ 32 := by
  induction k with
  | zero => exact h
  | succ k ih => exact mstep_lt _ ih
theorem mbyte_lt (m : Nat) (c : Int) (h : m < 2 ^ 32) (hc : c < 256) : mbyte m c < 2 ^ 32 := miter_lt _ _ (Nat.xor_lt_two_pow h (by omega))
theorem mfold_lt (bs : List Int) (hby : IsBytes bs) : ∀ m, m < 2 ^ 32 → mfold m bs < 2 ^ 32 := by
  induction bs with
  | nil => intro m h; exact h
  | cons c r ih => intro m h; exact ih (fun x hx => hby x (by simp [hx])) _ (mbyte_lt m c h (hby c (by simp)).2)

theorem wrap_u32 (z : Int) (h0 : 0 ≤ z) (h1 : z < 2 ^ 32) : IntKind.u32.wrap z = z := by
  simp only [IntKind.wrap, IntKind.bits, IntKind.signed]
  simp
  omega
theorem bits_xor_u32 (a b : Nat) (ha : a < 2 ^ 32) (hb : b < 2 ^ 32) : bits .xor .u32 (a : Int) (b : Int) = ((a ^^^ b : Nat) : Int) := by
  have ha' : a % 2 ^ IntKind.u32.bits = a := Nat.mod_eq_of_lt ha
  have hb' : b % 2 ^ IntKind.u32.bits = b := Nat.mod_eq_of_lt hb
  have h := Nat.xor_lt_two_pow ha hb
  simp only [bits, BitVec.ofInt_natCast, BitVec.toNat_xor, BitVec.toNat_ofNat, ha', hb']
  exact wrap_u32 _ (by omega) (by omega)
theorem bits_and1_u32 (a : Nat) (ha : a < 2 ^ 32) : bits .and .u32 (a : Int) 1 = ((a % 2 : Nat) : Int) := by
  have h1 := bits_mask .u32 32 (by decide) wrap_u32 1 (by decide) a (by omega) (by omega)
  rw [show ((2 : Int) ^ 1 - 1) = 1 from rfl, show ((2 : Int) ^ 1) = 2 from rfl] at h1
  rw [h1]; omega

set_option maxRecDepth 100000 in
set_option maxHeartbeats 1000000 in
theorem markByte_any (m : Nat) (c : Int) (w : World) (hm : m < 2 ^ 32) (hc : 0 ≤ c ∧ c < 256) :
    Calls Try.prog 38 #[.int .u32 m, .int .u8 c] w fun e w' => e = .returned (.int .u32 (mbyte m c)) ∧ w' = w := by
  obtain ⟨d, rfl⟩ : ∃ d : Nat, c = d := ⟨c.toNat, by omega⟩
  have hx := bits_xor_u32 m d hm (by omega)
  have hxl : m ^^^ d < 2 ^ 32 := Nat.xor_lt_two_pow hm (by omega)
  unfold mbyte
  rw [Int.toNat_natCast]
  generalize m ^^^ d = x at hx hxl
  go_enter Try.func38, Try.ntmps38
  go_wp2
  go_loop [0, 10] (fun y i => ∃ k : Nat, k ≤ 8 ∧ i = .int .i64 k ∧ y = .int .u32 (miter k x)) (fun _ i => 8 - (intOf i).toNat)
  case atStart => exact ⟨0, by omega, rfl, rfl⟩
  case round =>
    obtain ⟨k, hk, rfl, rfl⟩ := hrel
    by_cases hlt : k < 8
    · have hy := miter_lt k x hxl
      have hs : Hid (miter (k + 1) x = mstep (miter k x)) := rfl
      generalize miter k x = y at hy hs
      have ha := bits_and1_u32 y hy
      have hX := bits_xor_u32 (y / 2) 3945912366 (by omega) (by decide)
      by_cases hod : y % 2 = 1
      · have hst : mstep y = (y / 2) ^^^ 3945912366 := by unfold mstep; rw [if_pos hod]
        rw [hod] at ha
        have hX' : bits .xor .u32 ((y : Int) / 2) 3945912366 = ((mstep y : Nat) : Int) := by rw [hst, ← hX]; rfl
        clear hX hst
        go_wp2
        go_round
        case rel => exact ⟨k + 1, by omega, by go_num, by rw [hs.out]⟩
        case measure => simp [intOf]; omega
      · have hst : mstep y = y / 2 := by unfold mstep; rw [if_neg hod]
        rw [show y % 2 = 0 by omega] at ha
        replace hst : Hid _ := hst
        clear hX
        go_wp2
        go_round
        case rel => exact ⟨k + 1, by omega, by go_num, by rw [hs.out, hst.out]; go_num⟩
        case measure => simp [intOf]; omega
    · obtain rfl : k = 8 := by omega
      go_wp2
      go_ret
      exact ⟨rfl, rfl⟩

theorem mfold_append (m : Nat) (a b : List Int) : mfold m (a ++ b) = mfold (mfold m a) b := by simp [mfold]
theorem mfold_take (m : Nat) (bs : List Int) (k : Nat) (h : k < bs.length) : mfold m (bs.take (k + 1)) = mbyte (mfold m (bs.take k)) (bs.getD k 0) := by
  rw [List.take_succ_eq_append_getElem h, mfold_append]; simp [mfold, h]
theorem IsBytes.take {bs : List Int} (h : IsBytes bs) (k : Nat) : IsBytes (bs.take k) := fun c hc => h c (List.mem_of_mem_take hc)
theorem flatten_take (ls : List (List Int)) (k : Nat) (h : k < ls.length) : (ls.take (k + 1)).flatten = (ls.take k).flatten ++ ls.getD k [] := by
  rw [List.take_succ_eq_append_getElem h, List.flatten_append, List.getD_eq_getElem?_getD, List.getElem?_eq_getElem h]
  simp only [List.flatten_cons, List.flatten_nil, List.append_nil, Option.getD_some]
theorem isBytes_flatten (ls : List (List Int)) (h : ∀ p ∈ ls, IsBytes p) (k : Nat) : IsBytes (ls.take k).flatten := by
  intro c hc
  obtain ⟨p, hp, hcp⟩ := List.mem_flatten.1 hc
  exact h p (List.mem_of_mem_take hp) c hcp

set_option maxRecDepth 100000 in
set_option maxHeartbeats 2000000 in
theorem mark_some (ls : List (List Int)) (b o c : Nat) (w : World) (hby : ∀ p ∈ ls, IsBytes p) (hl : ∀ p ∈ ls, p.length ≤ 1000000000) (hlen : ls.length ≤ 1000)
    (hcell : ∀ t, t < ls.length → ∃ v, w.cell? ⟨b, o + t, none⟩ = some v ∧ Bts w v (ls.getD t [])) :
    Calls Try.prog 17 #[.slice (some ⟨b, o, none⟩) ls.length c] w fun e w' => e = .returned (.int .u32 (mfold 4294967295 ls.flatten)) ∧ w' = w := by
  go_enter Try.func17, Try.ntmps17
  go_wp2
  go_loop [3, 10] (fun x i => ∃ k : Nat, k ≤ ls.length ∧ i = .int .i64 k ∧ x = .int .u32 (mfold 4294967295 (ls.take k).flatten)) (fun _ i => ls.length - (intOf i).toNat)
  case atStart => exact ⟨0, Nat.zero_le _, rfl, rfl⟩
  case round =>
    obtain ⟨k, hk, rfl, rfl⟩ := hrel
    by_cases hlt : k < ls.length
    · obtain ⟨v, hv, hb⟩ := hcell k hlt
      have hpb := hby _ (getD_mem ls [] k hlt)
      have hpl := hl _ (getD_mem ls [] k hlt)
      have HF : Hid (mfold 4294967295 (ls.take (k + 1)).flatten = mfold (mfold 4294967295 (ls.take k).flatten) (ls.getD k [])) := by
        show _ = _
        rw [flatten_take ls k hlt, mfold_append]
      have hM := mfold_lt (ls.take k).flatten (isBytes_flatten ls hby k) 4294967295 (by decide)
      generalize ls.getD k [] = p at hb hpb hpl HF
      generalize mfold 4294967295 (ls.take k).flatten = M at hM HF
      clear hcell hby hl
      obtain ⟨a, c2, rfl, hn, hbs⟩ := hb
      rcases hbs with rfl | ⟨b2, o2, rfl, hr⟩
      · go_wp2
        refine wp_loop_rounds 1 ?_
        rw [rounds_succ]
        go_wp2
        go_round
        case rel => exact ⟨k + 1, by omega, by go_num, by rw [HF.out]; rfl⟩
        case measure => simp [intOf]; omega
      · go_wp2
        go_loop [3, 16] (fun x i => ∃ j : Nat, j ≤ p.length ∧ i = .int .i64 j ∧ x = .int .u32 (mfold M (p.take j))) (fun _ i => p.length - (intOf i).toNat)
        case atStart => exact ⟨0, Nat.zero_le _, rfl, rfl⟩
        case round =>
          obtain ⟨j, hj, rfl, rfl⟩ := hrel
          by_cases hjl : j < p.length
          · have hc : w.cell? ⟨b2, o2 + j, none⟩ = some (.int .u8 (p.getD j 0)) := hr j (Nat.zero_le _) hjl
            have hcb := hpb _ (getD_mem p 0 j hjl)
            have HT : Hid (mfold M (p.take (j + 1)) = mbyte (mfold M (p.take j)) (p.getD j 0)) := mfold_take M p j hjl
            have hY := mfold_lt (p.take j) (hpb.take j) M hM
            generalize p.getD j 0 = x at hc hcb HT
            generalize mfold M (p.take j) = Y at hY HT
            go_wp2_with (go_at_call 38; refine (markByte_any Y x _ hY hcb).mono ?_; rintro e w' ⟨rfl, hw'⟩; subst w')
            go_round
            case rel => exact ⟨j + 1, by omega, by go_num, by rw [HT.out]⟩
            case measure => simp [intOf]; omega
          · obtain rfl : j = p.length := by omega
            rw [List.take_of_length_le (Nat.le_refl _)]
            go_wp2
            go_round
            case rel => exact ⟨k + 1, by omega, by go_num, by rw [HF.out]⟩
            case measure => simp [intOf]; omega
    · obtain rfl : k = ls.length := by omega
      rw [List.take_of_length_le (Nat.le_refl _)]
      go_wp2
      go_ret
      exact ⟨rfl, rfl⟩
end Go.Proofs.Ytjieelpbifdfbaa
