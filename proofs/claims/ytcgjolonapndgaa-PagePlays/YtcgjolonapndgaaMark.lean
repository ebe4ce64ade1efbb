/- The contracts of quill's mark (markByte, Mark) and of the document's own (Crc). -/
import Derived.Test.YtcgjolonapndgaaForm
import Derived.Test.YtcgjolonapndgaaBytes
namespace Go.Proofs.Ytcgjolonapndgaa
open Go.RowKit Go.Maps Go.ChangeMaps Go.MapKept
theorem wrap_u32 (z : Int) (h0 : 0 ≤ z) (h1 : z < 2 ^ 32) : IntKind.u32.wrap z = z := by
  simp only [IntKind.wrap, IntKind.bits, IntKind.signed]
  simp
  omega
theorem bits_xor_u32 (a b : Nat) (ha : a < 2 ^ 32) (hb : b < 2 ^ 32) : bits .xor .u32 (a : Int) (b : Int) = ((a ^^^ b : Nat) : Int) := by
  have ha' : a % 2 ^ IntKind.u32.bits = a := Nat.mod_eq_of_lt ha
  have hb' : b % 2 ^ IntKind.u32.bits = b := Nat.mod_eq_of_lt hb
  have h := Nat.xor_lt_two_pow ha hb
  simp only [bits, BitVec.ofInt_natCast, BitVec.toNat_xor, BitVec.toNat_ofNat, ha', hb']
  exact wrap_u32 _ (by omega) (by omega)
theorem bits_and1_u32 (a : Nat) (ha : a < 2 ^ 32) : bits .and .u32 (a : Int) 1 = ((a % 2 : Nat) : Int) := by
  have h1 := bits_mask .u32 32 (by decide) wrap_u32 1 (by decide) a (by omega) (by omega)
  rw [show ((2 : Int) ^ 1 - 1) = 1 from rfl, show ((2 : Int) ^ 1) = 2 from rfl] at h1
  rw [h1]; omega

set_option maxRecDepth 100000 in
set_option maxHeartbeats 1000000 in
theorem markByte_any (m : Nat) (c : Int) (w : World) (hm : m < 2 ^ 32) (hc : 0 ≤ c ∧ c < 256) :
    Calls Try.prog 55 #[.int .u32 m, .int .u8 c] w fun e w' => e = .returned (.int .u32 (mbyte m c)) ∧ w' = w := by
  obtain ⟨d, rfl⟩ : ∃ d : Nat, c = d := ⟨c.toNat, by omega⟩
  have hx := bits_xor_u32 m d hm (by omega)
  have hxl : m ^^^ d < 2 ^ 32 := Nat.xor_lt_two_pow hm (by omega)
  unfold mbyte
  rw [Int.toNat_natCast]
  generalize m ^^^ d = x at hx hxl
  go_enter Try.func55, Try.ntmps55
  go_wp2
  go_loop [0, 10] (fun y i => ∃ k : Nat, k ≤ 8 ∧ i = .int .i64 k ∧ y = .int .u32 (miter k x)) (fun _ i => 8 - (intOf i).toNat)
  case atStart => exact ⟨0, by omega, rfl, rfl⟩
  case round =>
    obtain ⟨k, hk, rfl, rfl⟩ := hrel
    by_cases hlt : k < 8
    · have hy := miter_lt k x hxl
      have hs : Hid (miter (k + 1) x = mstep (miter k x)) := rfl
      generalize miter k x = y at hy hs
      have ha := bits_and1_u32 y hy
      have hX := bits_xor_u32 (y / 2) 3945912366 (by omega) (by decide)
      by_cases hod : y % 2 = 1
      · have hst : mstep y = (y / 2) ^^^ 3945912366 := by unfold mstep; rw [if_pos hod]
        rw [hod] at ha
        have hX' : bits .xor .u32 ((y : Int) / 2) 3945912366 = ((mstep y : Nat) : Int) := by rw [hst, ← hX]; rfl
        clear hX hst
        go_wp2
        go_round
        case rel => exact ⟨k + 1, by omega, by go_num, by rw [hs.out]⟩
        case measure => simp [intOf]; omega
      · have hst : mstep y = y / 2 := by unfold mstep; rw [if_neg hod]
        rw [show y % 2 = 0 by omega] at ha
        replace hst : Hid _ := hst
        clear hX
        go_wp2
        go_round
        case rel => exact ⟨k + 1, by omega, by go_num, by rw [hs.out, hst.out]; go_num⟩
        case measure => simp [intOf]; omega
    · obtain rfl : k = 8 := by omega
      go_wp2
      go_ret
      exact ⟨rfl, rfl⟩

set_option maxRecDepth 100000 in
set_option maxHeartbeats 2000000 in
theorem mark_some (ls : List (List Int)) (b o c : Nat) (w : World) (hby : ∀ p ∈ ls, IsBytes p) (hl : ∀ p ∈ ls, p.length ≤ 1000000000) (hlen : ls.length ≤ 1000)
    (hcell : ∀ t, t < ls.length → ∃ v, w.cell? ⟨b, o + t, none⟩ = some v ∧ Bts w v (ls.getD t [])) :
    Calls Try.prog 37 #[.slice (some ⟨b, o, none⟩) ls.length c] w fun e w' => e = .returned (.int .u32 (mfold 4294967295 ls.flatten)) ∧ w' = w := by
  go_enter Try.func37, Try.ntmps37
  go_wp2
  go_loop [3, 10] (fun x i => ∃ k : Nat, k ≤ ls.length ∧ i = .int .i64 k ∧ x = .int .u32 (mfold 4294967295 (ls.take k).flatten)) (fun _ i => ls.length - (intOf i).toNat)
  case atStart => exact ⟨0, Nat.zero_le _, rfl, rfl⟩
  case round =>
    obtain ⟨k, hk, rfl, rfl⟩ := hrel
    by_cases hlt : k < ls.length
    · obtain ⟨v, hv, hb⟩ := hcell k hlt
      have hpb := hby _ (getD_mem ls [] k hlt)
      have hpl := hl _ (getD_mem ls [] k hlt)
      have HF : Hid (mfold 4294967295 (ls.take (k + 1)).flatten = mfold (mfold 4294967295 (ls.take k).flatten) (ls.getD k [])) := by
        show _ = _
        rw [flatten_take ls k hlt, mfold_append]
      have hM := mfold_lt (ls.take k).flatten (isBytes_flatten ls hby k) 4294967295 (by decide)
      generalize ls.getD k [] = p at hb hpb hpl HF
      generalize mfold 4294967295 (ls.take k).flatten = M at hM HF
      clear hcell hby hl
      obtain ⟨a, c2, rfl, hn, hbs⟩ := hb
      rcases hbs with rfl | ⟨b2, o2, rfl, hr⟩
      · go_wp2
        refine wp_loop_rounds 1 ?_
        rw [rounds_succ]
        go_wp2
        go_round
        case rel => exact ⟨k + 1, by omega, by go_num, by rw [HF.out]; rfl⟩
        case measure => simp [intOf]; omega
      · go_wp2
        go_loop [3, 16] (fun x i => ∃ j : Nat, j ≤ p.length ∧ i = .int .i64 j ∧ x = .int .u32 (mfold M (p.take j))) (fun _ i => p.length - (intOf i).toNat)
        case atStart => exact ⟨0, Nat.zero_le _, rfl, rfl⟩
        case round =>
          obtain ⟨j, hj, rfl, rfl⟩ := hrel
          by_cases hjl : j < p.length
          · have hc : w.cell? ⟨b2, o2 + j, none⟩ = some (.int .u8 (p.getD j 0)) := hr j (Nat.zero_le _) hjl
            have hcb := hpb _ (getD_mem p 0 j hjl)
            have HT : Hid (mfold M (p.take (j + 1)) = mbyte (mfold M (p.take j)) (p.getD j 0)) := mfold_take M p j hjl
            have hY := mfold_lt (p.take j) (hpb.take j) M hM
            generalize p.getD j 0 = x at hc hcb HT
            generalize mfold M (p.take j) = Y at hY HT
            go_wp2_with (go_at_call 55; refine (markByte_any Y x _ hY hcb).mono ?_; rintro e w' ⟨rfl, hw'⟩; subst w')
            go_round
            case rel => exact ⟨j + 1, by omega, by go_num, by rw [HT.out]⟩
            case measure => simp [intOf]; omega
          · obtain rfl : j = p.length := by omega
            rw [List.take_of_length_le (Nat.le_refl _)]
            go_wp2
            go_round
            case rel => exact ⟨k + 1, by omega, by go_num, by rw [HF.out]⟩
            case measure => simp [intOf]; omega
    · obtain rfl : k = ls.length := by omega
      rw [List.take_of_length_le (Nat.le_refl _)]
      go_wp2
      go_ret
      exact ⟨rfl, rfl⟩
theorem cell_of_heap {W : World} {g i : Nat} {C : Array Value} {e : TypeId} {fr : Nat × Nat} (h : W.heap[g]? = some (.cells C e fr)) : W.cell? ⟨g, i, none⟩ = C[i]? := by
  simp [World.cell?, h]
/-- quill.Mark of slices that lie, side by side, in a new block. -/
theorem mark_alloc (vs : List Value) (ls : List (List Int)) (w : World) (hv : vs.length = ls.length) (hby : ∀ p ∈ ls, IsBytes p) (hl : ∀ p ∈ ls, p.length ≤ 1000000000) (hlen : ls.length ≤ 1000) (hb : ∀ t, t < ls.length → Bts w (vs.getD t undef) (ls.getD t []))
    (C : Array Value) (hC : C = vs.toArray) (n : Nat) (hn : n = ls.length) (M : Nat) (hM : mfold 4294967295 ls.flatten = M) :
    Calls Try.prog 37 #[.slice (some ⟨w.heap.size, 0, none⟩) n n] (w.alloc (.cells C 23)) fun e w' => e = .returned (.int .u32 M) ∧ w' = w.alloc (.cells C 23) := by
  subst hC hn hM
  refine mark_some ls w.heap.size 0 ls.length _ hby hl hlen (fun t ht => ⟨vs.getD t undef, ?_, (hb t ht).alloc _⟩)
  have h1 : (w.alloc (.cells vs.toArray 23)).heap[w.heap.size]? = some (.cells vs.toArray 23) := heap_alloc_new w _
  rw [cell_of_heap h1]
  simp [show t < vs.length by omega]

/-- The same, of a world that is a letter. -/
theorem mark_at {w : World} (vs : List Value) (ls : List (List Int)) (hv : vs.length = ls.length) (hby : ∀ p ∈ ls, IsBytes p) (hl : ∀ p ∈ ls, p.length ≤ 1000000000) (hlen : ls.length ≤ 1000) (hb : ∀ t, t < ls.length → Bts w (vs.getD t undef) (ls.getD t []))
    (n : Nat) (hn : n = ls.length) (M : Nat) (hM : mfold 4294967295 ls.flatten = M) :
    ∀ (W : World) (g : Nat), W.heap[g]? = some (.cells vs.toArray 23 (0, 0)) → Below w.heap.size w W → Calls Try.prog 37 #[.slice (some ⟨g, 0, none⟩) n n] W fun e w' => e = .returned (.int .u32 M) ∧ w' = W := by
  subst hn hM
  intro W g hg hW
  refine mark_some ls g 0 ls.length W hby hl hlen (fun t ht => ⟨vs.getD t undef, ?_, (hb t ht).grow hW⟩)
  rw [cell_of_heap hg]
  simp [show t < vs.length by omega]
/-- One bit's step of the document's mark: e is the byte, its lower bits gone. -/
def cstep (c e : Nat) : Nat := if (c ^^^ e) % 2 = 1 then (c / 2) ^^^ 3945912366 else c / 2
def citer (d : Nat) : Nat → Nat → Nat
  | 0, c => c
  | k + 1, c => cstep (citer d k c) (d / 2 ^ k)
theorem cstep_lt (c e : Nat) (h : c < 2 ^ 32) : cstep c e < 2 ^ 32 := by
  unfold cstep
  split
  · exact Nat.xor_lt_two_pow (by omega) (by decide)
  · omega
theorem citer_lt (d k c : Nat) (h : c < 2 ^ 32) : citer d k c < 2 ^ 32 := by
  induction k with
  | zero => exact h
  | succ k ih => exact cstep_lt _ _ ih
theorem citer_miter (d c : Nat) : ∀ k, miter k (c ^^^ d) = citer d k c ^^^ (d / 2 ^ k) := by
  intro k
  induction k with
  | zero => simp [miter, citer]
  | succ k ih =>
    rw [miter, ih, citer]
    generalize citer d k c = x
    have hd : d / 2 ^ (k + 1) = d / 2 ^ k / 2 := by rw [Nat.pow_succ, Nat.div_div_eq_div_mul]
    rw [hd]
    generalize d / 2 ^ k = e
    unfold mstep cstep
    split
    · rw [xor_div2, Nat.xor_assoc, Nat.xor_comm (e / 2), ← Nat.xor_assoc]
    · rw [xor_div2]
theorem citer_mbyte (c d : Nat) (hd : d < 256) : citer d 8 c = mbyte c d := by
  unfold mbyte
  rw [Int.toNat_natCast, citer_miter d c 8, Nat.div_eq_of_lt (by omega : d < 2 ^ 8), Nat.xor_zero]
theorem shr_u32 (d k : Nat) : ((d : Int) / 2 ^ k) = ((d / 2 ^ k : Nat) : Int) := by push_cast; rfl
theorem crc_bit (c e : Nat) (hc : c < 2 ^ 32) (he : e < 2 ^ 32) : bits .and .u32 (bits .xor .u32 (c : Int) (e : Int)) 1 = (((c ^^^ e) % 2 : Nat) : Int) := by
  rw [bits_xor_u32 c e hc he]
  exact bits_and1_u32 _ (Nat.xor_lt_two_pow hc he)

set_option maxRecDepth 100000 in
set_option maxHeartbeats 2000000 in
theorem crc_some (bs : List Int) (b o cp : Nat) (w : World) (hby : IsBytes bs) (hlen : bs.length ≤ 1000000000) (hcell : Rest w 0 bs.length b o fun t => .int .u8 (bs.getD t 0)) :
    Calls Try.prog 38 #[.slice (some ⟨b, o, none⟩) bs.length cp] w fun e w' => e = .returned (.int .u32 (mfold 4294967295 bs)) ∧ w' = w := by
  go_enter Try.func38, Try.ntmps38
  go_wp2
  go_loop [3, 4] (fun x i => ∃ k : Nat, k ≤ bs.length ∧ i = .int .i64 k ∧ x = .int .u32 (mfold 4294967295 (bs.take k))) (fun _ i => bs.length - (intOf i).toNat)
  case atStart => exact ⟨0, Nat.zero_le _, rfl, rfl⟩
  case round =>
    obtain ⟨k, hk, rfl, rfl⟩ := hrel
    by_cases hlt : k < bs.length
    · have hc : w.cell? ⟨b, o + k, none⟩ = some (.int .u8 (bs.getD k 0)) := hcell k (Nat.zero_le _) hlt
      have hcb := hby _ (getD_mem bs 0 k hlt)
      have HT : Hid (mfold 4294967295 (bs.take (k + 1)) = mbyte (mfold 4294967295 (bs.take k)) (bs.getD k 0)) := mfold_take 4294967295 bs k hlt
      have hY := mfold_lt (bs.take k) (hby.take k) 4294967295 (by decide)
      generalize bs.getD k 0 = x at hc hcb HT
      generalize mfold 4294967295 (bs.take k) = Y at hY HT
      obtain ⟨d, rfl⟩ : ∃ d : Nat, x = d := ⟨x.toNat, by omega⟩
      clear hby hcell
      go_wp2
      go_loop [3, 5] (fun x i => ∃ j : Nat, j ≤ 8 ∧ i = .int .i64 j ∧ x = .int .u32 (citer d j Y)) (fun _ i => 8 - (intOf i).toNat)
      case atStart => exact ⟨0, by omega, rfl, rfl⟩
      case round =>
        obtain ⟨j, hj, rfl, rfl⟩ := hrel
        by_cases hj8 : j < 8
        · have hy := citer_lt d j Y hY
          have hs : Hid (citer d (j + 1) Y = cstep (citer d j Y) (d / 2 ^ j)) := rfl
          generalize citer d j Y = y at hy hs
          have hsh := shr_u32 d j
          have he : d / 2 ^ j < 2 ^ 32 := Nat.lt_of_le_of_lt (Nat.div_le_self _ _) (by omega)
          generalize d / 2 ^ j = e at hsh he hs
          have hbit := crc_bit y e hy he
          have hX := bits_xor_u32 (y / 2) 3945912366 (by omega) (by decide)
          by_cases hod : (y ^^^ e) % 2 = 1
          · have hst : cstep y e = (y / 2) ^^^ 3945912366 := by unfold cstep; rw [if_pos hod]
            rw [hod] at hbit
            have hX' : bits .xor .u32 ((y : Int) / 2) 3945912366 = ((cstep y e : Nat) : Int) := by rw [hst, ← hX]; rfl
            clear hX hst hod
            go_wp2
            go_round
            case rel => exact ⟨j + 1, by omega, by go_num, by rw [hs.out]⟩
            case measure => simp [intOf]; omega
          · have hst : cstep y e = y / 2 := by unfold cstep; rw [if_neg hod]
            rw [show (y ^^^ e) % 2 = 0 by omega] at hbit
            replace hst : Hid _ := hst
            clear hX hod
            go_wp2
            go_round
            case rel => exact ⟨j + 1, by omega, by go_num, by rw [hs.out, hst.out]; go_num⟩
            case measure => simp [intOf]; omega
        · obtain rfl : j = 8 := by omega
          rw [citer_mbyte Y d (by omega)]
          go_wp2
          go_round
          case rel => exact ⟨k + 1, by omega, by go_num, by rw [HT.out]⟩
          case measure => simp [intOf]; omega
    · obtain rfl : k = bs.length := by omega
      rw [List.take_of_length_le (Nat.le_refl _)]
      go_wp2
      go_ret
      exact ⟨rfl, rfl⟩

set_option maxRecDepth 100000 in
theorem crc_none (a : Option Addr) (c : Nat) (w : World) : Calls Try.prog 38 #[.slice a 0 c] w fun e w' => e = .returned (.int .u32 4294967295) ∧ w' = w := by
  go_enter Try.func38, Try.ntmps38
  go_wp2
  refine wp_loop_rounds 1 ?_
  rw [rounds_succ]
  go_wp2
  go_ret
  exact ⟨rfl, rfl⟩
theorem crc_any (bs : List Int) (v : Value) (w : World) (hby : IsBytes bs) (hlen : bs.length ≤ 1000000000) (hb : Bts w v bs) : Calls Try.prog 38 #[v] w fun e w' => e = .returned (.int .u32 (mfold 4294967295 bs)) ∧ w' = w := by
  obtain ⟨a, c, rfl, _, h⟩ := hb
  rcases h with rfl | ⟨b, o, rfl, hr⟩
  · exact crc_none a c w
  · exact crc_some bs b o c w hby hlen hr
end Go.Proofs.Ytcgjolonapndgaa
