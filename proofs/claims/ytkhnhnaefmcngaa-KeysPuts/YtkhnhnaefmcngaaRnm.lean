/- The contracts of the document's needs, number and text. -/
import Derived.Test.YtkhnhnaefmcngaaArg
import Derived.Lib.AppendZeros
import Derived.Laws.CopyRow
namespace Go.Proofs.Ytkhnhnaefmcngaa
set_option linter.unusedVariables false
open Go.RowKit
def zeros (n : Nat) : List Int := List.replicate n 0
theorem zeroCells_eq (n : Nat) : Builtin.zeroCells #[Value.int .u8 0] n = ((zeros n).map (Value.int .u8)).toArray := by
  apply Array.ext_getElem?
  intro i
  by_cases hi : i < n
  · simp [Builtin.zeroCells, zeros, hi, Nat.mod_one]
  · simp [Builtin.zeroCells, zeros, hi]
theorem run_zeros_room {w : World} (g sLen sCap m : Nat) (cur : Array Value) (hg : w.heap[g]? = some (.cells cur 5 (0, 0))) (hroom : sLen + m ≤ sCap) (hfit : sLen + m ≤ cur.size) (hm : m ≤ 1000000) (ty : TypeId) :
    (Builtin.append_ #[47, 3] ty #[.slice (some ⟨g, 0, none⟩) sLen sCap, .int .i64 m]).run Try.prog w = .ok (.slice (some ⟨g, 0, none⟩) (sLen + m) sCap) (w.setRow g (cur.toList.take sLen ++ (zeros m).map (Value.int .u8) ++ cur.toList.drop (sLen + m)).toArray) := by
  obtain ⟨i, hi, hz0, hz1, hz2⟩ := info_parts info5
  have hw : IntKind.i64.wrap (m : Int) = m := by rw [IntKind.wrap_i64]; omega
  have hneg : ¬ ((m : Int) < 0) := by omega
  have h48i : ¬ (281474976710656 < (m : Int)) := by omega
  have hst := run_storeCells_at (P := Try.prog) g sLen 5 ((zeros m).map (Value.int .u8)) 0 cur w hg (by simp [zeros]; omega) (fun u hu => by obtain ⟨z, _, rfl⟩ := List.mem_map.1 hu; rfl)
  simp only [Nat.add_zero] at hst
  have hzl : ((zeros m).map (Value.int .u8)).length = m := by simp [zeros]
  rw [hzl] at hst
  by_cases h0 : m = 0
  · subst h0
    simp [zeros] at hst
    have hr0 : sLen ≤ sCap := by omega
    simp [Builtin.append_, run_underlying Try.underlying47, run_underlying Try.underlying3, sizeOf, typeInfo, hi, hz1, hz2, asInt, asIntOf, hr0, Addr.add_lit, hst, zeros, IntKind.wrap_i64]
  · have hze : (Builtin.zeroCells #[Value.int .u8 0] m).toList = (zeros m).map (Value.int .u8) := by rw [zeroCells_eq]
    simp [Builtin.append_, run_underlying Try.underlying47, run_underlying Try.underlying3, sizeOf, typeInfo, zeroValue, hi, hz0, hz1, hz2, asInt, asIntOf, hw, hneg, h48i, hroom, h0, Addr.add_lit, Value.cells, hze, hst]
theorem run_zeros_grow {w : World} (g sLen sCap m : Nat) (olds : List Value) (hlo : olds.length = sLen) (holds : ∀ j v, olds[j]? = some v → w.cell? ((⟨g, 0, none⟩ : Addr).add j) = some v) (hroom : sCap < sLen + m) (hsm : sLen + m ≤ 1000000) (hc : sLen ≤ sCap) (ty : TypeId) :
    (Builtin.append_ #[47, 3] ty #[.slice (some ⟨g, 0, none⟩) sLen sCap, .int .i64 m]).run Try.prog w = .ok (.slice (some ⟨w.heap.size, 0, none⟩) (sLen + m) (grownCap w (sLen + m) sCap 5))
        (w.drew.alloc (.cells (olds.toArray ++ ((zeros m).map (Value.int .u8)).toArray ++ Builtin.zeroCells #[Value.int .u8 0] (grownCap w (sLen + m) sCap 5 - (sLen + m))) 5)) := by
  obtain ⟨i, hi, hz0, hz1, hz2⟩ := info_parts info5
  have hw : IntKind.i64.wrap (m : Int) = m := by rw [IntKind.wrap_i64]; omega
  have hneg : ¬ ((m : Int) < 0) := by omega
  have h48i : ¬ (281474976710656 < (m : Int)) := by omega
  have hn : ¬ (sLen + m ≤ sCap) := by omega
  have h0 : m ≠ 0 := by omega
  have h63' : ¬ (9223372036854775807 < ((sLen : Int) + (m : Int))) := by omega
  have hgs := growslice_fits (old := sCap) (need := sLen + m) (bytes := 1) (by omega) (by omega)
  have h48' : ¬ (281474976710656 < Builtin.nextslicecap (sLen + m) sCap) := by omega
  have hfo := run_firstCells_some (P := Try.prog) w.drew 1 sLen ⟨g, 0, none⟩ sLen sCap olds (by omega) (by simpa using holds)
  simp [Builtin.append_, run_underlying Try.underlying47, run_underlying Try.underlying3, sizeOf, typeInfo, zeroValue, hi, hz0, hz1, hz2, asInt, asIntOf, hw, hneg, h48i, hn, h0, h63', h48', Question.forced, hfo, newRow, grownCap, Value.cells, zeroCells_eq]
/-- append(v, make([]byte, m)...), v not nil. -/
theorem run_zeros {w : World} {base : Nat} {v : Value} {xs : List Int} (hown : Own w base v xs) (hv : v ≠ .slice none 0 0) (m : Nat) (hlen : xs.length + m ≤ 1000000) (hbase : base ≤ w.heap.size) :
    ∃ v' w', (∀ ty, (Builtin.append_ #[47, 3] ty #[v, .int .i64 m]).run Try.prog w = .ok v' w') ∧ Own w' base v' (xs ++ zeros m) ∧ w.grownBy w' v.ownBlock ∧ v' ≠ .slice none 0 0 := by
  have hown' := hown
  obtain ⟨hl, h⟩ := hown
  rcases h with ⟨h, _⟩ | ⟨g, cap, cur, rfl, hbg, hg, hnc, hcm, hcs, htake⟩
  · exact absurd h hv
  have hxl : (xs ++ zeros m).length = xs.length + m := by simp [zeros]
  have hmap : (xs ++ zeros m).map (Value.int .u8) = xs.map (Value.int .u8) ++ (zeros m).map (Value.int .u8) := List.map_append
  have hzl : ((zeros m).map (Value.int .u8)).length = m := by simp [zeros]
  simp only [Nat.mul_one] at hcs htake
  by_cases hroom : xs.length + m ≤ cap
  · refine ⟨_, _, fun ty => run_zeros_room g xs.length cap m cur hg hroom (by omega) (by omega) ty, ?_, ⟨rfl, rfl, rfl, by simp, fun k _ hk => setRow_other w g k _ (fun e => hk (by simp [Value.ownBlock, e]))⟩, by simp⟩
    unfold Own
    rw [hxl]
    refine ⟨by simp [zeros], .inr ⟨g, cap, _, rfl, hbg, setRow_heap w g cur _ 5 _ hg, hroom, hcm, ?_, ?_⟩⟩
    · simp only [List.size_toArray, List.length_append, List.length_take, List.length_drop, Array.length_toList, hzl]
      omega
    · rw [htake, hmap]
      simp only [Nat.mul_one]
      rw [List.take_left' (by simp [zeros])]
  · have holds : ∀ j u, (xs.map (Value.int .u8))[j]? = some u → w.cell? ((⟨g, 0, none⟩ : Addr).add j) = some u := World.ownsRow.cells hown' rfl
    refine ⟨_, _, fun ty => run_zeros_grow g xs.length cap m (xs.map (Value.int .u8)) (by simp) holds (by omega) hlen hnc ty, ?_, ⟨rfl, rfl, rfl, by simp, fun k hk _ => heap_old w.drew _ hk⟩, by simp⟩
    unfold Own
    rw [hxl]
    have hge := grownCap_ge w (xs.length + m) cap 5
    refine ⟨by simp [zeros], .inr ⟨w.heap.size, _, _, rfl, hbase, heap_new w.drew _, hge, grownCap_le_maxLen w _ cap 5 (by unfold maxLen; omega), ?_, ?_⟩⟩
    · simp only [Array.size_append, List.size_toArray, size_zeroCells, List.length_map, hzl]
      simp
      omega
    · rw [hmap]
      simp only [Array.toList_append, Nat.mul_one, List.append_assoc]
      rw [← List.append_assoc, List.take_left' (by simp [zeros])]
/-- Block w.heap.size holds one byte: a slice of the call's own. -/
theorem own_one (w : World) (c : Int) (base : Nat) (h : base ≤ w.heap.size) : Own (w.alloc (.cells #[.int .u8 c] 5)) base (.slice (some ⟨w.heap.size, 0, none⟩) 1 1) [c] :=
  ⟨rfl, .inr ⟨w.heap.size, 1, #[.int .u8 c], rfl, h, heap_new _ _, Nat.le_refl _, by unfold maxLen; omega, rfl, rfl⟩⟩
set_option maxRecDepth 100000 in
set_option maxHeartbeats 1000000 in
theorem rneeds_any (m : Nat) (w : World) (hm : m < 2 ^ 63) : Calls Try.prog 32 #[.int .u64 m] w fun e w' => e = .returned (.int .i64 (needs m)) ∧ w' = w := by
  have h8 := needs_8 hm
  go_enter Try.func32, Try.ntmps32
  go_wp2
  go_loop [0, 3] (fun x y => ∃ c k : Nat, c < 2 ^ 63 ∧ x = .int .u64 (c : Int) ∧ y = .int .i64 (k : Int) ∧ Hid (k + needs c = needs m) ∧ k ≤ 8) (fun x _ => (intOf x).toNat)
  case atStart => exact ⟨m, 0, hm, rfl, rfl, Nat.zero_add _, by omega⟩
  case round =>
    obtain ⟨c, k, hc, rfl, rfl, hk, hk8⟩ := hrel
    by_cases h0 : 0 < c
    · have hci : (0 : Int) < (c : Int) := by omega
      have hst : Hid (k + 1 + needs (c / 256) = needs m) := by
        have := hk.out
        rw [needs_big c (by omega)] at this
        show _ = _
        omega
      have hk9 : k + 1 ≤ 8 := by have := hst.out; omega
      go_wp2
      go_round
      case rel => exact ⟨c / 256, k + 1, by omega, by go_num, by go_num, hst, hk9⟩
      case measure => simp [intOf]; omega
    · obtain rfl : c = 0 := by omega
      have hk2 : Hid (k = needs m) := by
        have := hk.out
        rw [needs_zero] at this
        exact this
      go_wp2
      go_ret
      exact ⟨by rw [← hk2.out]; rfl, rfl⟩
theorem comp_digit (P Q m : Nat) (hP : 0 < P) (hQ : 0 < Q) (hm : m < P * (256 * Q)) : ((P * (256 * Q) - 1 - m) / P) % 256 = 255 - (m / P) % 256 := by
  have h1 := Nat.div_add_mod m P
  have h2 := Nat.mod_lt m hP
  have h3 : m / P < 256 * Q := by rw [Nat.div_lt_iff_lt_mul hP, Nat.mul_comm]; exact hm
  have h4 : P * (m / P + 1) ≤ P * (256 * Q) := Nat.mul_le_mul_left _ h3
  rw [Nat.mul_add, Nat.mul_one] at h4
  have e : P * (256 * Q) - 1 - m = (P - 1 - m % P) + P * (256 * Q - 1 - m / P) := by
    rw [Nat.mul_sub, Nat.mul_sub, Nat.mul_one]
    omega
  rw [e, Nat.add_mul_div_left _ _ hP, Nat.div_eq_of_lt (by omega), Nat.zero_add]
  omega
/-- A number's byte, of the number that is told. -/
theorem digit_two {z : Int} (hz : I64 z) (i : Nat) (hi : i < needs (mag z)) : (two z / 256 ^ i) % 256 = if z < 0 then 255 - (mag z / 256 ^ i) % 256 else (mag z / 256 ^ i) % 256 := by
  by_cases hn : z < 0
  · rw [if_pos hn]
    have h8 := needs_mag hz
    have hm := mag_lt hz
    have e : two z = 2 ^ 64 - 1 - mag z := by
      obtain ⟨z1, z2⟩ := hz
      unfold two mag
      rw [if_pos hn]
      omega
    have e2 : (2 : Nat) ^ 64 = 256 ^ i * (256 * 256 ^ (7 - i)) := by
      rw [show (256 : Nat) * 256 ^ (7 - i) = 256 ^ (7 - i + 1) by rw [Nat.pow_succ, Nat.mul_comm], ← Nat.pow_add, show i + (7 - i + 1) = 8 by omega]
    rw [e, e2]
    exact comp_digit _ _ _ (Nat.pow_pos (by omega)) (Nat.pow_pos (by omega)) (by rw [← e2]; omega)
  · rw [if_neg hn, two_nonneg hz hn]
theorem pow_int (i : Nat) : (2 : Int) ^ (8 * i) = ((256 ^ i : Nat) : Int) := by
  have h : (2 : Int) ^ 8 = 256 := by decide
  rw [Int.pow_mul, h, Int.natCast_pow]; rfl
theorem byte_pos (m i : Nat) : (m : Int) / 2 ^ (8 * i) % 256 = ((m / 256 ^ i % 256 : Nat) : Int) := by
  rw [pow_int, Int.natCast_emod, Int.natCast_ediv]; rfl
theorem byte_neg (m i : Nat) : 255 - (m : Int) / 2 ^ (8 * i) % 256 = ((255 - m / 256 ^ i % 256 : Nat) : Int) := by
  rw [byte_pos]; omega
set_option maxRecDepth 100000 in
set_option maxHeartbeats 2000000 in
theorem rnumber_any (z : Int) (w : World) (hz : I64 z) : Calls Try.prog 24 #[.int .i64 z] w fun e w' => e = .returned (.string (strOfNums (numB z))) ∧ Below w.heap.size w w' := by
  have hne := fun W => rneeds_any (mag z) W (mag_lt hz)
  have hm := mag_lt hz
  have hk8 := needs_mag hz
  have hdg := fun i hi => digit_two hz i hi
  have hnb : Hid (numB z = headN z :: be (needs (mag z)) (two z)) := rfl
  have hhd : Hid (headN z = if z < 0 then 127 - (needs (mag z) : Int) else 128 + (needs (mag z) : Int)) := rfl
  have hhb := head_byte (needs (mag z)) hk8
  replace hdg : Hid _ := hdg
  obtain ⟨z1, z2⟩ := hz
  by_cases hn : z < 0
  · have e : mag z = (-1 - z).toNat := by unfold mag; rw [if_pos hn]
    have hw : IntKind.u64.wrap (-1 - z) = (mag z : Int) := by rw [wrap_u64 _ (by omega) (by omega), e]; omega
    have hhd2 : Hid (headN z = 127 - (needs (mag z) : Int)) := by have := hhd.out; rw [if_pos hn] at this; exact this
    have hdg2 : Hid (∀ i, i < needs (mag z) → two z / 256 ^ i % 256 = 255 - mag z / 256 ^ i % 256) := fun i hi => by have := hdg.out i hi; rw [if_pos hn] at this; exact this
    clear e hhd hdg
    generalize mag z = m at *
    generalize two z = X at *
    generalize needs m = k at *
    go_enter Try.func24, Try.ntmps24
    go_wp2_with (go_at_call 32; refine (hne _).mono ?_; rintro e w1 ⟨rfl, hw1⟩; subst w1)
    go_loopw [6, 7] (fun u i wr => ∃ (j : Nat) (done : List Int), j ≤ k ∧ i = .int .i64 ((j : Int) - 1) ∧ done.length ≤ 8 ∧ Hid (done ++ be j X = be k X) ∧ Own wr w.heap.size u ([127 - (k : Int)] ++ done) ∧ Below w.heap.size w wr) (fun _ i _ => (intOf i + 1).toNat)
    case atStart => exact ⟨k, [], Nat.le_refl _, rfl, by simp, rfl, own_one _ _ _ (Nat.le_refl _), (Below.refl _ w).alloc (Nat.le_refl _) _⟩
    case round =>
      obtain ⟨j, done, hj, rfl, hdl, hd, ho, hb⟩ := hrel
      have hz := hb.size
      have hlen : done.length + j = k := by
        have := congrArg List.length hd.out
        rw [List.length_append, be_len, be_len] at this
        exact this
      replace hlen : Hid _ := hlen
      by_cases h0 : 0 < j
      · obtain ⟨i, rfl⟩ : ∃ i, j = i + 1 := ⟨j - 1, by omega⟩
        have hi : ((i + 1 : Nat) : Int) - 1 = (i : Int) := by omega
        rw [hi]
        have hi0 : (0 : Int) ≤ (i : Int) := by omega
        have hst : Hid ((done ++ [255 - (m : Int) / 2 ^ (8 * i) % 256]) ++ be i X = be k X) := by
          have h1 := hd.out
          have h2 := hdg2.out i (by omega)
          rw [be_cons, h2] at h1
          show _ = _
          rw [← h1, byte_neg, List.append_assoc]
          rfl
        go_wp2_with (at_builtin; refine app1 rfl (.tmp 44) (.tmp 46) rfl w.heap.size _ _ _ rfl rfl ho (by omega) (by simp; omega) ?_; intro v1 w1 ho1 hb1)
        refine ⟨⟨i, done ++ [255 - (m : Int) / 2 ^ (8 * i) % 256], by omega, rfl, by have := hlen.out; simp; omega, hst, ho1.cast (by simp), hb.trans hb1⟩, ?_⟩
        simp [intOf]
      · obtain rfl : j = 0 := by omega
        have hcv := conv_str ho.bts
        have hfin : Hid ([127 - (k : Int)] ++ done = numB z) := by
          have := hd.out
          rw [be, List.append_nil] at this
          show _ = _
          rw [this, hnb.out, hhd2.out]; rfl
        rw [hfin.out] at hcv
        have hneg : ¬ (0 : Int) ≤ -1 := by omega
        go_wp2
        go_ret
        exact ⟨rfl, hb⟩
  · have e : mag z = z.toNat := by unfold mag; rw [if_neg hn]
    have hw : IntKind.u64.wrap z = (mag z : Int) := by rw [wrap_u64 _ (by omega) (by omega), e]; omega
    have hhd2 : Hid (headN z = 128 + (needs (mag z) : Int)) := by have := hhd.out; rw [if_neg hn] at this; exact this
    have hdg2 : Hid (∀ i, i < needs (mag z) → two z / 256 ^ i % 256 = mag z / 256 ^ i % 256) := fun i hi => by have := hdg.out i hi; rw [if_neg hn] at this; exact this
    clear e hhd hdg
    generalize mag z = m at *
    generalize two z = X at *
    generalize needs m = k at *
    go_enter Try.func24, Try.ntmps24
    go_wp2_with (go_at_call 32; refine (hne _).mono ?_; rintro e w1 ⟨rfl, hw1⟩; subst w1)
    go_loopw [6, 7] (fun u i wr => ∃ (j : Nat) (done : List Int), j ≤ k ∧ i = .int .i64 ((j : Int) - 1) ∧ done.length ≤ 8 ∧ Hid (done ++ be j X = be k X) ∧ Own wr w.heap.size u ([128 + (k : Int)] ++ done) ∧ Below w.heap.size w wr) (fun _ i _ => (intOf i + 1).toNat)
    case atStart => exact ⟨k, [], Nat.le_refl _, rfl, by simp, rfl, own_one _ _ _ (Nat.le_refl _), (Below.refl _ w).alloc (Nat.le_refl _) _⟩
    case round =>
      obtain ⟨j, done, hj, rfl, hdl, hd, ho, hb⟩ := hrel
      have hz := hb.size
      have hlen : done.length + j = k := by
        have := congrArg List.length hd.out
        rw [List.length_append, be_len, be_len] at this
        exact this
      replace hlen : Hid _ := hlen
      by_cases h0 : 0 < j
      · obtain ⟨i, rfl⟩ : ∃ i, j = i + 1 := ⟨j - 1, by omega⟩
        have hi : ((i + 1 : Nat) : Int) - 1 = (i : Int) := by omega
        rw [hi]
        have hi0 : (0 : Int) ≤ (i : Int) := by omega
        have hst : Hid ((done ++ [(m : Int) / 2 ^ (8 * i) % 256]) ++ be i X = be k X) := by
          have h1 := hd.out
          have h2 := hdg2.out i (by omega)
          rw [be_cons, h2] at h1
          show _ = _
          rw [← h1, byte_pos, List.append_assoc]
          rfl
        go_wp2_with (at_builtin; refine app1 rfl (.tmp 44) (.tmp 46) rfl w.heap.size _ _ _ rfl rfl ho (by omega) (by simp; omega) ?_; intro v1 w1 ho1 hb1)
        refine ⟨⟨i, done ++ [(m : Int) / 2 ^ (8 * i) % 256], by omega, rfl, by have := hlen.out; simp; omega, hst, ho1.cast (by simp), hb.trans hb1⟩, ?_⟩
        simp [intOf]
      · obtain rfl : j = 0 := by omega
        have hcv := conv_str ho.bts
        have hfin : Hid ([128 + (k : Int)] ++ done = numB z) := by
          have := hd.out
          rw [be, List.append_nil] at this
          show _ = _
          rw [this, hnb.out, hhd2.out]; rfl
        rw [hfin.out] at hcv
        have hneg : ¬ (0 : Int) ≤ -1 := by omega
        go_wp2
        go_ret
        exact ⟨rfl, hb⟩
end Go.Proofs.Ytkhnhnaefmcngaa
