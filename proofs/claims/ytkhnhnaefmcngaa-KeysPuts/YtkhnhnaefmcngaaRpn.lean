/- The contract of the document's part, where no text stands. -/
import Derived.Test.YtkhnhnaefmcngaaRpu
namespace Go.Proofs.Ytkhnhnaefmcngaa
set_option linter.unusedVariables false
open Go.RowKit
/-- Each byte taken from ff. -/
def comp (l : List Int) : List Int := l.map fun c => 255 - c
theorem comp_bytes {l : List Int} (h : IsBytes l) : IsBytes (comp l) := by
  intro c hc
  obtain ⟨x, hx, rfl⟩ := List.mem_map.1 hc
  have := h x hx
  omega
theorem comp_getD (l : List Int) (q : Nat) (h : q < l.length) : (comp l).getD q 0 = 255 - l.getD q 0 := by
  rw [comp, List.getD_eq_getElem?_getD, List.getD_eq_getElem?_getD, List.getElem?_map, List.getElem?_eq_getElem h]
  rfl
theorem comp_len (l : List Int) : (comp l).length = l.length := by simp [comp]
theorem ofBe_comp (l : List Int) (h : IsBytes l) : ofBe (comp l) + ofBe l = 256 ^ l.length - 1 := by
  induction hn : l.length generalizing l with
  | zero => rw [List.length_eq_zero_iff.1 hn]; rfl
  | succ k ih =>
    obtain ⟨r, c, rfl⟩ : ∃ r c, l = r ++ [c] := ⟨l.dropLast, l.getLast (by intro e; subst e; simp at hn), (List.dropLast_concat_getLast _).symm⟩
    have hc := h c (by simp)
    have hr : IsBytes r := fun z hz => h z (by simp [hz])
    have hl : r.length = k := by simpa using hn
    have e : comp (r ++ [c]) = comp r ++ [255 - c] := by simp [comp]
    rw [e, ofBe_snoc, ofBe_snoc]
    have := ih r hr hl
    have hp : 0 < 256 ^ k := Nat.pow_pos (by omega)
    rw [Nat.pow_succ]
    omega
/-- The bytes that a number's are told of. -/
def raw (z : Bool) (bs : List Int) : List Int := if z = true then comp bs else bs
theorem raw_bytes {b : Bool} {l : List Int} (h : IsBytes l) : IsBytes (raw b l) := by
  unfold raw; split; exact comp_bytes h; exact h
theorem raw_len (b : Bool) (l : List Int) : (raw b l).length = l.length := by unfold raw; split; exact comp_len l; rfl
theorem num_mag (bs rest : List Int) (z : Int) (hz : I64 z) (h : bs = numB z ++ rest) : needs (mag z) < bs.length ∧ ofBe (raw (decide (z < 0)) ((bs.take (1 + needs (mag z))).drop 1)) = mag z := by
  have h8 := needs_mag hz
  have hl : (be (needs (mag z)) (two z)).length = needs (mag z) := be_len _ _
  have e : (bs.take (1 + needs (mag z))).drop 1 = be (needs (mag z)) (two z) := by
    rw [h, numB, Nat.add_comm 1, List.cons_append, List.take_succ_cons, List.drop_succ_cons, List.drop_zero, List.take_left' hl]
  refine ⟨by rw [h]; simp [numB, hl]; omega, ?_⟩
  rw [e]
  have hmn := needs_lt (mag z)
  by_cases hn : z < 0
  · rw [raw, if_pos (by simpa using hn)]
    have h1 := ofBe_comp _ (be_bytes (needs (mag z)) (two z))
    rw [ofBe_be, two_low hz (Nat.le_refl _) h8 hn, be_len] at h1
    omega
  · rw [raw, if_neg (by simpa using hn), ofBe_be, two_nonneg hz hn, Nat.mod_eq_of_lt hmn]
/-- What part tells of bytes that may be a number's. -/
def RnQ (neg : Bool) (k : Nat) (cs : List Int) (w : World) (e : Ending) (w' : World) : Prop :=
  (ofBe cs ≤ 9223372036854775807 ∧ e = .returned (.tuple #[ptV ⟨1, if neg = true then -1 - (ofBe cs : Int) else (ofBe cs : Int), ⟨#[]⟩⟩, .int .i64 (k + 1 : Nat)]) ∧ Below w.heap.size w w') ∨
  (¬ ofBe cs ≤ 9223372036854775807 ∧ e = .returned (.tuple #[ptV pt0, .int .i64 (0 : Nat)]) ∧ Below w.heap.size w w')
set_option maxRecDepth 100000 in
set_option maxHeartbeats 4000000 in
theorem rpart_num (s : ByteArray) (w : World) (neg : Bool) (H k : Nat) (hs : s.size ≤ 1000000) (h0 : 0 < s.size) (hH : s[0].toNat = H) (hne : ((H : Int) == 160) = false) (hlt : decide ((H : Int) < 128) = neg) (hk : (if neg = true then 127 - (H : Int) else (H : Int) - 128) = (k : Int)) (h8 : k ≤ 8) (hl : k < s.size) :
    Calls Try.prog 27 #[.string s] w fun e w' => RnQ neg k (raw neg (((numsS s).take (1 + k)).drop 1)) w e w' := by
  have hbl : (raw neg (((numsS s).take (1 + k)).drop 1)).length = k := by rw [raw_len]; simp [numsS_length]; omega
  have hby : IsBytes (raw neg (((numsS s).take (1 + k)).drop 1)) := raw_bytes (((numsS_bytes s).take _).drop _)
  have hget : Hid (∀ q, q < k → ∃ c : Nat, c < 256 ∧ (∀ W : World, (Instr.index 9 (.string s) (.int .i64 ((q + 1 : Nat) : Int))).run Try.prog W = .ok (.int .u8 (c : Int)) W) ∧ (raw neg (((numsS s).take (1 + k)).drop 1)).getD q 0 = if neg = true then 255 - (c : Int) else (c : Int)) := by
    intro q hq
    have hq1 : q + 1 < s.size := by omega
    refine ⟨s[q + 1].toNat, UInt8.toNat_lt _, fun W => ?_, ?_⟩
    · rw [run_index_string W 9 s .i64 _ Try.underlying9, dif_pos (by omega)]
      rfl
    · have hv := getD_str s (q + 1) hq1
      have hn := numsS_length s
      have e : (((numsS s).take (1 + k)).drop 1).getD q 0 = (numsS s).getD (q + 1) 0 := by
        simp [List.getD, show q + 1 < 1 + k by omega]
      cases neg with
      | true =>
        have hql : q < (((numsS s).take (1 + k)).drop 1).length := by simp; omega
        rw [raw, if_pos rfl, if_pos rfl, ← hv, ← e, comp_getD _ _ hql]
      | false => rw [raw, if_neg (by simp), if_neg (by simp), e, hv]
  generalize raw neg (((numsS s).take (1 + k)).drop 1) = cs at *
  replace hbl : Hid _ := hbl
  replace hby : Hid (IsBytes cs) := hby
  have h8i : (k : Int) ≤ 8 := by omega
  have hd1 : decide ((8 : Int) < (k : Int)) = false := by simp; omega
  have hd2 : decide ((s.size : Int) - 1 < (k : Int)) = false := by simp; omega
  cases neg with
  | true =>
    have hk2 : 127 - (H : Int) = (k : Int) := by simpa using hk
    have hlt2 : (H : Int) < 128 := by simpa using hlt
    have hget2 : Hid (∀ q, q < k → ∃ c : Nat, c < 256 ∧ (∀ W : World, (Instr.index 9 (.string s) (.int .i64 ((q + 1 : Nat) : Int))).run Try.prog W = .ok (.int .u8 (c : Int)) W) ∧ cs.getD q 0 = 255 - (c : Int)) := by
      intro q hq
      obtain ⟨c, q1, q2, q3⟩ := hget.out q hq
      exact ⟨c, q1, q2, by rw [q3]; rfl⟩
    clear hk hlt hget
    go_enter Try.func27, Try.ntmps27
    go_wp2
    go_loop [9, 10] (fun x i => ∃ q : Nat, q ≤ k ∧ i = .int .i64 ((q + 1 : Nat) : Int) ∧ x = .int .u64 ((ofBe (cs.take q) : Nat) : Int)) (fun _ i => k + 1 - (intOf i).toNat)
    case atStart => exact ⟨0, Nat.zero_le _, rfl, rfl⟩
    case round =>
      obtain ⟨q, hq, rfl, rfl⟩ := hrel
      by_cases hqk : q < k
      · obtain ⟨c, hc, hrun, hgd⟩ := hget2.out q hqk
        have hqi : ((q + 1 : Nat) : Int) ≤ (k : Int) := by omega
        have hlow : ofBe (cs.take q) < 2 ^ 56 := by
          have h1 := ofBe_lt (cs.take q) (hby.out.take q)
          have h2 : (cs.take q).length ≤ 7 := by rw [List.length_take]; omega
          exact Nat.lt_of_lt_of_le h1 (Nat.pow_le_pow_right (n := 256) (by omega) h2)
        have hst : Hid (ofBe (cs.take (q + 1)) = 256 * ofBe (cs.take q) + (255 - (c : Int)).toNat) := by
          show _ = _
          rw [be_get cs q (by rw [hbl.out]; exact hqk), hgd]
        generalize ofBe (cs.take q) = y at *
        have h8s := shl8 y hlow
        have ho := or_low y (255 - (c : Int)) hlow (by omega)
        have hw255 : IntKind.u8.wrap (255 - (c : Int)) = 255 - (c : Int) := by
          simp only [IntKind.wrap, IntKind.bits, IntKind.signed]
          simp
          omega
        clear hgd hget2
        generalize hq1 : q + 1 = q1 at *
        have hq1b : q1 ≤ 9 := by omega
        replace hq1 : Hid _ := hq1
        go_wp2
        go_round
        case rel =>
          refine ⟨q1, by omega, by go_num, ?_⟩
          rw [hst.out]
          congr 1
          omega
        case measure => have := hq1.out; simp [intOf]; omega
      · obtain rfl : q = k := by omega
        have hqi : ¬ ((q + 1 : Nat) : Int) ≤ (q : Int) := by omega
        have hNe : Hid (ofBe (cs.take q) = ofBe cs) := by
          show _ = _
          rw [List.take_of_length_le (by rw [hbl.out]; omega)]
        have hlow : ofBe (cs.take q) < 2 ^ 64 := by
          have h1 := ofBe_lt (cs.take q) (hby.out.take q)
          have h2 : (cs.take q).length ≤ 8 := by rw [List.length_take]; omega
          exact Nat.lt_of_lt_of_le h1 (Nat.pow_le_pow_right (n := 256) (by omega) h2)
        generalize ofBe (cs.take q) = N at *
        clear hget2
        generalize hq1 : q + 1 = q1 at *
        replace hq1 : Hid _ := hq1
        have hq1i : (q : Int) + 1 = (q1 : Int) := by have := hq1.out; omega
        by_cases hbig : N ≤ 9223372036854775807
        · have hbi : ¬ (9223372036854775807 : Int) < (N : Int) := by omega
          have hwN : IntKind.i64.wrap (N : Int) = (N : Int) := by rw [IntKind.wrap_i64]; omega
          go_wp2
          refine bodyPost_ret (v := .tuple #[ptV ⟨1, -1 - (N : Int), ⟨#[]⟩⟩, .int .i64 (q1 : Int)]) ?_ rfl (.inl ⟨by rw [← hNe.out]; exact hbig, by rw [← hNe.out, hq1.out]; rfl, (Below.refl _ w).alloc (Nat.le_refl _) _⟩)
          simp [results, Try.results27, asAddr, Result.andThen, go_sem, ptV]
        · have hbi : (9223372036854775807 : Int) < (N : Int) := by omega
          go_wp2
          refine bodyPost_ret (v := .tuple #[ptV pt0, .int .i64 ((0 : Nat) : Int)]) ?_ rfl (.inr ⟨by rw [← hNe.out]; exact hbig, rfl, (Below.refl _ w).alloc (Nat.le_refl _) _⟩)
          simp [results, Try.results27, asAddr, Result.andThen, go_sem, ptV, pt0]
  | false =>
    have hk2 : (H : Int) - 128 = (k : Int) := by simpa using hk
    have hlt2 : ¬ (H : Int) < 128 := by simpa using hlt
    have hget2 : Hid (∀ q, q < k → ∃ c : Nat, c < 256 ∧ (∀ W : World, (Instr.index 9 (.string s) (.int .i64 ((q + 1 : Nat) : Int))).run Try.prog W = .ok (.int .u8 (c : Int)) W) ∧ cs.getD q 0 = (c : Int)) := by
      intro q hq
      obtain ⟨c, q1, q2, q3⟩ := hget.out q hq
      exact ⟨c, q1, q2, by rw [q3]; rfl⟩
    clear hk hlt hget
    go_enter Try.func27, Try.ntmps27
    go_wp2
    go_loop [9, 10] (fun x i => ∃ q : Nat, q ≤ k ∧ i = .int .i64 ((q + 1 : Nat) : Int) ∧ x = .int .u64 ((ofBe (cs.take q) : Nat) : Int)) (fun _ i => k + 1 - (intOf i).toNat)
    case atStart => exact ⟨0, Nat.zero_le _, rfl, rfl⟩
    case round =>
      obtain ⟨q, hq, rfl, rfl⟩ := hrel
      by_cases hqk : q < k
      · obtain ⟨c, hc, hrun, hgd⟩ := hget2.out q hqk
        have hqi : ((q + 1 : Nat) : Int) ≤ (k : Int) := by omega
        have hlow : ofBe (cs.take q) < 2 ^ 56 := by
          have h1 := ofBe_lt (cs.take q) (hby.out.take q)
          have h2 : (cs.take q).length ≤ 7 := by rw [List.length_take]; omega
          exact Nat.lt_of_lt_of_le h1 (Nat.pow_le_pow_right (n := 256) (by omega) h2)
        have hst : Hid (ofBe (cs.take (q + 1)) = 256 * ofBe (cs.take q) + ((c : Int)).toNat) := by
          show _ = _
          rw [be_get cs q (by rw [hbl.out]; exact hqk), hgd]
        generalize ofBe (cs.take q) = y at *
        have h8s := shl8 y hlow
        have ho := or_low y ((c : Int)) hlow (by omega)
        have hw255 : IntKind.u8.wrap ((c : Int)) = (c : Int) := by
          simp only [IntKind.wrap, IntKind.bits, IntKind.signed]
          simp
          omega
        clear hgd hget2
        generalize hq1 : q + 1 = q1 at *
        have hq1b : q1 ≤ 9 := by omega
        replace hq1 : Hid _ := hq1
        go_wp2
        go_round
        case rel =>
          refine ⟨q1, by omega, by go_num, ?_⟩
          rw [hst.out]
          rfl
        case measure => have := hq1.out; simp [intOf]; omega
      · obtain rfl : q = k := by omega
        have hqi : ¬ ((q + 1 : Nat) : Int) ≤ (q : Int) := by omega
        have hNe : Hid (ofBe (cs.take q) = ofBe cs) := by
          show _ = _
          rw [List.take_of_length_le (by rw [hbl.out]; omega)]
        have hlow : ofBe (cs.take q) < 2 ^ 64 := by
          have h1 := ofBe_lt (cs.take q) (hby.out.take q)
          have h2 : (cs.take q).length ≤ 8 := by rw [List.length_take]; omega
          exact Nat.lt_of_lt_of_le h1 (Nat.pow_le_pow_right (n := 256) (by omega) h2)
        generalize ofBe (cs.take q) = N at *
        clear hget2
        generalize hq1 : q + 1 = q1 at *
        replace hq1 : Hid _ := hq1
        have hq1i : (q : Int) + 1 = (q1 : Int) := by have := hq1.out; omega
        by_cases hbig : N ≤ 9223372036854775807
        · have hbi : ¬ (9223372036854775807 : Int) < (N : Int) := by omega
          have hwN : IntKind.i64.wrap (N : Int) = (N : Int) := by rw [IntKind.wrap_i64]; omega
          go_wp2
          refine bodyPost_ret (v := .tuple #[ptV ⟨1, (N : Int), ⟨#[]⟩⟩, .int .i64 (q1 : Int)]) ?_ rfl (.inl ⟨by rw [← hNe.out]; exact hbig, by rw [← hNe.out, hq1.out]; rfl, (Below.refl _ w).alloc (Nat.le_refl _) _⟩)
          simp [results, Try.results27, asAddr, Result.andThen, go_sem, ptV]
        · have hbi : (9223372036854775807 : Int) < (N : Int) := by omega
          go_wp2
          refine bodyPost_ret (v := .tuple #[ptV pt0, .int .i64 ((0 : Nat) : Int)]) ?_ rfl (.inr ⟨by rw [← hNe.out]; exact hbig, rfl, (Below.refl _ w).alloc (Nat.le_refl _) _⟩)
          simp [results, Try.results27, asAddr, Result.andThen, go_sem, ptV, pt0]
end Go.Proofs.Ytkhnhnaefmcngaa
