/- Slices of strings that came in; the contract of texts(). -/
import Derived.Test.YtjieelpbifdfbaaText
import Derived.SliceStrings
import Derived.SizedLaws
namespace Go.Proofs.Ytjieelpbifdfbaa
open Go.RowKit
/-- What is known of a slice of strings that came in: it is nil, or it leads to a row of 'cap' strings, each within the reach. -/
def IsStrs (w : World) (a : Option Addr) (len cap : Nat) (ss : List ByteArray) : Prop :=
  (a = none ∧ len = 0 ∧ cap = 0 ∧ ss = []) ∨
  ∃ x, a = some x ∧ len ≤ cap ∧ cap ≤ maxLen ∧ ss.length = cap ∧ (∀ i, i < ss.length → w.cell? (x.add i) = some (.string (ss.getD i ByteArray.empty))) ∧ ∀ s ∈ ss, s.size ≤ reachBytes
theorem strs_at {w : World} {a : Addr} {ss : List ByteArray} (h : ∀ i, i < ss.length → w.cell? (a.add i) = some (.string (ss.getD i ByteArray.empty))) (hp : 0 < ss.length) :
    ∃ b off, a = ⟨b, off, none⟩ ∧ ∀ j, j < ss.length → w.cell? ⟨b, off + j, none⟩ = some (.string (ss.getD j ByteArray.empty)) := by
  obtain ⟨b, off, spot⟩ := a
  have hspot : spot = none := by simpa [Addr.add] using World.cell?_spot (h 0 hp)
  subst hspot
  exact ⟨b, off, rfl, fun j hj => by rw [← add_at]; exact h j hj⟩
theorem IsStrs.len {w : World} {a : Option Addr} {len cap : Nat} {ss : List ByteArray} (h : IsStrs w a len cap ss) : (ss.take len).length = len := by
  rcases h with ⟨_, rfl, _, rfl⟩ | ⟨x, _, h1, _, h2, _⟩
  · rfl
  · rw [List.length_take]; omega
theorem IsStrs.rest {w : World} {a : Option Addr} {len cap : Nat} {ss : List ByteArray} (h : IsStrs w a len cap ss) :
    ss.take len = [] ∨ ∃ b o, a = some ⟨b, o, none⟩ ∧ Rest w 0 (ss.take len).length b o (fun t => .string ((ss.take len).getD t ByteArray.empty)) ∧ b < w.heap.size := by
  have hl := h.len
  rcases h with ⟨_, rfl, _, rfl⟩ | ⟨x, rfl, h1, _, h2, hc, _⟩
  · exact .inl rfl
  · by_cases h0 : len = 0
    · subst h0; exact .inl rfl
    · obtain ⟨b, o, rfl, hcell⟩ := strs_at hc (by omega)
      refine .inr ⟨b, o, rfl, fun t _ ht => ?_, World.block_lt_of_cell? w ⟨b, o + 0, none⟩ (hcell 0 (by omega))⟩
      rw [hl] at ht
      rw [hcell t (by omega)]
      simp [ht]
theorem IsStrs.reach {w : World} {a : Option Addr} {len cap : Nat} {ss : List ByteArray} (h : IsStrs w a len cap ss) : ∀ s ∈ ss.take len, s.size ≤ reachBytes := by
  intro n hn
  rcases h with ⟨_, rfl, _, rfl⟩ | ⟨x, rfl, _, _, _, _, hw⟩
  · simp at hn
  · exact hw n (List.mem_of_mem_take hn)
theorem total_take_succ (ss : List ByteArray) (k : Nat) (h : k < ss.length) : total (ss.take (k + 1)) = total (ss.take k) + (ss.getD k ByteArray.empty).size := by
  unfold total
  rw [List.take_succ_eq_append_getElem h, List.map_append, List.sum_append, List.getD_eq_getElem?_getD, List.getElem?_eq_getElem h]
  simp only [List.map_cons, List.map_nil, List.sum_cons, List.sum_nil, Option.getD_some, Nat.add_zero]
theorem total_bound (ss : List ByteArray) (h : ∀ s ∈ ss, s.size ≤ reachBytes) (k : Nat) : total (ss.take k) ≤ k * reachBytes := by
  induction k with
  | zero => simp [total]
  | succ k ih =>
    by_cases hk : k < ss.length
    · rw [total_take_succ ss k hk, Nat.add_mul]
      have := h _ (getD_mem ss ByteArray.empty k hk)
      omega
    · rw [List.take_of_length_le (by omega)]
      rw [List.take_of_length_le (by omega)] at ih
      rw [Nat.add_mul]; omega

theorem ret_bool {a b : Bool} (h : a = b) : Ending.returned (.bool a) = .returned (.bool b) := by rw [h]
set_option maxRecDepth 100000 in
theorem texts_none (a : Option Addr) (c : Nat) (w : World) : Calls Try.prog 9 #[.slice a 0 c] w fun e w' => e = .returned (.bool true) ∧ w' = w := by
  go_enter Try.func9, Try.ntmps9
  go_wp2
  refine wp_loop_rounds 1 ?_
  rw [rounds_succ]
  go_wp2
  go_ret
  exact ⟨rfl, rfl⟩
set_option maxRecDepth 100000 in
set_option maxHeartbeats 1000000 in
theorem texts_some (R : Bool) (ss : List ByteArray) (b o c : Nat) (w : World) (hr : ∀ s ∈ ss, s.size ≤ reachBytes) (hlen : ss.length ≤ 9223372036854775807) (hcell : Rest w 0 ss.length b o fun t => .string (ss.getD t ByteArray.empty)) (hR : Hid (R = decide (ss.length ≤ 60 ∧ total ss ≤ 20000))) :
    Calls Try.prog 9 #[.slice (some ⟨b, o, none⟩) ss.length c] w fun e w' => e = .returned (.bool R) ∧ w' = w := by
  have htb := fun k => total_bound ss hr k
  unfold reachBytes at htb hr
  go_enter Try.func9, Try.ntmps9
  go_wp2
  go_loop [3, 4] (fun n i => ∃ k : Nat, k ≤ ss.length ∧ k ≤ 61 ∧ i = .int .i64 k ∧ n = .int .i64 (total (ss.take k))) (fun _ i => ss.length - (intOf i).toNat)
  case atStart => exact ⟨0, Nat.zero_le _, by omega, rfl, rfl⟩
  case round =>
    obtain ⟨k, hk, hk2, rfl, rfl⟩ := hrel
    have ht := htb k
    by_cases hlt : k < ss.length ∧ k ≤ 60
    · obtain ⟨hlt, h60⟩ := hlt
      have hc : w.cell? ⟨b, o + k, none⟩ = some (.string (ss.getD k ByteArray.empty)) := hcell k (Nat.zero_le _) hlt
      have hs := hr _ (getD_mem ss ByteArray.empty k hlt)
      have HT : Hid (total (ss.take (k + 1)) = total (ss.take k) + (ss.getD k ByteArray.empty).size) := total_take_succ ss k hlt
      generalize ss.getD k ByteArray.empty = s at hc hs HT
      generalize total (ss.take k) = T at ht HT
      clear htb hr hcell
      have hT : T ≤ 60 * 140737488351232 := Nat.le_trans ht (Nat.mul_le_mul_right _ h60)
      go_wp2
      go_round
      case rel => exact ⟨k + 1, by omega, by omega, by go_num, by rw [HT.out]; go_num⟩
      case measure => simp [intOf]; omega
    · by_cases hall : k = ss.length
      · subst hall
        rw [List.take_of_length_le (Nat.le_refl _)] at ht ⊢
        generalize total ss = T at ht hR
        clear htb hr hcell
        by_cases h60 : ss.length ≤ 60
        · by_cases hT : T ≤ 20000
          · obtain rfl : R = true := hR.out.trans (by simp; omega)
            go_wp2
            go_ret
            exact ⟨ret_bool (by simp; omega), rfl⟩
          · obtain rfl : R = false := hR.out.trans (by simp; omega)
            go_wp2
            go_ret
            exact ⟨ret_bool (by simp; omega), rfl⟩
        · obtain rfl : R = false := hR.out.trans (by simp; omega)
          go_wp2
          go_ret
          exact ⟨rfl, rfl⟩
      · obtain rfl : R = false := hR.out.trans (by simp; omega)
        clear htb hr hcell
        have h61 : k = 61 := by omega
        subst h61
        generalize total (ss.take 61) = T at ht
        go_wp2
        go_ret
        exact ⟨rfl, rfl⟩

theorem texts_any (ss : List ByteArray) (a : Option Addr) (c : Nat) (w : World) (hr : ∀ s ∈ ss, s.size ≤ reachBytes) (hlen : ss.length ≤ 9223372036854775807)
    (hcell : ss = [] ∨ ∃ b o, a = some ⟨b, o, none⟩ ∧ Rest w 0 ss.length b o (fun t => .string (ss.getD t ByteArray.empty)) ∧ b < w.heap.size) :
    Calls Try.prog 9 #[.slice a ss.length c] w fun e w' => e = .returned (.bool (decide (ss.length ≤ 60 ∧ total ss ≤ 20000))) ∧ w' = w := by
  rcases hcell with rfl | ⟨b, o, rfl, h1, _⟩
  · exact texts_none a c w
  · exact texts_some _ ss b o c w hr hlen h1 rfl
end Go.Proofs.Ytjieelpbifdfbaa
