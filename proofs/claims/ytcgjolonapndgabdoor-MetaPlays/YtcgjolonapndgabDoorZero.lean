/- The contracts of bounded, onlyZeros, turnOf. -/
import Derived.Test.YtcgjolonapndgabDoorMPut
namespace Go.Proofs.YtcgjolonapndgabDoor
open Go.RowKit Go.Maps Go.ChangeMaps Go.MapKept
/-- The length of a slice. -/
def slLen : Value → Nat
  | .slice _ n _ => n
  | _ => 0
theorem all_zero_drop (bs : List Int) (j : Nat) (h : ∀ t, t < j → bs.getD t 0 = 0) : (∀ x ∈ bs, x = 0) ↔ ∀ x ∈ bs.drop j, x = 0 := by
  constructor
  · exact fun hh x hx => hh x (List.mem_of_mem_drop hx)
  · intro hh x hx
    obtain ⟨t, ht, rfl⟩ := List.mem_iff_getElem.1 hx
    by_cases hj : t < j
    · have := h t hj
      simpa [ht] using this
    · exact hh _ (List.mem_iff_getElem.2 ⟨t - j, by simp; omega, by simp [show j + (t - j) = t by omega]⟩)
/-- &v[0] of bytes that are read. -/
theorem at_zero (b o n c : Nat) (h : 0 < n) (W : World) : (Instr.indexAt 25 (.slice (some ⟨b, o, none⟩) n c) (.int .i64 0)).run Tryd.prog W = .ok (.pointer (some ⟨b, o, none⟩)) W := by
  rw [run_indexAt_slice W 25 ⟨b, o, none⟩ n c .i64 0 elem33, if_pos (by omega), size5]
  simp [Result.andThen, add_at]
/-- A slice that is empty just if all bytes are 0. -/
def Trimmed (bs : List Int) (e : Ending) : Prop := ∃ a n c, e = .returned (.slice a n c) ∧ (n = 0 ↔ ∀ x ∈ bs, x = 0)
set_option maxRecDepth 100000 in
set_option maxHeartbeats 1000000 in
theorem trimByte_any (v : Value) (bs : List Int) (w : World) (hb : Bts w v bs) :
    Calls Tryd.prog 62 #[v, .int .u8 0] w fun e w' => Trimmed bs e ∧ w' = w := by
  go_enter Tryd.func62, Tryd.ntmps62
  go_wp2
  go_loop [0] (fun s => ∃ j : Nat, j ≤ bs.length ∧ Bts w s (bs.drop j) ∧ ∀ t, t < j → bs.getD t 0 = 0) (fun s => slLen s)
  case atStart => exact ⟨0, Nat.zero_le _, by simpa using hb, fun t ht => absurd ht (Nat.not_lt_zero _)⟩
  case round =>
    obtain ⟨j, hj, hbj, hz⟩ := hrel
    have hbj' := hbj
    obtain ⟨a, c, rfl, ⟨hn, hc⟩, hr⟩ := hbj
    have hdl : (bs.drop j).length = bs.length - j := List.length_drop
    rw [hdl] at hbj' hc hr
    rw [hdl]
    have hall := all_zero_drop bs j hz
    by_cases hlt : j < bs.length
    · rcases hr with h0 | ⟨b, o, rfl, hr⟩
      · exact absurd (congrArg List.length h0) (by simp; omega)
      have hc0 : w.cell? ⟨b, o, none⟩ = some (.int .u8 (bs.getD j 0)) := by
        have := hr 0 (Nat.zero_le _) (by omega)
        simpa using this
      obtain ⟨v2, hs2, hb2, _⟩ := slice_from hbj' 1 (by rw [hdl]; omega)
      rw [List.drop_drop] at hb2
      replace hs2 : ∀ W, (Instr.slice 25 (.slice (some ⟨b, o, none⟩) (bs.length - j) c) (some (.int .i64 1)) none none).run Tryd.prog W = .ok v2 W := hs2
      have hx := at_zero b o (bs.length - j) c (by omega)
      have hpos : (0 : Int) < ((bs.length - j : Nat) : Int) := by omega
      obtain ⟨a2, c2, hv2⟩ := hb2.split
      have hl2 : (bs.drop (j + 1)).length = bs.length - j - 1 := by simp; omega
      rw [hl2] at hv2
      subst hv2
      have hne : ¬ (bs.length - j = 0) := by omega
      have hmem : bs.getD j 0 ∈ bs.drop j := by
        refine List.mem_iff_getElem.2 ⟨0, by simp; omega, by simp [hlt]⟩
      by_cases hc1 : bs.getD j 0 = 0
      · rw [hc1] at hc0
        have hzz : ∀ t, t < j + 1 → bs.getD t 0 = 0 := fun t ht => by
          by_cases h : t < j
          · exact hz t h
          · rw [show t = j by omega]; exact hc1
        generalize bs.length - j = N at *
        clear hr hall hz hbj' hdl hn hmem
        go_wp2
        go_round
        case rel => exact ⟨j + 1, by omega, hb2, hzz⟩
        case measure => simp [slLen]; omega
      · have hfa : ¬ ∀ x ∈ bs, x = 0 := fun h => hc1 (hall.1 h _ hmem)
        have hce : (bs.getD j 0 == 0) = false := by simpa using hc1
        have hiff : ((bs.length - j = 0) ↔ ∀ x ∈ bs, x = 0) := ⟨fun h => absurd h hne, fun h => absurd h hfa⟩
        generalize bs.length - j = N at *
        generalize bs.getD j 0 = y at *
        clear hr hall hz hbj' hdl hn hmem hs2 hb2 hfa
        go_wp2
        go_ret
        exact ⟨⟨_, _, _, rfl, hiff⟩, rfl⟩
    · have hN : bs.length - j = 0 := by omega
      have hiff : ∀ x ∈ bs, x = 0 := hall.2 (by rw [List.drop_of_length_le (by omega)]; simp)
      rw [hN] at *
      clear hr hall hz hbj' hdl hn
      go_wp2
      go_ret
      exact ⟨⟨_, _, _, rfl, ⟨fun _ => hiff, fun _ => rfl⟩⟩, rfl⟩
set_option maxRecDepth 100000 in
set_option maxHeartbeats 1000000 in
theorem bounded_any (q : Nat) (r k d : Int) (w : World) (B : Bool) (hBd : Hid (B = decide (q ≠ 0 ∧ 0 ≤ r ∧ r ≤ 16384 ∧ 0 ≤ k ∧ k ≤ 2147483647 ∧ 0 ≤ d ∧ d ≤ 64))) :
    Calls Tryd.prog 31 #[.agg #[.int .u64 q, .int .i64 r, .int .i64 k, .int .i64 d]] w fun e w' => e = .returned (.bool B) ∧ Below w.heap.size w w' := by
  have hB : ∀ o, Below w.heap.size w (w.alloc o) := fun o => (Below.refl _ w).alloc (Nat.le_refl _) o
  go_enter Tryd.func31, Tryd.ntmps31
  go_wp2
  all_goals
    go_ret
    refine ⟨?_, hB _⟩
    congr 2
    rw [hBd.out]
    first
      | (simp [*]; done)
      | (simp [*]; omega)
set_option maxRecDepth 100000 in
set_option maxHeartbeats 1000000 in
theorem turnOf_any (q : Nat) (r k d : Int) (w : World) (hq : q < 2 ^ 64) :
    Calls Tryd.prog 41 #[.agg #[.int .u64 q, .int .i64 r, .int .i64 k, .int .i64 d]] w fun e w' => e = .returned (.int .u64 ((q % 2 : Nat) : Int)) ∧ Below w.heap.size w w' := by
  have hB : Below w.heap.size w (w.alloc (.cells #[.int .u64 q, .int .i64 r, .int .i64 k, .int .i64 d] 24)) := (Below.refl _ w).alloc (Nat.le_refl _) _
  go_enter Tryd.func41, Tryd.ntmps41
  go_wp2
  go_ret
  exact ⟨by congr 2 <;> omega, hB⟩
set_option maxRecDepth 100000 in
set_option maxHeartbeats 1000000 in
theorem trim_any (v : Value) (bs : List Int) (w : World) (hb : Bts w v bs) :
    Calls Tryd.prog 53 #[v, .string ⟨#[0]⟩] w fun e w' => Trimmed bs e ∧ w' = w := by
  have hlen := len_bts hb
  by_cases h0 : bs = []
  · subst h0
    go_enter Tryd.func53, Tryd.ntmps53
    go_wp2
    go_ret
    exact ⟨⟨_, _, _, rfl, by simp⟩, rfl⟩
  · have hpos : 0 < bs.length := List.length_pos_iff.2 h0
    have hne : ((bs.length : Int) == 0) = false := by simp; exact h0
    clear h0
    go_enter Tryd.func53, Tryd.ntmps53
    go_wp2_with (first | (go_at_call 62; refine (trimByte_any v bs _ hb).mono ?_; rintro e w' ⟨⟨a, n, c, rfl, hiff⟩, hw'⟩; subst w'))
    go_ret
    exact ⟨⟨_, _, _, rfl, hiff⟩, rfl⟩
set_option maxRecDepth 100000 in
set_option maxHeartbeats 1000000 in
theorem onlyZeros_any (v : Value) (bs : List Int) (w : World) (hb : Bts w v bs) (B : Bool) (hB : Hid (B = decide (∀ x ∈ bs, x = 0))) :
    Calls Tryd.prog 33 #[v] w fun e w' => e = .returned (.bool B) ∧ w' = w := by
  go_enter Tryd.func33, Tryd.ntmps33
  go_wp2_with (first | (go_at_call 53; refine (trim_any v bs _ hb).mono ?_; rintro e w' ⟨⟨a, n, c, rfl, hiff⟩, hw'⟩; subst w'))
  go_ret
  refine ⟨?_, rfl⟩
  refine congrArg (fun b => Ending.returned (.bool b)) (?_ : ((n : Int) == 0) = B)
  rw [hB.out, Bool.eq_iff_iff, decide_eq_true_iff, ← hiff]
  simp
end Go.Proofs.YtcgjolonapndgabDoor
