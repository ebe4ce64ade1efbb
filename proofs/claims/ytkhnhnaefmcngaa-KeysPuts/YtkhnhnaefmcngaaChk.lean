/- The contract of check. -/
import Derived.Test.YtkhnhnaefmcngaaTxt
namespace Go.Proofs.Ytkhnhnaefmcngaa
open Go.RowKit
theorem empty_iff (t : ByteArray) : t.toList.isEmpty = decide (t.size = 0) := by
  rw [Bool.eq_iff_iff]
  simp only [List.isEmpty_iff, decide_eq_true_eq]
  rw [← List.length_eq_zero_iff, Lib.toList_data, Array.length_toList]
  rfl
set_option maxRecDepth 100000 in
set_option maxHeartbeats 1000000 in
theorem check_any (p : Pt) (w : World) : Calls Try.prog 22 #[ptV p] w fun e w' => e = .returned (.int .i64 (errP p)) ∧ Below w.heap.size w w' := by
  obtain ⟨k, z, t⟩ := p
  have hE : Hid (errP ⟨k, z, t⟩ = if k = 1 ∧ t.size = 0 ∨ k = 2 ∧ z = 0 then (if 256 < t.size then 1 else 0) else 2) := rfl
  have hB : ∀ o : Obj, Below w.heap.size w (w.alloc o) := fun o => (Below.refl _ w).alloc (Nat.le_refl _) o
  generalize errP ⟨k, z, t⟩ = E at *
  unfold ptV
  by_cases h1 : k = 1
  · subst h1
    by_cases h0 : t.size = 0
    · have he : t.toList.isEmpty = true := by rw [empty_iff]; simpa using h0
      have hE2 : Hid (E = 0) := by show _ = _; rw [hE.out, if_pos (.inl ⟨rfl, h0⟩), if_neg (by omega)]
      clear hE
      go_enter Try.func22, Try.ntmps22
      go_wp2
      go_ret
      exact ⟨by rw [hE2.out]; rfl, hB _⟩
    · have he : t.toList.isEmpty = false := by rw [empty_iff]; simpa using h0
      have hE2 : Hid (E = 2) := by show _ = _; rw [hE.out, if_neg (by omega)]
      clear hE
      go_enter Try.func22, Try.ntmps22
      go_wp2
      go_ret
      exact ⟨by rw [hE2.out]; rfl, hB _⟩
  · by_cases h2 : k = 2
    · subst h2
      by_cases hz : z = 0
      · subst hz
        by_cases hl : 256 < t.size
        · have hE2 : Hid (E = 1) := by show _ = _; rw [hE.out, if_pos (.inr ⟨rfl, rfl⟩), if_pos hl]
          have hl2 : (256 : Int) < (t.size : Int) := by omega
          clear hE
          go_enter Try.func22, Try.ntmps22
          go_wp2
          go_ret
          exact ⟨by rw [hE2.out]; rfl, hB _⟩
        · have hE2 : Hid (E = 0) := by show _ = _; rw [hE.out, if_pos (.inr ⟨rfl, rfl⟩), if_neg hl]
          have hl2 : ¬ (256 : Int) < (t.size : Int) := by omega
          clear hE
          go_enter Try.func22, Try.ntmps22
          go_wp2
          go_ret
          exact ⟨by rw [hE2.out]; rfl, hB _⟩
      · have hzz : (z == 0) = false := by simpa using hz
        have hE2 : Hid (E = 2) := by show _ = _; rw [hE.out, if_neg (by omega)]
        clear hE
        go_enter Try.func22, Try.ntmps22
        go_wp2
        go_ret
        exact ⟨by rw [hE2.out]; rfl, hB _⟩
    · have hk1 : (k != 1) = true := by simpa using h1
      have hk2 : (k != 2) = true := by simpa using h2
      have hE2 : Hid (E = 2) := by show _ = _; rw [hE.out, if_neg (by omega)]
      clear hE
      go_enter Try.func22, Try.ntmps22
      go_wp2
      go_ret
      exact ⟨by rw [hE2.out]; rfl, hB _⟩
end Go.Proofs.Ytkhnhnaefmcngaa
