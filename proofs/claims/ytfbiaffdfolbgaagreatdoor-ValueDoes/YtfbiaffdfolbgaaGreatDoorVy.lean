/- The contract of the document's Check. -/
import Derived.Test.YtfbiaffdfolbgaaGreatDoorVw
namespace Go.Proofs.YtfbiaffdfolbgaaGreatDoor
set_option linter.unusedVariables false
open Go.RowKit
set_option maxRecDepth 100000 in
set_option maxHeartbeats 2000000 in
theorem rcheck_any (v : Value) (l : List Vl) (w : World) (hv : Vls w v l) (hl : l.length ≤ 1000000000) : Calls Tryz.prog 17 #[v] w fun e w' => e = .returned (.int .i64 (chkE l)) ∧ Below w.heap.size w w' := by
  have hgl : Hid (∀ W, Below w.heap.size w W → Vls W v l) := fun W h => hv.grow h
  obtain ⟨a, c, hva⟩ := hv.shape
  subst hva
  obtain ⟨n, hn⟩ : ∃ n, Hid (n = l.length) := ⟨_, rfl⟩
  rw [← hn.out] at hl hgl ⊢
  obtain ⟨R, hR⟩ : ∃ R, Hid (R = chkE l) := ⟨_, rfl⟩
  rw [← hR.out]
  clear hv
  go_enter Tryz.func17, Tryz.ntmps17
  go_wp2
  go_loopw [3] (fun i wr => ∃ k : Nat, k ≤ n ∧ i = .int .i64 k ∧ Hid (∀ u ∈ l.take k, IsV u) ∧ Below w.heap.size w wr) (fun i _ => n - (intOf i).toNat)
  case atStart => exact ⟨0, Nat.zero_le _, rfl, (fun u hu => by simp at hu), Below.refl _ _⟩
  case round =>
    obtain ⟨k, hk, rfl, hrk, hb⟩ := hrel
    have hz := hb.size
    by_cases hlt : k < n
    · have hki : (k : Int) < (n : Int) := by omega
      have hltl : k < l.length := by rw [← hn.out]; exact hlt
      obtain ⟨a', c', e, hcs⟩ := hgl.out wr hb
      have ea : a = a' ∧ n = l.length ∧ c = c' := by simpa using e
      obtain ⟨rfl, -, rfl⟩ := ea
      rcases hcs with hcs | ⟨b, o, rfl, hcs⟩
      · rw [hcs] at hltl; simp at hltl
      obtain ⟨x0, x1⟩ := hcs k hltl
      clear hcs e
      have hu := fun W => ris_any (l.getD k zer) W
      have htk : Hid (l.take (k + 1) = l.take k ++ [l.getD k zer]) := take_getD l k hltl
      have hmem : Hid (l.getD k zer ∈ l) := getD_mem l k hltl
      generalize l.getD k zer = u at *
      clear hgl
      cases hi : isB u
      · have hR2 : Hid (R = 80) := by
          have : ¬ ∀ v ∈ l, IsV v := fun h => by
            have := isB_of (h u hmem.out)
            rw [hi] at this; cases this
          have h2 := hR.out
          rw [chkE, if_neg this] at h2
          exact h2
        rw [hi] at hu
        unfold vlV at hu
        go_wp2_with (go_at_call 12; refine (hu _).mono ?_; rintro e w2 ⟨rfl, hb2⟩)
        go_ret
        exact ⟨by rw [hR2.out]; rfl, hb.trans (hb2.mono hb.size)⟩
      · rw [hi] at hu
        have hvu : IsV u := of_decide_eq_true hi
        have hnew : Hid (∀ y ∈ l.take (k + 1), IsV y) := by
          rw [htk.out]
          intro y hy
          rcases List.mem_append.1 hy with h | h
          · exact hrk.out y h
          · rw [List.mem_singleton.1 h]; exact hvu
        clear hvu
        unfold vlV at hu
        go_wp2_with (go_at_call 12; refine (hu _).mono ?_; rintro e w2 ⟨rfl, hb2⟩)
        go_roundw
        case rel => exact ⟨k + 1, by omega, by go_num, hnew, hb.trans (hb2.mono hb.size)⟩
        case measure => simp [intOf]; omega
    · obtain rfl : k = n := by omega
      have hki : ¬ (k : Int) < (k : Int) := by omega
      have hR2 : Hid (R = 0) := by
        have h3 := hrk.out
        rw [List.take_of_length_le (by rw [← hn.out]; omega)] at h3
        have h2 := hR.out
        rw [chkE, if_pos h3] at h2
        exact h2
      clear hgl
      go_wp2
      go_ret
      exact ⟨by rw [hR2.out]; rfl, hb⟩
end Go.Proofs.YtfbiaffdfolbgaaGreatDoor
