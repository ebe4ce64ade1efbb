/- areThere. -/
import Derived.Test.YtaffplmfnincfaaGreatDoorDa
namespace Go.Proofs.YtaffplmfnincfaaGreatDoor
set_option linter.unusedVariables false
open Go.RowKit
theorem NTab.grow {w w' : World} {b : Nat} {l : List (ByteArray × Nd)} (h : NTab w b l) (hb : Below w.heap.size w w') : NTab w' b l := Tab.keep NdI.keep h hb
def thB (M : List (ByteArray × Nd)) (R : List ByteArray) : Bool := R.all fun r => (asc r M).isSome
theorem thB_no {M : List (ByteArray × Nd)} {R : List ByteArray} {k : Nat} (hk : k < R.length) (h : asc (R.getD k ⟨#[]⟩) M = none) : thB M R = false := by
  unfold thB
  rw [List.all_eq_false]
  refine ⟨R.getD k ⟨#[]⟩, ?_, by rw [h]; simp⟩
  rw [List.getD_eq_getElem?_getD, List.getElem?_eq_getElem hk]
  exact List.getElem_mem hk
theorem thB_yes {M : List (ByteArray × Nd)} {R : List ByteArray} (h : ∀ j, j < R.length → (asc (R.getD j ⟨#[]⟩) M).isSome = true) : thB M R = true := by
  unfold thB
  rw [List.all_eq_true]
  intro x hx
  obtain ⟨i, hi, rfl⟩ := List.getElem_of_mem hx
  have := h i hi
  rw [List.getD_eq_getElem?_getD, List.getElem?_eq_getElem hi] at this
  exact this
set_option maxRecDepth 100000 in
set_option maxHeartbeats 8000000 in
/-- areThere. -/
theorem there34 (b : Nat) (M : List (ByteArray × Nd)) (a : Option Addr) (n c : Nat) (R : List ByteArray) (w : World) (hM : NTab w b M) (hv : Txs w (.slice a n c) R) (hl : R.length ≤ 1000000) : Calls Tryz.prog 34 #[.map (some b), .slice a n c] w fun e w' => e = .returned (.bool (thB M R)) ∧ Below w.heap.size w w' := by
  have hn : Hid (n = R.length) := hv.len
  have hrow : Hid (∀ W, Below w.heap.size w W → Txs W (.slice a n c) R) := fun W h => hv.grow h
  have hMg : Hid (∀ W, Below w.heap.size w W → NTab W b M) := fun W h => hM.grow h
  have hn1 : n ≤ 1000000 := by have := hn.out; omega
  obtain ⟨T, hT⟩ : ∃ T, Hid (T = thB M R) := ⟨_, rfl⟩
  rw [← hT.out]
  clear hv hl hM
  go_enter Tryz.func34, Tryz.ntmps34
  go_wp2
  go_loopw [11] (fun i wr => ∃ k : Nat, k ≤ n ∧ i = .int .i64 k ∧ Hid (∀ j, j < k → (asc (R.getD j ⟨#[]⟩) M).isSome = true) ∧ Hid (Below w.heap.size w wr)) (fun i _ => n - (intOf i).toNat)
  case atStart => exact ⟨0, Nat.zero_le _, rfl, (fun j hj => absurd hj (Nat.not_lt_zero _)), Below.refl _ _⟩
  case round =>
    obtain ⟨k, hk, rfl, hal, hB⟩ := hrel
    by_cases hlt : k < n
    · have hki : (k : Int) < (n : Int) := by omega
      have hkl : k < R.length := by have := hn.out; omega
      obtain ⟨q, o, rfl, x0⟩ := tx_at (hrow.out wr hB.out) k hkl
      rcases look_nd (hMg.out wr hB.out) (R.getD k ⟨#[]⟩) with ⟨g1, g2⟩ | ⟨y, g1, g2⟩
      · have hTf : Hid (T = false) := hT.out.trans (thB_no hkl g1)
        clear g1
        unfold nd0 at g2
        generalize R.getD k ⟨#[]⟩ = r at *
        have hB2 := hB.out.alloc hB.out.size (.cells (ndC nd0) 36)
        unfold nd0 at hB2
        go_wp2
        go_ret
        exact ⟨by rw [hTf.out]; rfl, hB2⟩
      · have hst : Hid (∀ j, j < k + 1 → (asc (R.getD j ⟨#[]⟩) M).isSome = true) := fun j hj => by
          by_cases e : j = k
          · rw [e, g1]; rfl
          · exact hal.out j (by omega)
        clear g1 hal
        generalize R.getD k ⟨#[]⟩ = r at *
        have hB2 := hB.out.alloc hB.out.size (.cells (ndC y) 36)
        go_wp2
        refine ⟨⟨k + 1, by omega, by go_num, hst, hB2⟩, ?_⟩
        simp [intOf]; omega
    · have hki : ¬ (k : Int) < (n : Int) := by omega
      have hTt : Hid (T = true) := hT.out.trans (thB_yes fun j hj => hal.out j (by have := hn.out; omega))
      have hB2 := hB.out
      go_wp2
      go_ret
      exact ⟨by rw [hTt.out]; rfl, hB2⟩
end Go.Proofs.YtaffplmfnincfaaGreatDoor
