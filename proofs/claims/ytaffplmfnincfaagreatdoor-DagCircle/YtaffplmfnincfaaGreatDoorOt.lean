/- Check. -/
import Derived.Test.YtaffplmfnincfaaGreatDoorOpOs
import Derived.Test.YtaffplmfnincfaaGreatDoorOjOo
namespace Go.Proofs.YtaffplmfnincfaaGreatDoor
set_option linter.unusedVariables false
open Go.RowKit
set_option maxRecDepth 100000 in
set_option maxHeartbeats 4000000 in
/-- slices.IndexFunc at nodes. -/
theorem idx53 (v : Value) (l : List Nd) (w : World) (hv : Sls encN w v l) (hl : l.length ≤ 1000000) (hp : ∀ k W, k < l.length → Below w.heap.size w W → Calls Tryz.prog 33 #[ndV (l.getD k nd0)] W fun e w' => e = .returned (.bool (!mayB (l.getD k nd0))) ∧ Below W.heap.size W w') : Calls Tryz.prog 53 #[v, .func (.func 33) #[] #[]] w fun e w' => e = .returned (.int .i64 (idxP (fun x => !mayB x) l)) ∧ Below w.heap.size w w' := by
  obtain ⟨a, c, rfl⟩ := hv.shape
  replace hv : Hid (Sls encN w (.slice a l.length c) l) := hv
  replace hp : Hid (∀ k W, k < l.length → Below w.heap.size w W → Calls Tryz.prog 33 #[ndV (l.getD k nd0)] W fun e w' => e = .returned (.bool (!mayB (l.getD k nd0))) ∧ Below W.heap.size W w') := hp
  cases hany : l.any (fun x => !mayB x) with
  | false =>
    have hid : Hid (idxP (fun x => !mayB x) l = -1) := by unfold idxP; rw [hany]; rfl
    have hno : Hid (∀ k, k < l.length → (!mayB (l.getD k nd0)) = false) := fun k hk => idxP_none (fun x => !mayB x) _ hany k hk
    clear hany
    rw [hid.out]
    go_enter Tryz.func53, Tryz.ntmps53
    go_wp2
    go_loopw [8] (fun i wr => ∃ k : Nat, k ≤ l.length ∧ i = .int .i64 k ∧ Hid (Below w.heap.size w wr)) (fun i _ => l.length - (intOf i).toNat)
    case atStart => exact ⟨0, Nat.zero_le _, rfl, Below.refl _ _⟩
    case round =>
      obtain ⟨k, hk, rfl, hB⟩ := hrel
      by_cases hlt : k < l.length
      · have hki : (k : Int) < (l.length : Int) := by omega
        obtain ⟨b, o, rfl, c0, c1, c2, c3, c4, c5, c6, c7, c8, c9, c10⟩ := nd_at (hv.out.grow hB.out) k hlt
        have hu := hp.out k wr hlt hB.out
        rw [hno.out k hlt] at hu
        generalize l.getD k nd0 = r at *
        go_wp2_with (first
          | (go_at_call 33; refine hu.mono ?_; rintro e w1 ⟨rfl, hb1⟩; have hB1 : Hid _ := hB.out.trans (hb1.mono hB.out.size)))
        refine ⟨⟨k + 1, by omega, by go_num, hB1⟩, ?_⟩
        simp [intOf]; omega
      · obtain rfl : k = l.length := by omega
        have hki : ¬ (l.length : Int) < (l.length : Int) := by omega
        have hB' := hB.out
        go_wp2
        go_ret
        exact ⟨rfl, hB'⟩
  | true =>
    obtain ⟨h1, h2, h3⟩ := idxP_some (fun x => !mayB x) nd0 hany
    have hid : Hid (idxP (fun x => !mayB x) l = (l.findIdx (fun x => !mayB x) : Int)) := by unfold idxP; rw [hany]; rfl
    rw [hid.out]
    clear hid hany
    generalize l.findIdx (fun x => !mayB x) = K at *
    replace h2 : Hid ((!mayB (l.getD K nd0)) = true) := h2
    replace h3 : Hid (∀ k, k < K → (!mayB (l.getD k nd0)) = false) := h3
    go_enter Tryz.func53, Tryz.ntmps53
    go_wp2
    go_loopw [8] (fun i wr => ∃ k : Nat, k ≤ K ∧ i = .int .i64 k ∧ Hid (Below w.heap.size w wr)) (fun i _ => l.length - (intOf i).toNat)
    case atStart => exact ⟨0, Nat.zero_le _, rfl, Below.refl _ _⟩
    case round =>
      obtain ⟨k, hk, rfl, hB⟩ := hrel
      have hki : (k : Int) < (l.length : Int) := by omega
      obtain ⟨b, o, rfl, c0, c1, c2, c3, c4, c5, c6, c7, c8, c9, c10⟩ := nd_at (hv.out.grow hB.out) k (by omega)
      have hu := hp.out k wr (by omega) hB.out
      by_cases hlt : k < K
      · rw [h3.out k hlt] at hu
        generalize l.getD k nd0 = r at *
        go_wp2_with (first
          | (go_at_call 33; refine hu.mono ?_; rintro e w1 ⟨rfl, hb1⟩; have hB1 : Hid _ := hB.out.trans (hb1.mono hB.out.size)))
        refine ⟨⟨k + 1, by omega, by go_num, hB1⟩, ?_⟩
        simp [intOf]; omega
      · obtain rfl : k = K := by omega
        rw [h2.out] at hu
        clear h3
        generalize l.getD k nd0 = r at *
        go_wp2_with (first
          | (go_at_call 33; refine hu.mono ?_; rintro e w1 ⟨rfl, hb1⟩; have hB1 := hB.out.trans (hb1.mono hB.out.size)))
        go_ret
        exact ⟨rfl, hB1⟩
set_option maxRecDepth 100000 in
set_option maxHeartbeats 2000000 in
/-- slices.ContainsFunc at nodes. -/
theorem cont32 (v : Value) (l : List Nd) (w : World) (hv : Sls encN w v l) (hl : l.length ≤ 1000000) (hp : ∀ k W, k < l.length → Below w.heap.size w W → Calls Tryz.prog 33 #[ndV (l.getD k nd0)] W fun e w' => e = .returned (.bool (!mayB (l.getD k nd0))) ∧ Below W.heap.size W w') : Calls Tryz.prog 32 #[v, .func (.func 33) #[] #[]] w fun e w' => e = .returned (.bool (l.any (fun x => !mayB x))) ∧ Below w.heap.size w w' := by
  have hi := idx53 v l w hv hl hp
  obtain ⟨a, c, rfl⟩ := hv.shape
  clear hp hv
  cases hany : l.any (fun x => !mayB x) with
  | false =>
    rw [show idxP (fun x => !mayB x) l = -1 by unfold idxP; rw [hany]; rfl] at hi
    go_enter Tryz.func32, Tryz.ntmps32
    go_wp2_with (first | (go_at_call 53; refine hi.mono ?_; rintro e w1 ⟨rfl, hb1⟩))
    go_ret
    exact ⟨rfl, hb1⟩
  | true =>
    rw [show idxP (fun x => !mayB x) l = (l.findIdx (fun x => !mayB x) : Int) by unfold idxP; rw [hany]; rfl] at hi
    generalize l.findIdx (fun x => !mayB x) = K at *
    go_enter Tryz.func32, Tryz.ntmps32
    go_wp2_with (first | (go_at_call 53; refine hi.mono ?_; rintro e w1 ⟨rfl, hb1⟩))
    go_ret
    exact ⟨by simp, hb1⟩
end Go.Proofs.YtaffplmfnincfaaGreatDoor
