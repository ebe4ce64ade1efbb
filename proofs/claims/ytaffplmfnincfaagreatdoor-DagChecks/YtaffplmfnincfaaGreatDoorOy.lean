/- small. -/
import Derived.Test.YtaffplmfnincfaaGreatDoorOvOx
namespace Go.Proofs.YtaffplmfnincfaaGreatDoor
set_option linter.unusedVariables false
open Go.RowKit
/-- The bytes of a node's texts. -/
def ndSz (x : Nd) : Nat := x.ref.size + x.source.size + x.input.size + x.how.size + x.text.size
def totN (l : List Nd) : Nat := (l.map ndSz).sum
theorem totN_take (l : List Nd) (k : Nat) (h : k < l.length) : totN (l.take (k + 1)) = totN (l.take k) + ndSz (l.getD k nd0) := by
  unfold totN
  rw [List.take_succ_eq_append_getElem h, List.map_append, List.sum_append, List.getD_eq_getElem?_getD, List.getElem?_eq_getElem h]
  simp
/-- Texts that may come in. -/
def NdR (x : Nd) : Prop := x.ref.size ≤ reachBytes ∧ x.source.size ≤ reachBytes ∧ x.input.size ≤ reachBytes ∧ x.how.size ≤ reachBytes ∧ x.text.size ≤ reachBytes
/-- Is something asked of these nodes? -/
def smN (l : List Nd) : Bool := decide (l.length ≤ 24 ∧ totN l ≤ 8000)
theorem totN_bound (l : List Nd) (h : ∀ x ∈ l, NdR x) (k : Nat) : totN (l.take k) ≤ k * (5 * reachBytes) := by
  induction k with
  | zero => simp [totN]
  | succ k ih =>
    by_cases hk : k < l.length
    · rw [totN_take l k hk, Nat.add_mul]
      have := h _ (lgetD_mem l nd0 k hk)
      obtain ⟨h1, h2, h3, h4, h5⟩ := this
      unfold ndSz
      omega
    · rw [List.take_of_length_le (by omega)]
      rw [List.take_of_length_le (by omega)] at ih
      rw [Nat.add_mul]; omega
set_option maxRecDepth 100000 in
set_option maxHeartbeats 8000000 in
/-- small. -/
theorem small7 (a : Option Addr) (n c : Nat) (l : List Nd) (w : World) (hv : Sls encN w (.slice a n c) l) (hr : ∀ x ∈ l, NdR x) (hl : n ≤ 9223372036854775807) : Calls Tryz.prog 7 #[.slice a n c] w fun e w' => e = .returned (.bool (smN l)) ∧ Below w.heap.size w w' := by
  have hn : Hid (n = l.length) := hv.len
  have htb := fun k => totN_bound l hr k
  unfold reachBytes at htb
  replace hv : Hid (Sls encN w (.slice a n c) l) := hv
  obtain ⟨R, hR⟩ : ∃ R, Hid (R = smN l) := ⟨_, rfl⟩
  rw [← hR.out]
  have hR2 : Hid (R = decide (n ≤ 24 ∧ totN l ≤ 8000)) := by rw [hn.out]; exact hR.out
  clear hR
  replace hr : Hid (∀ x ∈ l, NdR x) := hr
  go_enter Tryz.func7, Tryz.ntmps7
  go_wp2
  go_loopw [3, 4] (fun s i wr => ∃ k d : Nat, k ≤ n ∧ k ≤ 25 ∧ i = .int .i64 k ∧ s = .int .i64 (totN (l.take k)) ∧ wr = w.drewN d) (fun _ i _ => n - (intOf i).toNat)
  case atStart => exact ⟨0, 0, Nat.zero_le _, by omega, rfl, rfl, rfl⟩
  case round =>
    obtain ⟨k, d, hk, hk2, rfl, rfl, rfl⟩ := hrel
    have ht := htb k
    by_cases hlt : k < n ∧ k ≤ 24
    · obtain ⟨hlt, h20⟩ := hlt
      have hkl : k < l.length := by have := hn.out; omega
      obtain ⟨b, o, rfl, hc0, hc1, hc2, hc3, hc4, hc5, hc6, hc7, hc8, hc9, hc10⟩ := nd_at hv.out k hkl
      obtain ⟨hs1, hs2, hs3, hs4, hs5⟩ := hr.out _ (lgetD_mem l nd0 k hkl)
      unfold reachBytes at hs1 hs2 hs3 hs4 hs5
      have HT : Hid (totN (l.take (k + 1)) = totN (l.take k) + ndSz (l.getD k nd0)) := totN_take l k hkl
      unfold ndSz at HT
      clear hc1 hc5 hc6 hc7 hc8 hc9
      generalize (l.getD k nd0).ref = s1 at *
      generalize (l.getD k nd0).source = s2 at *
      generalize (l.getD k nd0).input = s3 at *
      generalize (l.getD k nd0).how = s4 at *
      generalize (l.getD k nd0).text = s5 at *
      generalize totN (l.take k) = T at ht HT ⊢
      clear htb hr hv
      have hT : T ≤ 24 * (5 * 140737488351232) := Nat.le_trans ht (Nat.mul_le_mul_right _ h20)
      have hki : (k : Int) < (n : Int) := by omega
      have h20i : (k : Int) ≤ 24 := by omega
      go_wp2
      go_quiet (fail)
      go_wp2
      refine ⟨⟨k + 1, _, by omega, by omega, by go_num, by rw [HT.out]; go_num, rfl⟩, ?_⟩
      simp [intOf]; omega
    · by_cases hall : k = n
      · subst hall
        rw [List.take_of_length_le (by have := hn.out; omega)] at ht ⊢
        generalize totN l = T at ht hR2 ⊢
        clear htb hr hv
        have hkd : ¬ (k : Int) < (k : Int) := by omega
        by_cases h20 : k ≤ 24
        · have h20d : decide ((k : Int) ≤ 24) = true := by simp; omega
          obtain rfl : R = decide ((T : Int) ≤ 8000) := hR2.out.trans (by
            by_cases hT : T ≤ 8000
            · rw [decide_eq_true (show k ≤ 24 ∧ T ≤ 8000 from ⟨h20, hT⟩), decide_eq_true (by omega)]
            · rw [decide_eq_false (fun h => hT h.2), decide_eq_false (by omega)])
          go_wp2
          go_ret
          exact ⟨rfl, below_drewN (Below.refl _ _) _⟩
        · have h20d : decide ((k : Int) ≤ 24) = false := by simp; omega
          obtain rfl : R = false := hR2.out.trans (by simp; omega)
          go_wp2
          go_ret
          exact ⟨rfl, below_drewN (Below.refl _ _) _⟩
      · obtain rfl : R = false := hR2.out.trans (by simp; omega)
        clear htb hr hv
        have h21 : k = 25 := by omega
        subst h21
        have hk3 : (25 : Int) < (n : Int) := by omega
        have h20d : decide ((n : Int) ≤ 24) = false := by simp; omega
        go_wp2
        go_ret
        exact ⟨rfl, below_drewN (Below.refl _ _) _⟩
end Go.Proofs.YtaffplmfnincfaaGreatDoor
