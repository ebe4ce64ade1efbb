/- A meta's bytes with one byte that is another one: the mathematics. -/
import Derived.Test.YtcgjolonapndgabDoorMArgs
namespace Go.Proofs.YtcgjolonapndgabDoor
open Go.RowKit
theorem miter_inj (k a b : Nat) (ha : a < 2 ^ 32) (hb : b < 2 ^ 32) (h : miter k a = miter k b) : a = b := by
  by_cases h0 : a ^^^ b = 0
  · exact xor_cancel a b b (by rw [h0, Nat.xor_self])
  · have h1 := miter_ne k (a ^^^ b) (Nat.xor_lt_two_pow ha hb) h0
    rw [miter_xor, h, Nat.xor_self] at h1
    exact absurd rfl h1
theorem mbyte_inj {m n : Nat} {c e : Int} (hm : m < 2 ^ 32) (hn : n < 2 ^ 32) (hc : 0 ≤ c ∧ c < 256) (he : 0 ≤ e ∧ e < 256) (h : mbyte m c = mbyte n e) : m ^^^ c.toNat = n ^^^ e.toNat :=
  miter_inj 8 _ _ (Nat.xor_lt_two_pow hm (by omega)) (Nat.xor_lt_two_pow hn (by omega)) h
theorem mfold_inj (t : List Int) (ht : IsBytes t) : ∀ m n, m < 2 ^ 32 → n < 2 ^ 32 → mfold m t = mfold n t → m = n := by
  induction t with
  | nil => intro m n _ _ h; exact h
  | cons x r ih =>
    intro m n hm hn h
    have hx := ht x (by simp)
    have h1 := ih (fun z hz => ht z (by simp [hz])) _ _ (mbyte_lt m x hm hx.2) (mbyte_lt n x hn hx.2) h
    exact xor_cancel _ _ _ (mbyte_inj hm hn hx hx h1)
theorem mfold_set (p : List Int) (hp : IsBytes p) (c : Int) (hc : 0 ≤ c ∧ c < 256) : ∀ i m, i < p.length → m < 2 ^ 32 → c ≠ p.getD i 0 → mfold m (p.set i c) ≠ mfold m p := by
  induction p with
  | nil => intro i m h; simp at h
  | cons x r ih =>
    intro i m hi hm hne h
    have hx := hp x (by simp)
    have hr : IsBytes r := fun z hz => hp z (by simp [hz])
    cases i with
    | zero =>
      have h1 := mfold_inj r hr _ _ (mbyte_lt m c hm hc.2) (mbyte_lt m x hm hx.2) h
      have h2 := mbyte_inj hm hm hc hx h1
      rw [Nat.xor_comm m, Nat.xor_comm m] at h2
      have h3 := xor_cancel _ _ _ h2
      apply hne
      simp
      omega
    | succ i => exact ih hr i _ (by simpa using hi) (mbyte_lt m x hm hx.2) (by simpa using hne) h
theorem isMeta_first {bs : List Int} (h : isMeta bs = true) : bs.take 8 = be 8 (seqOf bs) := by
  obtain ⟨_, h2, _⟩ := isMeta_eq h
  have h3 := congrArg (List.take 8) h2
  rw [List.take_take, Nat.min_eq_left (by omega)] at h3
  rw [← h3]
  have := metaB_split (seqOf bs) (rootOf bs) (keysI bs) (depthOf bs) []
  rw [List.append_nil] at this
  rw [this, List.take_left' (be_len _ _)]
theorem isMeta_mark {bs : List Int} (h : isMeta bs = true) : (bs.drop 24).take 4 = mk (bs.take 24) := by
  obtain ⟨_, h2, _⟩ := isMeta_eq h
  have h3 := congrArg (List.take 24) h2
  rw [List.take_take, Nat.min_eq_left (by omega)] at h3
  have h4 := congrArg (fun l => (List.drop 24 l).take 4) h2
  simp only [List.drop_take, List.take_take] at h4
  rw [show min 4 (36 - 24) = 4 by rfl] at h4
  rw [← h4, ← h3]
  unfold metaB
  rw [List.append_assoc, List.drop_left' (mhead_len _ _ _ _), List.take_left' (mk_len _), List.take_left' (mhead_len _ _ _ _)]
theorem getD_take_drop (bs : List Int) (a n j : Nat) (h : j < n) : ((bs.drop a).take n).getD j 0 = bs.getD (a + j) 0 := by
  simp [h]
theorem getD_take (bs : List Int) (n j : Nat) (h : j < n) : (bs.take n).getD j 0 = bs.getD j 0 := by
  simp [h]
theorem not_set {bs : List Int} (h : isMeta bs = true) (hby : IsBytes bs) (i : Nat) (hi : i < 36) (c : Int) (hc : 0 ≤ c ∧ c < 256) (hne : c ≠ bs.getD i 0) : isMeta (bs.set i c) = false := by
  cases hX : isMeta (bs.set i c) with
  | false => rfl
  | true =>
    exfalso
    have hl := (isMeta_eq h).1
    have hg : (bs.set i c).getD i 0 = c := by simp [show i < bs.length by omega]
    have hbX : IsBytes (bs.set i c) := fun z hz => by
      rcases List.mem_or_eq_of_mem_set hz with h1 | h1
      · exact hby z h1
      · rw [h1]; exact hc
    have q1 := seqOf_lt _ hby
    have q2 := seqOf_lt _ hbX
    have f1 := isMeta_first hX
    have f2 := isMeta_last hX
    have f3 := isMeta_mark hX
    have g1 := isMeta_first h
    have g2 := isMeta_last h
    have g3 := isMeta_mark h
    by_cases c1 : i < 8
    · rw [List.drop_set_of_lt (by omega), g2] at f2
      rw [← f2, ← g1] at f1
      have := congrArg (fun l => List.getD l i 0) f1
      simp only [getD_take _ _ _ c1] at this
      rw [hg] at this
      exact hne this
    by_cases c2 : 28 ≤ i
    · rw [List.take_set_of_le (by omega), g1] at f1
      rw [← f1, ← g2] at f2
      have := congrArg (fun l => List.getD l (i - 28) 0) f2
      simp only [getD_take_drop _ 28 8 (i - 28) (by omega), show 28 + (i - 28) = i by omega] at this
      rw [hg] at this
      exact hne this
    by_cases c3 : 24 ≤ i
    · rw [List.take_set_of_le (by omega), ← g3] at f3
      have := congrArg (fun l => List.getD l (i - 24) 0) f3
      simp only [getD_take_drop _ 24 4 (i - 24) (by omega), show 24 + (i - 24) = i by omega] at this
      rw [hg] at this
      exact hne this
    · rw [List.drop_set_of_lt (by omega), g3, List.take_set] at f3
      have hb24 : IsBytes (bs.take 24) := hby.take 24
      have hX24 : IsBytes ((bs.take 24).set i c) := by rw [← List.take_set]; exact hbX.take 24
      have h1 := mfold_lt _ hb24 4294967295 (by decide)
      have h2 := mfold_lt _ hX24 4294967295 (by decide)
      have h3 := be_inj 4 _ _ (by omega) (by omega) f3
      refine mfold_set (bs.take 24) hb24 c hc i 4294967295 (by simp; omega) (by decide) ?_ h3.symm
      rw [getD_take _ _ _ (by omega)]
      exact hne
end Go.Proofs.YtcgjolonapndgabDoor
