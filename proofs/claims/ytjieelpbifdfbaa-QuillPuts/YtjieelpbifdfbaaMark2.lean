/- A byte that is another one has another mark; marks of slices that the caller lays down. -/
import Derived.Test.YtjieelpbifdfbaaMark
namespace Go.Proofs.Ytjieelpbifdfbaa
open Go.RowKit
theorem xor_cancel (a b p : Nat) (h : a ^^^ p = b ^^^ p) : a = b := by
  have h1 := congrArg (· ^^^ p) h
  simpa [Nat.xor_assoc, Nat.xor_self] using h1
theorem mstep_bit (m : Nat) (h : m < 2 ^ 32) : (mstep m).testBit 31 = decide (m % 2 = 1) := by
  have h0 : (m / 2).testBit 31 = false := Nat.testBit_lt_two_pow (by omega)
  unfold mstep
  split
  · rename_i h1
    rw [Nat.testBit_xor, h0, show Nat.testBit 3945912366 31 = true by decide]; simp [h1]
  · rename_i h1
    rw [h0]; simp [h1]
theorem mstep_inj (a b : Nat) (ha : a < 2 ^ 32) (hb : b < 2 ^ 32) (h : mstep a = mstep b) : a = b := by
  have h1 := mstep_bit a ha
  have h2 := mstep_bit b hb
  rw [h, h2] at h1
  by_cases ho : a % 2 = 1
  · have hbo : b % 2 = 1 := by simpa [ho] using h1
    unfold mstep at h
    rw [if_pos ho, if_pos hbo] at h
    have := xor_cancel _ _ _ h
    omega
  · have hbo : ¬ b % 2 = 1 := by simpa [ho] using h1
    unfold mstep at h
    rw [if_neg ho, if_neg hbo] at h
    omega
theorem miter_inj (k a b : Nat) (ha : a < 2 ^ 32) (hb : b < 2 ^ 32) (h : miter k a = miter k b) : a = b := by
  induction k with
  | zero => exact h
  | succ k ih => exact ih (mstep_inj _ _ (miter_lt k a ha) (miter_lt k b hb) h)
theorem mbyte_inj_left (a b : Nat) (c : Int) (ha : a < 2 ^ 32) (hb : b < 2 ^ 32) (hc : c < 256) (h : mbyte a c = mbyte b c) : a = b :=
  xor_cancel _ _ _ (miter_inj 8 _ _ (Nat.xor_lt_two_pow ha (by omega)) (Nat.xor_lt_two_pow hb (by omega)) h)
theorem mbyte_inj_right (m : Nat) (c d : Int) (hm : m < 2 ^ 32) (hc : 0 ≤ c ∧ c < 256) (hd : 0 ≤ d ∧ d < 256) (h : mbyte m c = mbyte m d) : c = d := by
  have h1 := miter_inj 8 _ _ (Nat.xor_lt_two_pow hm (by omega)) (Nat.xor_lt_two_pow hm (by omega)) h
  rw [Nat.xor_comm m, Nat.xor_comm m] at h1
  have := xor_cancel _ _ _ h1
  omega
theorem mfold_inj (bs : List Int) (hby : IsBytes bs) : ∀ a b, a < 2 ^ 32 → b < 2 ^ 32 → mfold a bs = mfold b bs → a = b := by
  induction bs with
  | nil => intro a b _ _ h; exact h
  | cons c r ih =>
    intro a b ha hb h
    have hc := hby c (by simp)
    exact mbyte_inj_left a b c ha hb hc.2 (ih (fun x hx => hby x (by simp [hx])) _ _ (mbyte_lt a c ha hc.2) (mbyte_lt b c hb hc.2) h)
theorem mfold_split (m : Nat) (p : List Int) (k : Nat) (h : k < p.length) (x : Int) : mfold m (p.set k x) = mfold (mbyte (mfold m (p.take k)) x) (p.drop (k + 1)) := by
  rw [List.set_eq_take_append_cons_drop, if_pos h, mfold_append]; rfl
theorem mfold_same (m : Nat) (p : List Int) (k : Nat) (h : k < p.length) : mfold m p = mfold (mbyte (mfold m (p.take k)) (p.getD k 0)) (p.drop (k + 1)) := by
  rw [← mfold_split m p k h]
  congr 1
  simp [h]
/-- Of bytes with one byte written anew the mark is the same just if the byte is. -/
theorem mfold_set (m : Nat) (p : List Int) (k : Nat) (x : Int) (hm : m < 2 ^ 32) (hp : IsBytes p) (hk : k < p.length) (hx : 0 ≤ x ∧ x < 256) : mfold m (p.set k x) = mfold m p ↔ x = p.getD k 0 := by
  have hy := hp _ (getD_mem p 0 k hk)
  have hM := mfold_lt (p.take k) (hp.take k) m hm
  rw [mfold_split m p k hk, mfold_same m p k hk]
  constructor
  · intro h
    exact mbyte_inj_right _ _ _ hM hx hy (mfold_inj _ (hp.drop _) _ _ (mbyte_lt _ _ hM hx.2) (mbyte_lt _ _ hM hy.2) h)
  · intro h; rw [h]
theorem isBytes_set (p : List Int) (k : Nat) (x : Int) (hp : IsBytes p) (hx : 0 ≤ x ∧ x < 256) : IsBytes (p.set k x) := by
  intro c hc
  rcases List.mem_or_eq_of_mem_set hc with h | h
  · exact hp c h
  · rw [h]; exact hx

theorem cell_of_heap {W : World} {g i : Nat} {C : Array Value} {e : TypeId} {fr : Nat × Nat} (h : W.heap[g]? = some (.cells C e fr)) : W.cell? ⟨g, i, none⟩ = C[i]? := by
  simp [World.cell?, h]
/-- quill.Mark of slices that lie, side by side, in a new block. -/
theorem mark_alloc (vs : List Value) (ls : List (List Int)) (w : World) (hv : vs.length = ls.length) (hby : ∀ p ∈ ls, IsBytes p) (hl : ∀ p ∈ ls, p.length ≤ 1000000000) (hlen : ls.length ≤ 1000) (hb : ∀ t, t < ls.length → Bts w (vs.getD t undef) (ls.getD t []))
    (C : Array Value) (hC : C = vs.toArray) (n : Nat) (hn : n = ls.length) (M : Nat) (hM : mfold 4294967295 ls.flatten = M) :
    Calls Try.prog 17 #[.slice (some ⟨w.heap.size, 0, none⟩) n n] (w.alloc (.cells C 22)) fun e w' => e = .returned (.int .u32 M) ∧ w' = w.alloc (.cells C 22) := by
  subst hC hn hM
  refine mark_some ls w.heap.size 0 ls.length _ hby hl hlen (fun t ht => ⟨vs.getD t undef, ?_, (hb t ht).alloc _⟩)
  have h1 : (w.alloc (.cells vs.toArray 22)).heap[w.heap.size]? = some (.cells vs.toArray 22) := heap_alloc_new w _
  rw [cell_of_heap h1]
  simp [show t < vs.length by omega]

/-- The same, of a world that is a letter. -/
theorem mark_at {w : World} (vs : List Value) (ls : List (List Int)) (hv : vs.length = ls.length) (hby : ∀ p ∈ ls, IsBytes p) (hl : ∀ p ∈ ls, p.length ≤ 1000000000) (hlen : ls.length ≤ 1000) (hb : ∀ t, t < ls.length → Bts w (vs.getD t undef) (ls.getD t []))
    (n : Nat) (hn : n = ls.length) (M : Nat) (hM : mfold 4294967295 ls.flatten = M) :
    ∀ (W : World) (g : Nat), W.heap[g]? = some (.cells vs.toArray 22 (0, 0)) → Below w.heap.size w W → Calls Try.prog 17 #[.slice (some ⟨g, 0, none⟩) n n] W fun e w' => e = .returned (.int .u32 M) ∧ w' = W := by
  subst hn hM
  intro W g hg hW
  refine mark_some ls g 0 ls.length W hby hl hlen (fun t ht => ⟨vs.getD t undef, ?_, (hb t ht).grow hW⟩)
  rw [cell_of_heap hg]
  simp [show t < vs.length by omega]
theorem bts_nil (W : World) : Bts W (.slice none 0 0) [] := ⟨none, 0, rfl, ⟨fun _ => rfl, Nat.le_refl _⟩, .inl rfl⟩
end Go.Proofs.Ytjieelpbifdfbaa
