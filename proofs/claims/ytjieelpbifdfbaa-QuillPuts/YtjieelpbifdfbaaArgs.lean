/- Slices of integers that came in, in the words of the walks. -/
import Derived.Test.YtjieelpbifdfbaaStrip
import Derived.OpenShut
namespace Go.Proofs.Ytjieelpbifdfbaa
open Go.RowKit
/-- What is known of a slice of integers that came in: it is nil; or it leads to a row of 'cap' cells, the numbers 'zs' (the first 'len' are its elements). -/
def IsRow (k : IntKind) (w : World) (a : Option Addr) (len cap : Nat) (zs : List Int) : Prop :=
  (a = none ∧ len = 0 ∧ cap = 0 ∧ zs = []) ∨
  ∃ x, a = some x ∧ len ≤ cap ∧ cap ≤ maxLen ∧ zs.length = cap ∧ (∀ i, i < zs.length → w.cell? (x.add i) = some (.int k (zs.getD i 0))) ∧ ∀ n ∈ zs, (Lit.int k n).wf = true
theorem IsRow.len {k : IntKind} {w : World} {a : Option Addr} {len cap : Nat} {zs : List Int} (h : IsRow k w a len cap zs) : (zs.take len).length = len := by
  rcases h with ⟨_, rfl, _, rfl⟩ | ⟨x, _, h1, _, h2, _⟩
  · rfl
  · rw [List.length_take]; omega
/-- Its elements, as a row that is read. -/
theorem IsRow.rest {k : IntKind} {w : World} {a : Option Addr} {len cap : Nat} {zs : List Int} (h : IsRow k w a len cap zs) :
    zs.take len = [] ∨ ∃ b o, a = some ⟨b, o, none⟩ ∧ Rest w 0 (zs.take len).length b o (fun t => .int k ((zs.take len).getD t 0)) ∧ b < w.heap.size := by
  have hl := h.len
  rcases h with ⟨_, rfl, _, rfl⟩ | ⟨x, rfl, h1, _, h2, hc, _⟩
  · exact .inl rfl
  · by_cases h0 : len = 0
    · subst h0; exact .inl rfl
    · obtain ⟨b, o, rfl, hcell⟩ := ints_at hc (by omega)
      refine .inr ⟨b, o, rfl, fun t _ ht => ?_, World.block_lt_of_cell? w ⟨b, o + 0, none⟩ (hcell 0 (by omega))⟩
      rw [hl] at ht
      rw [hcell t (by omega)]
      simp [ht]
theorem IsRow.wf {k : IntKind} {w : World} {a : Option Addr} {len cap : Nat} {zs : List Int} (h : IsRow k w a len cap zs) : ∀ n ∈ zs.take len, (Lit.int k n).wf = true := by
  intro n hn
  rcases h with ⟨_, rfl, _, rfl⟩ | ⟨x, rfl, _, _, _, _, hw⟩
  · simp at hn
  · exact hw n (List.mem_of_mem_take hn)
/-- A slice of bytes that came in is read. -/
theorem IsRow.bts {w : World} {a : Option Addr} {len cap : Nat} {zs : List Int} (h : IsRow .u8 w a len cap zs) : Bts w (.slice a len cap) (zs.take len) := by
  have hl := h.len
  refine ⟨a, cap, by rw [hl], ⟨fun e => ?_, ?_⟩, ?_⟩
  · rcases h with ⟨_, _, h, _⟩ | ⟨x, rfl, _⟩
    · exact h
    · cases e
  · rcases h with ⟨_, rfl, _, rfl⟩ | ⟨x, _, h1, _, h2, _⟩
    · simp
    · rw [hl]; exact h1
  · rcases h.rest with h | ⟨b, o, e, hr, _⟩
    · exact .inl h
    · exact .inr ⟨b, o, e, hr⟩
theorem IsRow.isBytes {w : World} {a : Option Addr} {len cap : Nat} {zs : List Int} (h : IsRow .u8 w a len cap zs) : IsBytes (zs.take len) := by
  intro c hc
  have := bounds_u8 (h.wf c hc)
  omega
theorem u64_bounds (a : Int) (h : (Lit.int .u64 a).wf = true) : 0 ≤ a ∧ a < 18446744073709551616 := by
  have := bounds_u64 h
  omega

theorem Bts.shape {w : World} {v : Value} {xs : List Int} (h : Bts w v xs) : ∃ a c, v = .slice a xs.length c := by
  obtain ⟨a, c, h, _⟩ := h
  exact ⟨a, c, h⟩
/-- v[:k], k within the length, as an int. -/
theorem slice_toI {w : World} {v : Value} {bs : List Int} (hb : Bts w v bs) (k : Nat) (hk : k ≤ bs.length) :
    ∃ v2, (∀ W, (Instr.slice 22 v none (some (.int .i64 (k : Int))) none).run Try.prog W = .ok v2 W) ∧ Bts w v2 (bs.take k) := by
  obtain ⟨v2, h1, h2⟩ := slice_to hb k hk
  refine ⟨v2, fun W => ?_, h2⟩
  obtain ⟨a, c, rfl, ⟨hn, hc⟩, _⟩ := hb
  have h3 := h1 W
  rw [run_slice_h W 22 a bs.length c elem22 .u64 k (by omega) (by omega)] at h3
  rw [run_slice_h W 22 a bs.length c elem22 .i64 k (by omega) (by omega)]
  exact h3

/-- What is owned and not empty lies at the head of a block. -/
theorem Own.form {w : World} {base : Nat} {v : Value} {xs : List Int} (h : Own w base v xs) (hne : 0 < xs.length) : ∃ g cap, v = .slice (some ⟨g, 0, none⟩) xs.length cap ∧ base ≤ g ∧ g < w.heap.size := by
  have h' := h.lt
  obtain ⟨_, h2⟩ := h
  rcases h2 with ⟨_, h0⟩ | ⟨g, cap, cur, rfl, hb, hg, _⟩
  · omega
  · exact ⟨g, cap, rfl, hb, lt_of_block hg⟩
theorem Own.cellAt {w : World} {base g cap : Nat} {xs : List Int} (h : Own w base (.slice (some ⟨g, 0, none⟩) xs.length cap) xs) (j : Nat) (hj : j < xs.length) : w.cell? ⟨g, j, none⟩ = some (.int .u8 (xs.getD j 0)) ∧ w.frozen? ⟨g, j, none⟩ = false := by
  refine ⟨?_, World.ownsRow.frozenAt h j⟩
  rw [World.ownsRow.cellAt h j (by omega)]
  simp [hj]
theorem Own.store {w : World} {base g cap : Nat} {xs : List Int} (h : Own w base (.slice (some ⟨g, 0, none⟩) xs.length cap) xs) (hb : base ≤ g) (j : Nat) (x : Int) : Own (w.setCell ⟨g, j, none⟩ (.int .u8 x)) base (.slice (some ⟨g, 0, none⟩) xs.length cap) (xs.set j x) ∧ Below base w (w.setCell ⟨g, j, none⟩ (.int .u8 x)) := by
  refine ⟨?_, (Below.refl base w).setCell hb _⟩
  have := (World.ownsRow.stored h j (.int .u8 x)).1
  unfold Own
  rw [List.length_set, List.map_set]
  exact this
end Go.Proofs.Ytjieelpbifdfbaa
