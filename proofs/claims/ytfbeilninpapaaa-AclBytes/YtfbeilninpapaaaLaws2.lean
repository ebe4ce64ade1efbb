/- Slices of bytes that are read ('Bts'), and the laws of append and of conversion to a string in its words. -/
import Derived.Test.YtfbeilninpapaaaPut2
import Derived.Lib.AppendStr
import Derived.Laws.AppendOwnNone
import Derived.Laws.BytesArg
import Derived.Lib.SliceRun
namespace Go.Proofs.Ytfbeilninpapaaa
open Go.RowKit
/-- A slice value whose elements are the bytes bs. -/
def Bts (w : World) (v : Value) (bs : List Int) : Prop :=
  ∃ a c, v = .slice a bs.length c ∧ ((a = none → c = 0) ∧ bs.length ≤ c) ∧ (bs = [] ∨ ∃ b o, a = some ⟨b, o, none⟩ ∧ Rest w 0 bs.length b o fun t => .int .u8 (bs.getD t 0))

theorem Bts.below {w w' : World} {B : Nat} {v : Value} {bs : List Int} (h : Bts w v bs) (hb : Below B w w') (hv : ∀ k, v.ownBlock = some k → k < B) : Bts w' v bs := by
  obtain ⟨a, c, rfl, hn, h1⟩ := h
  refine ⟨a, c, rfl, hn, ?_⟩
  rcases h1 with h1 | ⟨b, o, rfl, hr⟩
  · exact .inl h1
  · refine .inr ⟨b, o, rfl, fun t h0 ht => ?_⟩
    exact (hb.cell (p := ⟨b, o + t, none⟩) (hv b rfl)).trans (hr t h0 ht)

/-- New blocks, and writes to what was not there: what is read stays. -/
theorem Bts.grow {w w' : World} {v : Value} {bs : List Int} (h : Bts w v bs) (hb : Below w.heap.size w w') : Bts w' v bs := by
  obtain ⟨a, c, rfl, hn, h1⟩ := h
  refine ⟨a, c, rfl, hn, ?_⟩
  rcases h1 with h1 | ⟨b, o, rfl, hr⟩
  · exact .inl h1
  · refine .inr ⟨b, o, rfl, fun t h0 ht => ?_⟩
    have := hr t h0 ht
    exact (hb.cell (p := ⟨b, o + t, none⟩) (World.block_lt_of_cell? w _ this)).trans this

theorem Bts.alloc {w : World} {v : Value} {bs : List Int} (h : Bts w v bs) (o : Obj) : Bts (w.alloc o) v bs :=
  h.grow ((Below.refl _ w).alloc (Nat.le_refl _) o)

theorem add_at (b o j : Nat) : (⟨b, o, none⟩ : Addr).add j = ⟨b, o + j, none⟩ := by cases j <;> simp [Addr.add]

/-- What is owned is read. -/
theorem Own.bts {w : World} {base : Nat} {v : Value} {xs : List Int} (h : Own w base v xs) : Bts w v xs := by
  have h' := h
  obtain ⟨h1, h2⟩ := h
  rcases h2 with ⟨rfl, h0⟩ | ⟨g, cap, cur, rfl, _, _, hcap, _, _, _⟩
  · have : xs = [] := by simpa using h0
    subst this
    exact ⟨none, 0, rfl, ⟨fun _ => rfl, Nat.le_refl _⟩, .inl rfl⟩
  · refine ⟨_, cap, rfl, ⟨(fun e => by cases e), hcap⟩, .inr ⟨g, 0, rfl, fun t _ ht => ?_⟩⟩
    have hc := World.ownsRow.cells h' rfl t (.int .u8 (xs.getD t 0)) (by simp [List.getElem?_map, List.getElem?_eq_getElem ht])
    rw [add_at] at hc; exact hc

theorem Own.shape {w : World} {base : Nat} {v : Value} {xs : List Int} (h : Own w base v xs) : ∃ a c, v = .slice a xs.length c := by
  obtain ⟨a, c, h, _⟩ := h.bts
  exact ⟨a, c, h⟩

theorem Own.lt {w : World} {base : Nat} {v : Value} {xs : List Int} (h : Own w base v xs) : ∀ k, v.ownBlock = some k → base ≤ k ∧ k < w.heap.size := World.ownsRow.lt h

theorem Own.alloc {w : World} {base : Nat} {v : Value} {xs : List Int} (h : Own w base v xs) (o : Obj) : Own (w.alloc o) base v xs := World.ownsRow.alloc h o

/-- append(s, x...), x a slice of bytes. -/
theorem appX {w : World} {ops : Array Oper} {rest : List Oper} {o : Oper} {a : Act} {Q : Exit → Act → World → Prop} (hgd : o.guard = none) (s x : Operand)
    (ho : o.op = .call { callee := .builtin .append, args := #[s, x], argTypes := #[40, 40] })
    (base : Nat) (v u : Value) (xs bs : List Int) (hs : a.eval s = v) (hx : a.eval x = u)
    (hown : Own w base v xs) (hb : Bts w u bs) (hbase : base ≤ w.heap.size) (hlen : xs.length + bs.length ≤ 140737488355328)
    (h : ∀ v' w', Own w' base v' (xs ++ bs) → Below base w w' → (v' = .slice none 0 0 ↔ v = .slice none 0 0 ∧ bs = []) → wpList Try.prog ops Q rest (a.put o.dst v') w') :
    wpList Try.prog ops Q (o :: rest) a w := by
  obtain ⟨i0, hi, hz0, hz1, hz2⟩ := info_parts info5
  obtain ⟨ad, c, rfl, hnil, hcell⟩ := hb
  cases ad with
  | none =>
    have hbs : bs = [] := by
      rcases hcell with hcell | ⟨_, _, e, _⟩
      · exact hcell
      · cases e
    subst hbs
    obtain rfl := hnil.1 rfl
    refine wpList_append_own_none hgd s x 40 ho base 5 i0 1 Try.underlying40 hi v xs.length (xs.map (Value.int .u8)) hs hown hx ?_
    exact h v w (by simpa using hown) (Below.refl _ _) (by simp)
  | some ad =>
    refine wpList_append_own _ hgd s x 40 ho base 5 i0 (.int .u8 0) 1 1 Try.underlying40 hi hz0 hz1 hz2 rfl (by decide) v xs.length (xs.map (Value.int .u8)) hs hown ad bs.length c (bs.map (Value.int .u8)) hx (by simp) ?_ (ints_oneCell _ _) (by unfold maxLen; omega) (by omega) hbase ?_
    · intro j y hj
      rcases hcell with rfl | ⟨b, o, e, hr⟩
      · simp at hj
      · cases e
        rw [List.getElem?_map] at hj
        have hjl : j < bs.length := by
          rcases Nat.lt_or_ge j bs.length with h | h
          · exact h
          · rw [List.getElem?_eq_none h] at hj; cases hj
        have := hr j (Nat.zero_le _) hjl
        rw [List.getElem?_eq_getElem hjl] at hj
        simp only [Option.map_some, Option.some.injEq] at hj
        subst hj
        rw [add_at, this]; simp [hjl]
    · intro v' w' h1 h2 h3
      refine h v' w' ?_ ?_ (by simpa using h3)
      · unfold Own; simpa using h1
      · exact (Below.refl base w).grown h2 hbase (fun k hk => (hown.lt k hk).1)

/-- A string's bytes as numbers. -/
def numsS (s : ByteArray) : List Int := s.data.toList.map fun b => (b.toNat : Int)
theorem numsS_length (s : ByteArray) : (numsS s).length = s.size := by rw [numsS, List.length_map, Array.length_toList]; rfl
theorem strOf_numsS (s : ByteArray) : strOfNums (numsS s) = s := by
  simp only [strOfNums, numsS, List.map_map]
  have : s.data.toList.map ((fun n : Int => UInt8.ofNat n.toNat) ∘ fun b : UInt8 => (b.toNat : Int)) = s.data.toList := by
    rw [List.map_congr_left (g := id)]
    · simp
    · intro a _; simp
  rw [this]

/-- append(s, x...), x a string. -/
theorem appS {w : World} {ops : Array Oper} {rest : List Oper} {o : Oper} {a : Act} {Q : Exit → Act → World → Prop} (hgd : o.guard = none) (sl x : Operand)
    (ho : o.op = .call { callee := .builtin .append, args := #[sl, x], argTypes := #[40, 9] })
    (base : Nat) (v : Value) (xs : List Int) (s : ByteArray) (hs : a.eval sl = v) (hx : a.eval x = .string s)
    (hown : Own w base v xs) (hbase : base ≤ w.heap.size) (hlen : xs.length + s.size ≤ 140737488355328)
    (h : ∀ v' w', Own w' base v' (xs ++ numsS s) → Below base w w' → wpList Try.prog ops Q rest (a.put o.dst v') w') :
    wpList Try.prog ops Q (o :: rest) a w := by
  obtain ⟨i0, hi, hz0, hz1, hz2⟩ := info_parts info5
  refine Lib.wpList_append_own_string _ hgd sl x 40 9 ho base 5 i0 Try.underlying40 Try.underlying9 hi hz0 hz1 hz2 v xs.length (xs.map (Value.int .u8)) hs hown s hx (by unfold maxLen; omega) hlen hbase ?_
  intro v' w' h1 h2 _
  refine h v' w' ?_ ((Below.refl base w).grown h2 hbase (fun k hk => (hown.lt k hk).1))
  unfold Own
  have e : (xs ++ numsS s).map (Value.int .u8) = xs.map (Value.int .u8) ++ Lib.strCells s := by simp [numsS, Lib.strCells]
  rw [e, List.length_append, numsS_length]; exact h1

/-- string(v). -/
theorem conv_str {w : World} {v : Value} {bs : List Int} (hb : Bts w v bs) : (convert 40 9 v).run Try.prog w = .ok (.string (strOfNums bs)) w := by
  obtain ⟨ad, c, rfl, hnil, hcell⟩ := hb
  rcases hcell with rfl | ⟨b, o, rfl, hr⟩
  · cases ad with
    | none => exact run_convert_bytes_nil w 40 5 Try.underlying40 Try.underlying5 _ _ 9 Try.underlying9
    | some ad =>
      rw [run_convert_bytes_string w 40 9 5 _ _ _ Try.underlying40 Try.underlying5 Try.underlying9]
      simp [Conv.bytesToString, loadCells]
      rfl
  · exact run_convert_bytes_arg w 40 5 Try.underlying40 Try.underlying5 b o bs.length c bs rfl (fun i hi => hr i (Nat.zero_le _) hi) 9 Try.underlying9

theorem size5 (W : World) : (sizeOf (Try.prog.elem 40)).run Try.prog W = .ok 1 W := by kernel_rfl
theorem elem22 : Try.prog.underlying 40 = some (.slice (Try.prog.elem 40)) := by kernel_rfl

/-- v[k:], k within the length. -/
theorem slice_from {w : World} {v : Value} {bs : List Int} (hb : Bts w v bs) (k : Nat) (hk : k ≤ bs.length) :
    ∃ v2, (∀ W, (Instr.slice 40 v (some (.int .i64 (k : Int))) none none).run Try.prog W = .ok v2 W) ∧ Bts w v2 (bs.drop k) ∧ (∀ q, v2.ownBlock = some q → v.ownBlock = some q) := by
  obtain ⟨a, c, rfl, ⟨hn, hc⟩, h1⟩ := hb
  refine ⟨sliced a k bs.length c 1, fun W => ?_, ⟨if c = k then a else a.map (·.add (k * 1)), c - k, by simp only [sliced, List.length_drop], ⟨fun e => ?_, by simp; omega⟩, ?_⟩, ?_⟩
  · rw [run_slice_l W 40 a bs.length c elem22 .i64 k (by omega) (by omega), size5]; simp [Result.andThen]
  · by_cases h : c = k
    · omega
    · rw [if_neg h] at e
      simp at e; have := hn e; omega
  · rcases h1 with rfl | ⟨b, o, rfl, hr⟩
    · exact .inl (by simp)
    · by_cases h : k = bs.length
      · exact .inl (by simp [h])
      · refine .inr ⟨b, o + k, ?_, fun t _ ht => ?_⟩
        · rw [if_neg (by omega)]; simp [add_at]
        · rw [List.length_drop] at ht
          have := hr (k + t) (Nat.zero_le _) (by omega)
          rw [show o + k + t = o + (k + t) by omega, this]; simp
  · intro q hq
    unfold sliced at hq
    split at hq
    · cases a with
      | none => simp [Value.ownBlock] at hq
      | some a => simpa [Value.ownBlock] using hq
    · cases a with
      | none => simp [Value.ownBlock] at hq
      | some a =>
        simp [Value.ownBlock, Addr.add] at hq
        split at hq <;> simpa [Value.ownBlock] using hq

/-- v[:k], k within the length, as a uint64. -/
theorem slice_to {w : World} {v : Value} {bs : List Int} (hb : Bts w v bs) (k : Nat) (hk : k ≤ bs.length) :
    ∃ v2, (∀ W, (Instr.slice 40 v none (some (.int .u64 (k : Int))) none).run Try.prog W = .ok v2 W) ∧ Bts w v2 (bs.take k) := by
  obtain ⟨a, c, rfl, ⟨hn, hc⟩, h1⟩ := hb
  refine ⟨sliced a 0 k c 1, fun W => ?_, ⟨if c = 0 then a else a.map (·.add (0 * 1)), c - 0, by simp only [sliced, List.length_take, Nat.min_eq_left hk, Nat.sub_zero], ⟨fun e => ?_, by simp; omega⟩, ?_⟩⟩
  · rw [run_slice_h W 40 a bs.length c elem22 .u64 k (by omega) (by omega), size5]; simp [Result.andThen]
  · by_cases h : c = 0
    · omega
    · rw [if_neg h] at e
      simp at e; have := hn e; omega
  · rcases h1 with rfl | ⟨b, o, rfl, hr⟩
    · exact .inl (by simp)
    · by_cases h : k = 0
      · exact .inl (by simp [h])
      · refine .inr ⟨b, o, ?_, fun t _ ht => ?_⟩
        · rw [if_neg (by omega)]; simp [add_at]
        · rw [List.length_take] at ht
          have := hr t (Nat.zero_le _) (by omega)
          rw [this]; simp [show t < k by omega]

theorem len_bts {w : World} {v : Value} {bs : List Int} (hb : Bts w v bs) (W : World) : (Builtin.len_ #[40] 3 #[v]).run Try.prog W = .ok (.int .i64 (bs.length : Nat)) W := by
  obtain ⟨a, c, rfl, _, _⟩ := hb
  rw [run_len_slice W 40 3 a bs.length c elem22]; rfl
end Go.Proofs.Ytfbeilninpapaaa
