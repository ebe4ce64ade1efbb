/- Slices of bytes of the call's own, or that are read; texts as bytes, their order. -/
import Derived.Test.YtiajafljgfpdcaaGreatRows
import Derived.Test.YtiajafljgfpdcaaGreatLk
import Derived.WalkKit
import Derived.WalkSpells
import Derived.WalkLawsBesides
import Derived.Outline
import Derived.Lib.AppendStr
import Derived.Laws.AppendOwnNone
import Derived.Laws.BytesArg
import Derived.Lib.SliceRun
import Derived.Lib.Strings
import Derived.Deep.RegionLaw
import Derived.Deep.RegionHeld3
import Derived.BigQuiet
import Derived.Deep.QuietTactic
namespace Go.Proofs.YtiajafljgfpdcaaGreat
set_option linter.unusedVariables false
open Go.RowKit
theorem ret_int {k : IntKind} {a b : Int} (h : a = b) : Ending.returned (.int k a) = .returned (.int k b) := by rw [h]
theorem info5 : (Tryz.prog.info? 5).map (fun i => (i.zero, i.size, i.bytes)) = some (some (.int .u8 0), 1, 1) := by kernel_rfl
/-- A slice of bytes of the call's own (blocks from base on), or nil. -/
def Own (w : World) (base : Nat) (v : Value) (xs : List Int) : Prop := w.ownsRow base 5 1 v xs.length (xs.map (Value.int .u8))

theorem Own.cast {w : World} {base : Nat} {v : Value} {xs ys : List Int} (h : Own w base v xs) (e : xs = ys) : Own w base v ys := e ▸ h

/-- append(s, c): c lies in a new block of its own. -/
theorem app1 {w : World} {ops : Array Oper} {rest : List Oper} {o : Oper} {a : Act} {Q : Exit → Act → World → Prop} (hgd : o.guard = none) (s x : Operand)
    (ho : o.op = .call { callee := .builtin .append, args := #[s, x], argTypes := #[43, 43] })
    (base : Nat) (v : Value) (xs : List Int) (c : Int) (hs : a.eval s = v) (hx : a.eval x = .slice (some ⟨w.heap.size, 0, none⟩) 1 1)
    (hown : Own w base v xs) (hbase : base ≤ w.heap.size) (hlen : xs.length ≤ 1000000000)
    (h : ∀ v' w', Own w' base v' (xs ++ [c]) → Below base w w' → wpList Tryz.prog ops Q rest (a.put o.dst v') w') :
    wpList Tryz.prog ops Q (o :: rest) a (w.alloc (.cells #[.int .u8 c] 5)) := by
  obtain ⟨i0, hi, hz0, hz1, hz2⟩ := info_parts info5
  refine wpList_append_own _ hgd s x 43 ho base 5 i0 (.int .u8 0) 1 1 Tryz.underlying43 hi hz0 hz1 hz2 rfl (by decide) v xs.length (xs.map (Value.int .u8)) hs (hown.alloc _) ⟨w.heap.size, 0, none⟩ 1 1 [.int .u8 c] hx rfl (cell_one_new _ _ _) ?_ ?_ ?_ ?_ ?_
  · intro u hu; simp at hu; subst hu; rfl
  · unfold maxLen; omega
  · omega
  · simp; omega
  · intro v' w' h1 h2 _
    refine h v' w' ?_ ?_
    · unfold Own; simpa using h1
    · refine ((Below.refl base w).alloc hbase _).grown h2 (by simp; omega) (fun k hk => ?_)
      exact (hown.lt k hk).1
theorem getD_mem {α : Type} (l : List α) (d : α) (k : Nat) (h : k < l.length) : l.getD k d ∈ l := by
  rw [List.getD_eq_getElem?_getD, List.getElem?_eq_getElem h]; simp
/-- Cells from place k on, of a row that is read while other memory is written. -/
def Rest (w : World) (k len b o : Nat) (f : Nat → Value) : Prop := ∀ t, k ≤ t → t < len → w.cell? ⟨b, o + t, none⟩ = some (f t)
theorem Rest.next {w w' : World} {k len b o base : Nat} {f : Nat → Value} (h : Rest w k len b o f) (hb : Below base w w') (hs : b < base ∨ len ≤ 1) : Rest w' (k + 1) len b o f := by
  intro t ht hl
  rcases hs with hs | hs
  · exact (hb.cell (p := ⟨b, o + t, none⟩) hs).trans (h t (by omega) hl)
  · omega

/-- A slice value whose elements are the bytes bs. -/
def Bts (w : World) (v : Value) (bs : List Int) : Prop :=
  ∃ a c, v = .slice a bs.length c ∧ ((a = none → c = 0) ∧ bs.length ≤ c) ∧ (bs = [] ∨ ∃ b o, a = some ⟨b, o, none⟩ ∧ Rest w 0 bs.length b o fun t => .int .u8 (bs.getD t 0))

theorem Bts.below {w w' : World} {B : Nat} {v : Value} {bs : List Int} (h : Bts w v bs) (hb : Below B w w') (hv : ∀ k, v.ownBlock = some k → k < B) : Bts w' v bs := by
  obtain ⟨a, c, rfl, hn, h1⟩ := h
  refine ⟨a, c, rfl, hn, ?_⟩
  rcases h1 with h1 | ⟨b, o, rfl, hr⟩
  · exact .inl h1
  · refine .inr ⟨b, o, rfl, fun t h0 ht => ?_⟩
    exact (hb.cell (p := ⟨b, o + t, none⟩) (hv b rfl)).trans (hr t h0 ht)

/-- New blocks, and writes to what was not there: what is read stays. -/
theorem Bts.grow {w w' : World} {v : Value} {bs : List Int} (h : Bts w v bs) (hb : Below w.heap.size w w') : Bts w' v bs := by
  obtain ⟨a, c, rfl, hn, h1⟩ := h
  refine ⟨a, c, rfl, hn, ?_⟩
  rcases h1 with h1 | ⟨b, o, rfl, hr⟩
  · exact .inl h1
  · refine .inr ⟨b, o, rfl, fun t h0 ht => ?_⟩
    have := hr t h0 ht
    exact (hb.cell (p := ⟨b, o + t, none⟩) (World.block_lt_of_cell? w _ this)).trans this

theorem Bts.alloc {w : World} {v : Value} {bs : List Int} (h : Bts w v bs) (o : Obj) : Bts (w.alloc o) v bs :=
  h.grow ((Below.refl _ w).alloc (Nat.le_refl _) o)

theorem add_at (b o j : Nat) : (⟨b, o, none⟩ : Addr).add j = ⟨b, o + j, none⟩ := by cases j <;> simp [Addr.add]

/-- What is owned is read. -/
theorem Own.bts {w : World} {base : Nat} {v : Value} {xs : List Int} (h : Own w base v xs) : Bts w v xs := by
  have h' := h
  obtain ⟨h1, h2⟩ := h
  rcases h2 with ⟨rfl, h0⟩ | ⟨g, cap, cur, rfl, _, _, hcap, _, _, _⟩
  · have : xs = [] := by simpa using h0
    subst this
    exact ⟨none, 0, rfl, ⟨fun _ => rfl, Nat.le_refl _⟩, .inl rfl⟩
  · refine ⟨_, cap, rfl, ⟨(fun e => by cases e), hcap⟩, .inr ⟨g, 0, rfl, fun t _ ht => ?_⟩⟩
    have hc := World.ownsRow.cells h' rfl t (.int .u8 (xs.getD t 0)) (by simp [List.getElem?_map, List.getElem?_eq_getElem ht])
    rw [add_at] at hc; exact hc

theorem Own.shape {w : World} {base : Nat} {v : Value} {xs : List Int} (h : Own w base v xs) : ∃ a c, v = .slice a xs.length c := by
  obtain ⟨a, c, h, _⟩ := h.bts
  exact ⟨a, c, h⟩

theorem Own.lt {w : World} {base : Nat} {v : Value} {xs : List Int} (h : Own w base v xs) : ∀ k, v.ownBlock = some k → base ≤ k ∧ k < w.heap.size := World.ownsRow.lt h

theorem Own.alloc {w : World} {base : Nat} {v : Value} {xs : List Int} (h : Own w base v xs) (o : Obj) : Own (w.alloc o) base v xs := World.ownsRow.alloc h o

/-- append(s, x...), x a slice of bytes. -/
theorem appX {w : World} {ops : Array Oper} {rest : List Oper} {o : Oper} {a : Act} {Q : Exit → Act → World → Prop} (hgd : o.guard = none) (s x : Operand)
    (ho : o.op = .call { callee := .builtin .append, args := #[s, x], argTypes := #[43, 43] })
    (base : Nat) (v u : Value) (xs bs : List Int) (hs : a.eval s = v) (hx : a.eval x = u)
    (hown : Own w base v xs) (hb : Bts w u bs) (hbase : base ≤ w.heap.size) (hlen : xs.length + bs.length ≤ 140737488355328)
    (h : ∀ v' w', Own w' base v' (xs ++ bs) → Below base w w' → (v' = .slice none 0 0 ↔ v = .slice none 0 0 ∧ bs = []) → wpList Tryz.prog ops Q rest (a.put o.dst v') w') :
    wpList Tryz.prog ops Q (o :: rest) a w := by
  obtain ⟨i0, hi, hz0, hz1, hz2⟩ := info_parts info5
  obtain ⟨ad, c, rfl, hnil, hcell⟩ := hb
  cases ad with
  | none =>
    have hbs : bs = [] := by
      rcases hcell with hcell | ⟨_, _, e, _⟩
      · exact hcell
      · cases e
    subst hbs
    obtain rfl := hnil.1 rfl
    refine wpList_append_own_none hgd s x 43 ho base 5 i0 1 Tryz.underlying43 hi v xs.length (xs.map (Value.int .u8)) hs hown hx ?_
    exact h v w (by simpa using hown) (Below.refl _ _) (by simp)
  | some ad =>
    refine wpList_append_own _ hgd s x 43 ho base 5 i0 (.int .u8 0) 1 1 Tryz.underlying43 hi hz0 hz1 hz2 rfl (by decide) v xs.length (xs.map (Value.int .u8)) hs hown ad bs.length c (bs.map (Value.int .u8)) hx (by simp) ?_ (ints_oneCell _ _) (by unfold maxLen; omega) (by omega) hbase ?_
    · intro j y hj
      rcases hcell with rfl | ⟨b, o, e, hr⟩
      · simp at hj
      · cases e
        rw [List.getElem?_map] at hj
        have hjl : j < bs.length := by
          rcases Nat.lt_or_ge j bs.length with h | h
          · exact h
          · rw [List.getElem?_eq_none h] at hj; cases hj
        have := hr j (Nat.zero_le _) hjl
        rw [List.getElem?_eq_getElem hjl] at hj
        simp only [Option.map_some, Option.some.injEq] at hj
        subst hj
        rw [add_at, this]; simp [hjl]
    · intro v' w' h1 h2 h3
      refine h v' w' ?_ ?_ (by simpa using h3)
      · unfold Own; simpa using h1
      · exact (Below.refl base w).grown h2 hbase (fun k hk => (hown.lt k hk).1)

theorem strOf_numsS (s : ByteArray) : strOfNums (numsS s) = s := by
  simp only [strOfNums, numsS, List.map_map]
  have : s.data.toList.map ((fun n : Int => UInt8.ofNat n.toNat) ∘ fun b : UInt8 => (b.toNat : Int)) = s.data.toList := by
    rw [List.map_congr_left (g := id)]
    · simp
    · intro a _; simp
  rw [this]

/-- append(s, x...), x a string. -/
theorem appS {w : World} {ops : Array Oper} {rest : List Oper} {o : Oper} {a : Act} {Q : Exit → Act → World → Prop} (hgd : o.guard = none) (sl x : Operand)
    (ho : o.op = .call { callee := .builtin .append, args := #[sl, x], argTypes := #[43, 9] })
    (base : Nat) (v : Value) (xs : List Int) (s : ByteArray) (hs : a.eval sl = v) (hx : a.eval x = .string s)
    (hown : Own w base v xs) (hbase : base ≤ w.heap.size) (hlen : xs.length + s.size ≤ 140737488355328)
    (h : ∀ v' w', Own w' base v' (xs ++ numsS s) → Below base w w' → wpList Tryz.prog ops Q rest (a.put o.dst v') w') :
    wpList Tryz.prog ops Q (o :: rest) a w := by
  obtain ⟨i0, hi, hz0, hz1, hz2⟩ := info_parts info5
  refine Lib.wpList_append_own_string _ hgd sl x 43 9 ho base 5 i0 Tryz.underlying43 Tryz.underlying9 hi hz0 hz1 hz2 v xs.length (xs.map (Value.int .u8)) hs hown s hx (by unfold maxLen; omega) hlen hbase ?_
  intro v' w' h1 h2 _
  refine h v' w' ?_ ((Below.refl base w).grown h2 hbase (fun k hk => (hown.lt k hk).1))
  unfold Own
  have e : (xs ++ numsS s).map (Value.int .u8) = xs.map (Value.int .u8) ++ Lib.strCells s := by simp [numsS, Lib.strCells]
  rw [e, List.length_append, numsS_length]; exact h1

/-- string(v). -/
theorem conv_str {w : World} {v : Value} {bs : List Int} (hb : Bts w v bs) : (convert 43 9 v).run Tryz.prog w = .ok (.string (strOfNums bs)) w := by
  obtain ⟨ad, c, rfl, hnil, hcell⟩ := hb
  rcases hcell with rfl | ⟨b, o, rfl, hr⟩
  · cases ad with
    | none => exact run_convert_bytes_nil w 43 5 Tryz.underlying43 Tryz.underlying5 _ _ 9 Tryz.underlying9
    | some ad =>
      rw [run_convert_bytes_string w 43 9 5 _ _ _ Tryz.underlying43 Tryz.underlying5 Tryz.underlying9]
      simp [Conv.bytesToString, loadCells]
      rfl
  · exact run_convert_bytes_arg w 43 5 Tryz.underlying43 Tryz.underlying5 b o bs.length c bs rfl (fun i hi => hr i (Nat.zero_le _) hi) 9 Tryz.underlying9

theorem size5 (W : World) : (sizeOf (Tryz.prog.elem 43)).run Tryz.prog W = .ok 1 W := by kernel_rfl
theorem elem58 : Tryz.prog.underlying 43 = some (.slice (Tryz.prog.elem 43)) := by kernel_rfl

/-- v[k:], k within the length. -/
theorem slice_from {w : World} {v : Value} {bs : List Int} (hb : Bts w v bs) (k : Nat) (hk : k ≤ bs.length) :
    ∃ v2, (∀ W, (Instr.slice 43 v (some (.int .i64 (k : Int))) none none).run Tryz.prog W = .ok v2 W) ∧ Bts w v2 (bs.drop k) ∧ (∀ q, v2.ownBlock = some q → v.ownBlock = some q) := by
  obtain ⟨a, c, rfl, ⟨hn, hc⟩, h1⟩ := hb
  refine ⟨sliced a k bs.length c 1, fun W => ?_, ⟨if c = k then a else a.map (·.add (k * 1)), c - k, by simp only [sliced, List.length_drop], ⟨fun e => ?_, by simp; omega⟩, ?_⟩, ?_⟩
  · rw [run_slice_l W 43 a bs.length c elem58 .i64 k (by omega) (by omega), size5]; simp [Result.andThen]
  · by_cases h : c = k
    · omega
    · rw [if_neg h] at e
      simp at e; have := hn e; omega
  · rcases h1 with rfl | ⟨b, o, rfl, hr⟩
    · exact .inl (by simp)
    · by_cases h : k = bs.length
      · exact .inl (by simp [h])
      · refine .inr ⟨b, o + k, ?_, fun t _ ht => ?_⟩
        · rw [if_neg (by omega)]; simp [add_at]
        · rw [List.length_drop] at ht
          have := hr (k + t) (Nat.zero_le _) (by omega)
          rw [show o + k + t = o + (k + t) by omega, this]; simp
  · intro q hq
    unfold sliced at hq
    split at hq
    · cases a with
      | none => simp [Value.ownBlock] at hq
      | some a => simpa [Value.ownBlock] using hq
    · cases a with
      | none => simp [Value.ownBlock] at hq
      | some a =>
        simp [Value.ownBlock, Addr.add] at hq
        split at hq <;> simpa [Value.ownBlock] using hq

/-- v[:k], k within the length, as a uint64. -/
theorem slice_to {w : World} {v : Value} {bs : List Int} (hb : Bts w v bs) (k : Nat) (hk : k ≤ bs.length) :
    ∃ v2, (∀ W, (Instr.slice 43 v none (some (.int .u64 (k : Int))) none).run Tryz.prog W = .ok v2 W) ∧ Bts w v2 (bs.take k) := by
  obtain ⟨a, c, rfl, ⟨hn, hc⟩, h1⟩ := hb
  refine ⟨sliced a 0 k c 1, fun W => ?_, ⟨if c = 0 then a else a.map (·.add (0 * 1)), c - 0, by simp only [sliced, List.length_take, Nat.min_eq_left hk, Nat.sub_zero], ⟨fun e => ?_, by simp; omega⟩, ?_⟩⟩
  · rw [run_slice_h W 43 a bs.length c elem58 .u64 k (by omega) (by omega), size5]; simp [Result.andThen]
  · by_cases h : c = 0
    · omega
    · rw [if_neg h] at e
      simp at e; have := hn e; omega
  · rcases h1 with rfl | ⟨b, o, rfl, hr⟩
    · exact .inl (by simp)
    · by_cases h : k = 0
      · exact .inl (by simp [h])
      · refine .inr ⟨b, o, ?_, fun t _ ht => ?_⟩
        · rw [if_neg (by omega)]; simp [add_at]
        · rw [List.length_take] at ht
          have := hr t (Nat.zero_le _) (by omega)
          rw [this]; simp [show t < k by omega]

theorem len_bts {w : World} {v : Value} {bs : List Int} (hb : Bts w v bs) (W : World) : (Builtin.len_ #[43] 3 #[v]).run Tryz.prog W = .ok (.int .i64 (bs.length : Nat)) W := by
  obtain ⟨a, c, rfl, _, _⟩ := hb
  rw [run_len_slice W 43 3 a bs.length c elem58]; rfl
theorem bts_one (w : World) (c : Int) (ty : TypeId) : Bts (w.alloc (.cells #[.int .u8 c] ty)) (.slice (some ⟨w.heap.size, 0, none⟩) 1 1) [c] := by
  refine ⟨_, 1, rfl, ⟨(fun e => by cases e), Nat.le_refl _⟩, .inr ⟨w.heap.size, 0, rfl, fun t _ ht => ?_⟩⟩
  have : t = 0 := by simpa using ht
  subst this
  simp
/-- append(s, x...), x a slice of bytes, with what is kept. -/
theorem appG {w : World} {ops : Array Oper} {rest : List Oper} {o : Oper} {a : Act} {Q : Exit → Act → World → Prop} (hgd : o.guard = none) (s x : Operand)
    (ho : o.op = .call { callee := .builtin .append, args := #[s, x], argTypes := #[43, 43] })
    (base : Nat) (v : Value) (ad : Addr) (m c : Nat) (xs bs : List Int) (hs : a.eval s = v) (hx : a.eval x = .slice (some ad) m c)
    (hown : Own w base v xs) (hb : Bts w (.slice (some ad) m c) bs) (hbase : base ≤ w.heap.size) (hlen : xs.length + bs.length ≤ 140737488355328)
    (h : ∀ v' w', Own w' base v' (xs ++ bs) → w.grownBy w' v.ownBlock → wpList Tryz.prog ops Q rest (a.put o.dst v') w') :
    wpList Tryz.prog ops Q (o :: rest) a w := by
  obtain ⟨i0, hi, hz0, hz1, hz2⟩ := info_parts info5
  obtain ⟨a', c', e, hnil, hcell⟩ := hb
  cases e
  refine wpList_append_own _ hgd s x 43 ho base 5 i0 (.int .u8 0) 1 1 Tryz.underlying43 hi hz0 hz1 hz2 rfl (by decide) v xs.length (xs.map (Value.int .u8)) hs hown ad bs.length c (bs.map (Value.int .u8)) hx (by simp) ?_ (ints_oneCell _ _) (by unfold maxLen; omega) (by omega) hbase ?_
  · intro j y hj
    rcases hcell with rfl | ⟨b, o, e, hr⟩
    · simp at hj
    · cases e
      rw [List.getElem?_map] at hj
      have hjl : j < bs.length := by
        rcases Nat.lt_or_ge j bs.length with h | h
        · exact h
        · rw [List.getElem?_eq_none h] at hj; cases hj
      have := hr j (Nat.zero_le _) hjl
      rw [List.getElem?_eq_getElem hjl] at hj
      simp only [Option.map_some, Option.some.injEq] at hj
      subst hj
      rw [add_at, this]; simp [hjl]
  · intro v' w' h1 h2 _
    refine h v' w' ?_ h2
    unfold Own; simpa using h1
/-- The same inside a region that draws. -/
theorem stepG {ops : Array Oper} {o : Oper} {a : Act} {w : World} {K : Act → World → Prop} {Q : Exit → Act → World → Prop} {E : Prop} (hg : o.guard = none) (s x : Operand)
    (hop : o.op = Op.call { callee := Callee.builtin Builtin.append, args := #[s, x], argTypes := #[43, 43] }) (base : Nat) (v : Value) (ad : Addr) (m c : Nat) (xs bs : List Int) (hs : a.eval s = v) (hx : a.eval x = .slice (some ad) m c)
    (hown : Own w base v xs) (hb : Bts w (.slice (some ad) m c) bs) (hbase : base ≤ w.heap.size) (hlen : xs.length + bs.length ≤ 140737488355328)
    (h : ∀ v' w', Own w' base v' (xs ++ bs) → w.grownBy w' v.ownBlock → K (a.put o.dst v') w') : if Region.wanted o (yielded ops a.tmps) = true then Oper.wp Tryz.prog o a w K Q else E := by
  have hw : Region.wanted o (yielded ops a.tmps) = true := by simp [Region.wanted, hg]
  rw [if_pos hw]
  obtain ⟨i0, hi, hz0, hz1, hz2⟩ := info_parts info5
  obtain ⟨a', c', e, hnil, hcell⟩ := hb
  cases e
  refine wp_append_own w s x 43 hop base 5 i0 (.int .u8 0) 1 1 Tryz.underlying43 hi hz0 hz1 hz2 rfl (by decide) v xs.length (xs.map (Value.int .u8)) hs hown ad bs.length c (bs.map (Value.int .u8)) hx (by simp) ?_ (ints_oneCell _ _) (by unfold maxLen; omega) (by omega) hbase ?_
  · intro j y hj
    rcases hcell with rfl | ⟨b, o, e, hr⟩
    · simp at hj
    · cases e
      rw [List.getElem?_map] at hj
      have hjl : j < bs.length := by
        rcases Nat.lt_or_ge j bs.length with h | h
        · exact h
        · rw [List.getElem?_eq_none h] at hj; cases hj
      have := hr j (Nat.zero_le _) hjl
      rw [List.getElem?_eq_getElem hjl] at hj
      simp only [Option.map_some, Option.some.injEq] at hj
      subst hj
      rw [add_at, this]; simp [hjl]
  · intro v' w' h1 h2 _
    refine h v' w' ?_ h2
    unfold Own; simpa using h1
theorem Own.grows {w w' : World} {base : Nat} {v : Value} {xs : List Int} (h : Own w base v xs) (hb : base ≤ w.heap.size) (hg : w.grownBy w' v.ownBlock) : Below base w w' := (Below.refl base w).grown hg hb (fun k hk => (h.lt k hk).1)
theorem Bts.keep {w w' : World} {g o n c : Nat} {bs : List Int} (h : Bts w (.slice (some ⟨g, o, none⟩) n c) bs) (e : w'.heap[g]? = w.heap[g]?) : Bts w' (.slice (some ⟨g, o, none⟩) n c) bs := by
  obtain ⟨a, c', e1, hn, h1⟩ := h
  cases e1
  refine ⟨_, _, rfl, hn, ?_⟩
  rcases h1 with h1 | ⟨b, o', e2, hr⟩
  · exact .inl h1
  · cases e2
    exact .inr ⟨g, o, rfl, fun t h0 ht => by rw [← hr t h0 ht]; simp only [World.cell?, e]⟩
theorem heap_new (w : World) (o : Obj) : (w.alloc o).heap[w.heap.size]? = some o := by
  show (w.heap.push o)[w.heap.size]? = _
  simp
theorem heap_old (w : World) (o : Obj) {g : Nat} (h : g < w.heap.size) : (w.alloc o).heap[g]? = w.heap[g]? := by
  show (w.heap.push o)[g]? = _
  rw [Array.getElem?_push, if_neg (by omega)]
theorem own_ne {w : World} {base : Nat} {v : Value} {xs : List Int} (h : Own w base v xs) {g : Nat} (hg : w.heap.size ≤ g) : ¬ some g = v.ownBlock := fun e => by
  have := h.lt g e.symm
  omega
theorem Own.kept {w w' : World} {base g : Nat} {v : Value} {xs : List Int} (h : Own w base v xs) (hg : w.grownBy w' (some g)) (hne : ¬ some g = v.ownBlock) : Own w' base v xs := World.ownsRow.kept h hg (.inr fun e => hne e.symm)
theorem less_list : ∀ x y : List UInt8, Op.bytesLess x y = decide (cmpL (x.map fun b => (b.toNat : Int)) (y.map fun b => (b.toNat : Int)) = -1)
  | [], [] => by simp [Op.bytesLess, cmpL]
  | [], _ :: _ => by simp [Op.bytesLess, cmpL]
  | _ :: _, [] => by simp [Op.bytesLess, cmpL]
  | a :: x, b :: y => by
    have ih := less_list x y
    rw [Op.bytesLess, List.map_cons, List.map_cons, cmpL, ih]
    by_cases h1 : a < b
    · have h1' : (a.toNat : Int) < (b.toNat : Int) := by have := UInt8.lt_iff_toNat_lt.1 h1; omega
      rw [if_pos h1']
      simp [h1]
    · have h1' : ¬ (a.toNat : Int) < (b.toNat : Int) := fun h => h1 (UInt8.lt_iff_toNat_lt.2 (by omega))
      rw [if_neg h1']
      by_cases h2 : a = b
      · subst h2
        rw [if_neg (by omega)]
        simp
      · have h2' : (b.toNat : Int) < (a.toNat : Int) := by
          have : a.toNat ≠ b.toNat := fun e => h2 (UInt8.toNat_inj.1 e)
          omega
        rw [if_pos h2']
        simp [h1, h2]
theorem less_cmp (a b : ByteArray) : Op.bytesLess a.toList b.toList = decide (cmpL (numsS a) (numsS b) = -1) := by
  rw [Lib.toList_data, Lib.toList_data]
  exact less_list _ _
theorem numsS_strOf (xs : List Int) (h : IsBytes xs) : numsS (strOfNums xs) = xs := by
  unfold numsS strOfNums
  simp only [List.map_map]
  conv => rhs; rw [← List.map_id xs]
  refine List.map_congr_left fun c hc => ?_
  have := h c hc
  simp only [Function.comp, id]
  rw [UInt8.toNat_ofNat_of_lt' (by show _ < 256; omega)]
  omega
theorem strOf_append (xs ys : List Int) : strOfNums xs ++ strOfNums ys = strOfNums (xs ++ ys) := by
  apply ByteArray.ext
  rw [ByteArray.data_append]
  simp [strOfNums]
theorem strOf_size (xs : List Int) : (strOfNums xs).size = xs.length := by show Array.size _ = _; simp
end Go.Proofs.YtiajafljgfpdcaaGreat
