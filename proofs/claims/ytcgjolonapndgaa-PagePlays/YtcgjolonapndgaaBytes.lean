/- Slices of bytes that came in, and of the call's own; append, and append of zeros; cuts. -/
import Derived.Test.YtcgjolonapndgaaHeld
import Derived.Laws.AppendOwnNone
import Derived.Lib.AppendZeros
import Derived.OpenShut
namespace Go.Proofs.Ytcgjolonapndgaa
open Go.RowKit Go.Maps Go.ChangeMaps Go.MapKept
/-- A slice of bytes of the call's own (blocks from base on), or nil. -/
def Own (w : World) (base : Nat) (v : Value) (xs : List Int) : Prop := w.ownsRow base 5 1 v xs.length (xs.map (Value.int .u8))

theorem Own.cast {w : World} {base : Nat} {v : Value} {xs ys : List Int} (h : Own w base v xs) (e : xs = ys) : Own w base v ys := e ▸ h

/-- What is owned is read. -/
theorem Own.bts {w : World} {base : Nat} {v : Value} {xs : List Int} (h : Own w base v xs) : Bts w v xs := by
  have h' := h
  obtain ⟨h1, h2⟩ := h
  rcases h2 with ⟨rfl, h0⟩ | ⟨g, cap, cur, rfl, _, _, hcap, _, _, _⟩
  · have : xs = [] := by simpa using h0
    subst this
    exact ⟨none, 0, rfl, ⟨fun _ => rfl, Nat.le_refl _⟩, .inl rfl⟩
  · refine ⟨_, cap, rfl, ⟨(fun e => by cases e), hcap⟩, .inr ⟨g, 0, rfl, fun t _ ht => ?_⟩⟩
    have hc := World.ownsRow.cells h' rfl t (.int .u8 (xs.getD t 0)) (by simp [List.getElem?_map, List.getElem?_eq_getElem ht])
    rw [add_at] at hc; exact hc

theorem Own.shape {w : World} {base : Nat} {v : Value} {xs : List Int} (h : Own w base v xs) : ∃ a c, v = .slice a xs.length c := by
  obtain ⟨a, c, h, _⟩ := h.bts
  exact ⟨a, c, h⟩

theorem Own.lt {w : World} {base : Nat} {v : Value} {xs : List Int} (h : Own w base v xs) : ∀ k, v.ownBlock = some k → base ≤ k ∧ k < w.heap.size := World.ownsRow.lt h

theorem Own.alloc {w : World} {base : Nat} {v : Value} {xs : List Int} (h : Own w base v xs) (o : Obj) : Own (w.alloc o) base v xs := World.ownsRow.alloc h o

/-- append(s, x...), x a slice of bytes. -/
theorem appX {w : World} {ops : Array Oper} {rest : List Oper} {o : Oper} {a : Act} {Q : Exit → Act → World → Prop} (hgd : o.guard = none) (s x : Operand)
    (ho : o.op = .call { callee := .builtin .append, args := #[s, x], argTypes := #[23, 23] })
    (base : Nat) (v u : Value) (xs bs : List Int) (hs : a.eval s = v) (hx : a.eval x = u)
    (hown : Own w base v xs) (hb : Bts w u bs) (hbase : base ≤ w.heap.size) (hlen : xs.length + bs.length ≤ 140737488355328)
    (h : ∀ v' w', Own w' base v' (xs ++ bs) → Below base w w' → (v' = .slice none 0 0 ↔ v = .slice none 0 0 ∧ bs = []) → wpList Try.prog ops Q rest (a.put o.dst v') w') :
    wpList Try.prog ops Q (o :: rest) a w := by
  obtain ⟨i0, hi, hz0, hz1, hz2⟩ := info_parts info5
  obtain ⟨ad, c, rfl, hnil, hcell⟩ := hb
  cases ad with
  | none =>
    have hbs : bs = [] := by
      rcases hcell with hcell | ⟨_, _, e, _⟩
      · exact hcell
      · cases e
    subst hbs
    obtain rfl := hnil.1 rfl
    refine wpList_append_own_none hgd s x 23 ho base 5 i0 1 Try.underlying23 hi v xs.length (xs.map (Value.int .u8)) hs hown hx ?_
    exact h v w (by simpa using hown) (Below.refl _ _) (by simp)
  | some ad =>
    refine wpList_append_own _ hgd s x 23 ho base 5 i0 (.int .u8 0) 1 1 Try.underlying23 hi hz0 hz1 hz2 rfl (by decide) v xs.length (xs.map (Value.int .u8)) hs hown ad bs.length c (bs.map (Value.int .u8)) hx (by simp) ?_ (ints_oneCell _ _) (by unfold maxLen; omega) (by omega) hbase ?_
    · intro j y hj
      rcases hcell with rfl | ⟨b, o, e, hr⟩
      · simp at hj
      · cases e
        rw [List.getElem?_map] at hj
        have hjl : j < bs.length := by
          rcases Nat.lt_or_ge j bs.length with h | h
          · exact h
          · rw [List.getElem?_eq_none h] at hj; cases hj
        have := hr j (Nat.zero_le _) hjl
        rw [List.getElem?_eq_getElem hjl] at hj
        simp only [Option.map_some, Option.some.injEq] at hj
        subst hj
        rw [add_at, this]; simp [hjl]
    · intro v' w' h1 h2 h3
      refine h v' w' ?_ ?_ (by simpa using h3)
      · unfold Own; simpa using h1
      · exact (Below.refl base w).grown h2 hbase (fun k hk => (hown.lt k hk).1)

/-- v[k:], k within the length. -/
theorem slice_from {w : World} {v : Value} {bs : List Int} (hb : Bts w v bs) (k : Nat) (hk : k ≤ bs.length) :
    ∃ v2, (∀ W, (Instr.slice 23 v (some (.int .i64 (k : Int))) none none).run Try.prog W = .ok v2 W) ∧ Bts w v2 (bs.drop k) ∧ (∀ q, v2.ownBlock = some q → v.ownBlock = some q) := by
  obtain ⟨a, c, rfl, ⟨hn, hc⟩, h1⟩ := hb
  refine ⟨sliced a k bs.length c 1, fun W => ?_, ⟨if c = k then a else a.map (·.add (k * 1)), c - k, by simp only [sliced, List.length_drop], ⟨fun e => ?_, by simp; omega⟩, ?_⟩, ?_⟩
  · rw [run_slice_l W 23 a bs.length c elem33 .i64 k (by omega) (by omega), size5]; simp [Result.andThen]
  · by_cases h : c = k
    · omega
    · rw [if_neg h] at e
      simp at e; have := hn e; omega
  · rcases h1 with rfl | ⟨b, o, rfl, hr⟩
    · exact .inl (by simp)
    · by_cases h : k = bs.length
      · exact .inl (by simp [h])
      · refine .inr ⟨b, o + k, ?_, fun t _ ht => ?_⟩
        · rw [if_neg (by omega)]; simp [add_at]
        · rw [List.length_drop] at ht
          have := hr (k + t) (Nat.zero_le _) (by omega)
          rw [show o + k + t = o + (k + t) by omega, this]; simp
  · intro q hq
    unfold sliced at hq
    split at hq
    · cases a with
      | none => simp [Value.ownBlock] at hq
      | some a => simpa [Value.ownBlock] using hq
    · cases a with
      | none => simp [Value.ownBlock] at hq
      | some a =>
        simp [Value.ownBlock, Addr.add] at hq
        split at hq <;> simpa [Value.ownBlock] using hq

/-- v[:k], k within the length, as a uint64. -/
theorem slice_to {w : World} {v : Value} {bs : List Int} (hb : Bts w v bs) (k : Nat) (hk : k ≤ bs.length) :
    ∃ v2, (∀ W, (Instr.slice 23 v none (some (.int .u64 (k : Int))) none).run Try.prog W = .ok v2 W) ∧ Bts w v2 (bs.take k) := by
  obtain ⟨a, c, rfl, ⟨hn, hc⟩, h1⟩ := hb
  refine ⟨sliced a 0 k c 1, fun W => ?_, ⟨if c = 0 then a else a.map (·.add (0 * 1)), c - 0, by simp only [sliced, List.length_take, Nat.min_eq_left hk, Nat.sub_zero], ⟨fun e => ?_, by simp; omega⟩, ?_⟩⟩
  · rw [run_slice_h W 23 a bs.length c elem33 .u64 k (by omega) (by omega), size5]; simp [Result.andThen]
  · by_cases h : c = 0
    · omega
    · rw [if_neg h] at e
      simp at e; have := hn e; omega
  · rcases h1 with rfl | ⟨b, o, rfl, hr⟩
    · exact .inl (by simp)
    · by_cases h : k = 0
      · exact .inl (by simp [h])
      · refine .inr ⟨b, o, ?_, fun t _ ht => ?_⟩
        · rw [if_neg (by omega)]; simp [add_at]
        · rw [List.length_take] at ht
          have := hr t (Nat.zero_le _) (by omega)
          rw [this]; simp [show t < k by omega]

/-- What is known of a slice of integers that came in: it is nil; or it leads to a row of 'cap' cells, the numbers 'zs' (the first 'len' are its elements). -/
def IsRow (k : IntKind) (w : World) (a : Option Addr) (len cap : Nat) (zs : List Int) : Prop :=
  (a = none ∧ len = 0 ∧ cap = 0 ∧ zs = []) ∨
  ∃ x, a = some x ∧ len ≤ cap ∧ cap ≤ maxLen ∧ zs.length = cap ∧ (∀ i, i < zs.length → w.cell? (x.add i) = some (.int k (zs.getD i 0))) ∧ ∀ n ∈ zs, (Lit.int k n).wf = true
theorem IsRow.len {k : IntKind} {w : World} {a : Option Addr} {len cap : Nat} {zs : List Int} (h : IsRow k w a len cap zs) : (zs.take len).length = len := by
  rcases h with ⟨_, rfl, _, rfl⟩ | ⟨x, _, h1, _, h2, _⟩
  · rfl
  · rw [List.length_take]; omega
/-- Its elements, as a row that is read. -/
theorem IsRow.rest {k : IntKind} {w : World} {a : Option Addr} {len cap : Nat} {zs : List Int} (h : IsRow k w a len cap zs) :
    zs.take len = [] ∨ ∃ b o, a = some ⟨b, o, none⟩ ∧ Rest w 0 (zs.take len).length b o (fun t => .int k ((zs.take len).getD t 0)) ∧ b < w.heap.size := by
  have hl := h.len
  rcases h with ⟨_, rfl, _, rfl⟩ | ⟨x, rfl, h1, _, h2, hc, _⟩
  · exact .inl rfl
  · by_cases h0 : len = 0
    · subst h0; exact .inl rfl
    · obtain ⟨b, o, rfl, hcell⟩ := ints_at hc (by omega)
      refine .inr ⟨b, o, rfl, fun t _ ht => ?_, World.block_lt_of_cell? w ⟨b, o + 0, none⟩ (hcell 0 (by omega))⟩
      rw [hl] at ht
      rw [hcell t (by omega)]
      simp [ht]
theorem IsRow.wf {k : IntKind} {w : World} {a : Option Addr} {len cap : Nat} {zs : List Int} (h : IsRow k w a len cap zs) : ∀ n ∈ zs.take len, (Lit.int k n).wf = true := by
  intro n hn
  rcases h with ⟨_, rfl, _, rfl⟩ | ⟨x, rfl, _, _, _, _, hw⟩
  · simp at hn
  · exact hw n (List.mem_of_mem_take hn)
/-- A slice of bytes that came in is read. -/
theorem IsRow.bts {w : World} {a : Option Addr} {len cap : Nat} {zs : List Int} (h : IsRow .u8 w a len cap zs) : Bts w (.slice a len cap) (zs.take len) := by
  have hl := h.len
  refine ⟨a, cap, by rw [hl], ⟨fun e => ?_, ?_⟩, ?_⟩
  · rcases h with ⟨_, _, h, _⟩ | ⟨x, rfl, _⟩
    · exact h
    · cases e
  · rcases h with ⟨_, rfl, _, rfl⟩ | ⟨x, _, h1, _, h2, _⟩
    · simp
    · rw [hl]; exact h1
  · rcases h.rest with h | ⟨b, o, e, hr, _⟩
    · exact .inl h
    · exact .inr ⟨b, o, e, hr⟩
/-- v[:k], k within the length, as an int. -/
theorem slice_toI {w : World} {v : Value} {bs : List Int} (hb : Bts w v bs) (k : Nat) (hk : k ≤ bs.length) :
    ∃ v2, (∀ W, (Instr.slice 23 v none (some (.int .i64 (k : Int))) none).run Try.prog W = .ok v2 W) ∧ Bts w v2 (bs.take k) := by
  obtain ⟨v2, h1, h2⟩ := slice_to hb k hk
  refine ⟨v2, fun W => ?_, h2⟩
  obtain ⟨a, c, rfl, ⟨hn, hc⟩, _⟩ := hb
  have h3 := h1 W
  rw [run_slice_h W 23 a bs.length c elem33 .u64 k (by omega) (by omega)] at h3
  rw [run_slice_h W 23 a bs.length c elem33 .i64 k (by omega) (by omega)]
  exact h3
theorem own_empty (w : World) : Own (w.alloc (.cells #[] 5)) w.heap.size (.slice (some ⟨w.heap.size, 0, none⟩) 0 0) [] :=
  ⟨rfl, .inr ⟨w.heap.size, 0, #[], rfl, Nat.le_refl _, (heap_alloc w _).1, Nat.le_refl _, Nat.zero_le _, rfl, rfl⟩⟩

theorem zeroCells_eq (n : Nat) : Builtin.zeroCells #[Value.int .u8 0] n = ((zeros n).map (Value.int .u8)).toArray := by
  apply Array.ext_getElem?
  intro i
  by_cases hi : i < n
  · simp [Builtin.zeroCells, zeros, hi, Nat.mod_one]
  · simp [Builtin.zeroCells, zeros, hi]
theorem run_zeros_room {w : World} (g sLen sCap m : Nat) (cur : Array Value) (hg : w.heap[g]? = some (.cells cur 5 (0, 0))) (hroom : sLen + m ≤ sCap) (hfit : sLen + m ≤ cur.size) (hm : m ≤ 1000000) (ty : TypeId) :
    (Builtin.append_ #[23, 3] ty #[.slice (some ⟨g, 0, none⟩) sLen sCap, .int .i64 m]).run Try.prog w = .ok (.slice (some ⟨g, 0, none⟩) (sLen + m) sCap) (w.setRow g (cur.toList.take sLen ++ (zeros m).map (Value.int .u8) ++ cur.toList.drop (sLen + m)).toArray) := by
  obtain ⟨i, hi, hz0, hz1, hz2⟩ := info_parts info5
  have hw : IntKind.i64.wrap (m : Int) = m := by rw [IntKind.wrap_i64]; omega
  have hneg : ¬ ((m : Int) < 0) := by omega
  have h48i : ¬ (281474976710656 < (m : Int)) := by omega
  have hst := run_storeCells_at (P := Try.prog) g sLen 5 ((zeros m).map (Value.int .u8)) 0 cur w hg (by simp [zeros]; omega) (fun u hu => by obtain ⟨z, _, rfl⟩ := List.mem_map.1 hu; rfl)
  simp only [Nat.add_zero] at hst
  have hzl : ((zeros m).map (Value.int .u8)).length = m := by simp [zeros]
  rw [hzl] at hst
  by_cases h0 : m = 0
  · subst h0
    simp [zeros] at hst
    have hr0 : sLen ≤ sCap := by omega
    simp [Builtin.append_, run_underlying Try.underlying23, run_underlying Try.underlying3, sizeOf, typeInfo, hi, hz1, hz2, asInt, asIntOf, hr0, Addr.add_lit, hst, zeros, IntKind.wrap_i64]
  · have hze : (Builtin.zeroCells #[Value.int .u8 0] m).toList = (zeros m).map (Value.int .u8) := by rw [zeroCells_eq]
    simp [Builtin.append_, run_underlying Try.underlying23, run_underlying Try.underlying3, sizeOf, typeInfo, zeroValue, hi, hz0, hz1, hz2, asInt, asIntOf, hw, hneg, h48i, hroom, h0, Addr.add_lit, Value.cells, hze, hst]
theorem run_zeros_grow {w : World} (g sLen sCap m : Nat) (olds : List Value) (hlo : olds.length = sLen) (holds : ∀ j v, olds[j]? = some v → w.cell? ((⟨g, 0, none⟩ : Addr).add j) = some v) (hroom : sCap < sLen + m) (hsm : sLen + m ≤ 1000000) (hc : sLen ≤ sCap) (ty : TypeId) :
    (Builtin.append_ #[23, 3] ty #[.slice (some ⟨g, 0, none⟩) sLen sCap, .int .i64 m]).run Try.prog w = .ok (.slice (some ⟨w.heap.size, 0, none⟩) (sLen + m) (grownCap w (sLen + m) sCap 5))
        (w.drew.alloc (.cells (olds.toArray ++ ((zeros m).map (Value.int .u8)).toArray ++ Builtin.zeroCells #[Value.int .u8 0] (grownCap w (sLen + m) sCap 5 - (sLen + m))) 5)) := by
  obtain ⟨i, hi, hz0, hz1, hz2⟩ := info_parts info5
  have hw : IntKind.i64.wrap (m : Int) = m := by rw [IntKind.wrap_i64]; omega
  have hneg : ¬ ((m : Int) < 0) := by omega
  have h48i : ¬ (281474976710656 < (m : Int)) := by omega
  have hn : ¬ (sLen + m ≤ sCap) := by omega
  have h0 : m ≠ 0 := by omega
  have h63' : ¬ (9223372036854775807 < ((sLen : Int) + (m : Int))) := by omega
  have hgs := growslice_fits (old := sCap) (need := sLen + m) (bytes := 1) (by omega) (by omega)
  have h48' : ¬ (281474976710656 < Builtin.nextslicecap (sLen + m) sCap) := by omega
  have hfo := run_firstCells_some (P := Try.prog) w.drew 1 sLen ⟨g, 0, none⟩ sLen sCap olds (by omega) (by simpa using holds)
  simp [Builtin.append_, run_underlying Try.underlying23, run_underlying Try.underlying3, sizeOf, typeInfo, zeroValue, hi, hz0, hz1, hz2, asInt, asIntOf, hw, hneg, h48i, hn, h0, h63', h48', Question.forced, hfo, newRow, grownCap, Value.cells, zeroCells_eq]
/-- append(v, make([]byte, m)...), v not nil. -/
theorem run_zeros {w : World} {base : Nat} {v : Value} {xs : List Int} (hown : Own w base v xs) (hv : v ≠ .slice none 0 0) (m : Nat) (hlen : xs.length + m ≤ 1000000) (hbase : base ≤ w.heap.size) :
    ∃ v' w', (∀ ty, (Builtin.append_ #[23, 3] ty #[v, .int .i64 m]).run Try.prog w = .ok v' w') ∧ Own w' base v' (xs ++ zeros m) ∧ w.grownBy w' v.ownBlock ∧ v' ≠ .slice none 0 0 := by
  have hown' := hown
  obtain ⟨hl, h⟩ := hown
  rcases h with ⟨h, _⟩ | ⟨g, cap, cur, rfl, hbg, hg, hnc, hcm, hcs, htake⟩
  · exact absurd h hv
  have hxl : (xs ++ zeros m).length = xs.length + m := by simp [zeros]
  have hmap : (xs ++ zeros m).map (Value.int .u8) = xs.map (Value.int .u8) ++ (zeros m).map (Value.int .u8) := List.map_append
  have hzl : ((zeros m).map (Value.int .u8)).length = m := by simp [zeros]
  simp only [Nat.mul_one] at hcs htake
  by_cases hroom : xs.length + m ≤ cap
  · refine ⟨_, _, fun ty => run_zeros_room g xs.length cap m cur hg hroom (by omega) (by omega) ty, ?_, ⟨rfl, rfl, rfl, by simp, fun k _ hk => setRow_other w g k _ (fun e => hk (by simp [Value.ownBlock, e]))⟩, by simp⟩
    unfold Own
    rw [hxl]
    refine ⟨by simp [zeros], .inr ⟨g, cap, _, rfl, hbg, setRow_heap w g cur _ 5 _ hg, hroom, hcm, ?_, ?_⟩⟩
    · simp only [List.size_toArray, List.length_append, List.length_take, List.length_drop, Array.length_toList, hzl]
      omega
    · rw [htake, hmap]
      simp only [Nat.mul_one]
      rw [List.take_left' (by simp [zeros])]
  · have holds : ∀ j u, (xs.map (Value.int .u8))[j]? = some u → w.cell? ((⟨g, 0, none⟩ : Addr).add j) = some u := World.ownsRow.cells hown' rfl
    refine ⟨_, _, fun ty => run_zeros_grow g xs.length cap m (xs.map (Value.int .u8)) (by simp) holds (by omega) hlen hnc ty, ?_, ⟨rfl, rfl, rfl, by simp, fun k hk _ => (heap_alloc w.drew _).2 k hk⟩, by simp⟩
    unfold Own
    rw [hxl]
    have hge := grownCap_ge w (xs.length + m) cap 5
    refine ⟨by simp [zeros], .inr ⟨w.heap.size, _, _, rfl, hbase, heap_alloc_new w.drew _, hge, grownCap_le_maxLen w _ cap 5 (by unfold maxLen; omega), ?_, ?_⟩⟩
    · simp only [Array.size_append, List.size_toArray, size_zeroCells, List.length_map, hzl]
      simp
      omega
    · rw [hmap]
      simp only [Array.toList_append, Nat.mul_one, List.append_assoc]
      rw [← List.append_assoc, List.take_left' (by simp [zeros])]
end Go.Proofs.Ytcgjolonapndgaa
