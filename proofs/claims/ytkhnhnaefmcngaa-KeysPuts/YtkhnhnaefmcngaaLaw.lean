/- The laws of append in the words of 'Own', with what is kept. -/
import Derived.Test.YtkhnhnaefmcngaaNum
import Derived.Deep.RegionLaw
import Derived.Deep.RegionHeld3
import Derived.BigQuiet
import Derived.Deep.QuietTactic
namespace Go.Proofs.Ytkhnhnaefmcngaa
open Go.RowKit
theorem bts_one (w : World) (c : Int) (ty : TypeId) : Bts (w.alloc (.cells #[.int .u8 c] ty)) (.slice (some ⟨w.heap.size, 0, none⟩) 1 1) [c] := by
  refine ⟨_, 1, rfl, ⟨(fun e => by cases e), Nat.le_refl _⟩, .inr ⟨w.heap.size, 0, rfl, fun t _ ht => ?_⟩⟩
  have : t = 0 := by simpa using ht
  subst this
  simp
/-- append(s, x...), x a slice of bytes, with what is kept. -/
theorem appG {w : World} {ops : Array Oper} {rest : List Oper} {o : Oper} {a : Act} {Q : Exit → Act → World → Prop} (hgd : o.guard = none) (s x : Operand)
    (ho : o.op = .call { callee := .builtin .append, args := #[s, x], argTypes := #[47, 47] })
    (base : Nat) (v : Value) (ad : Addr) (m c : Nat) (xs bs : List Int) (hs : a.eval s = v) (hx : a.eval x = .slice (some ad) m c)
    (hown : Own w base v xs) (hb : Bts w (.slice (some ad) m c) bs) (hbase : base ≤ w.heap.size) (hlen : xs.length + bs.length ≤ 140737488355328)
    (h : ∀ v' w', Own w' base v' (xs ++ bs) → w.grownBy w' v.ownBlock → wpList Try.prog ops Q rest (a.put o.dst v') w') :
    wpList Try.prog ops Q (o :: rest) a w := by
  obtain ⟨i0, hi, hz0, hz1, hz2⟩ := info_parts info5
  obtain ⟨a', c', e, hnil, hcell⟩ := hb
  cases e
  refine wpList_append_own _ hgd s x 47 ho base 5 i0 (.int .u8 0) 1 1 Try.underlying47 hi hz0 hz1 hz2 rfl (by decide) v xs.length (xs.map (Value.int .u8)) hs hown ad bs.length c (bs.map (Value.int .u8)) hx (by simp) ?_ (ints_oneCell _ _) (by unfold maxLen; omega) (by omega) hbase ?_
  · intro j y hj
    rcases hcell with rfl | ⟨b, o, e, hr⟩
    · simp at hj
    · cases e
      rw [List.getElem?_map] at hj
      have hjl : j < bs.length := by
        rcases Nat.lt_or_ge j bs.length with h | h
        · exact h
        · rw [List.getElem?_eq_none h] at hj; cases hj
      have := hr j (Nat.zero_le _) hjl
      rw [List.getElem?_eq_getElem hjl] at hj
      simp only [Option.map_some, Option.some.injEq] at hj
      subst hj
      rw [add_at, this]; simp [hjl]
  · intro v' w' h1 h2 _
    refine h v' w' ?_ h2
    unfold Own; simpa using h1
/-- The same inside a region that draws. -/
theorem stepG {ops : Array Oper} {o : Oper} {a : Act} {w : World} {K : Act → World → Prop} {Q : Exit → Act → World → Prop} {E : Prop} (hg : o.guard = none) (s x : Operand)
    (hop : o.op = Op.call { callee := Callee.builtin Builtin.append, args := #[s, x], argTypes := #[47, 47] }) (base : Nat) (v : Value) (ad : Addr) (m c : Nat) (xs bs : List Int) (hs : a.eval s = v) (hx : a.eval x = .slice (some ad) m c)
    (hown : Own w base v xs) (hb : Bts w (.slice (some ad) m c) bs) (hbase : base ≤ w.heap.size) (hlen : xs.length + bs.length ≤ 140737488355328)
    (h : ∀ v' w', Own w' base v' (xs ++ bs) → w.grownBy w' v.ownBlock → K (a.put o.dst v') w') : if Region.wanted o (yielded ops a.tmps) = true then Oper.wp Try.prog o a w K Q else E := by
  have hw : Region.wanted o (yielded ops a.tmps) = true := by simp [Region.wanted, hg]
  rw [if_pos hw]
  obtain ⟨i0, hi, hz0, hz1, hz2⟩ := info_parts info5
  obtain ⟨a', c', e, hnil, hcell⟩ := hb
  cases e
  refine wp_append_own w s x 47 hop base 5 i0 (.int .u8 0) 1 1 Try.underlying47 hi hz0 hz1 hz2 rfl (by decide) v xs.length (xs.map (Value.int .u8)) hs hown ad bs.length c (bs.map (Value.int .u8)) hx (by simp) ?_ (ints_oneCell _ _) (by unfold maxLen; omega) (by omega) hbase ?_
  · intro j y hj
    rcases hcell with rfl | ⟨b, o, e, hr⟩
    · simp at hj
    · cases e
      rw [List.getElem?_map] at hj
      have hjl : j < bs.length := by
        rcases Nat.lt_or_ge j bs.length with h | h
        · exact h
        · rw [List.getElem?_eq_none h] at hj; cases hj
      have := hr j (Nat.zero_le _) hjl
      rw [List.getElem?_eq_getElem hjl] at hj
      simp only [Option.map_some, Option.some.injEq] at hj
      subst hj
      rw [add_at, this]; simp [hjl]
  · intro v' w' h1 h2 _
    refine h v' w' ?_ h2
    unfold Own; simpa using h1
theorem Own.grows {w w' : World} {base : Nat} {v : Value} {xs : List Int} (h : Own w base v xs) (hb : base ≤ w.heap.size) (hg : w.grownBy w' v.ownBlock) : Below base w w' := (Below.refl base w).grown hg hb (fun k hk => (h.lt k hk).1)
theorem Bts.keep {w w' : World} {g o n c : Nat} {bs : List Int} (h : Bts w (.slice (some ⟨g, o, none⟩) n c) bs) (e : w'.heap[g]? = w.heap[g]?) : Bts w' (.slice (some ⟨g, o, none⟩) n c) bs := by
  obtain ⟨a, c', e1, hn, h1⟩ := h
  cases e1
  refine ⟨_, _, rfl, hn, ?_⟩
  rcases h1 with h1 | ⟨b, o', e2, hr⟩
  · exact .inl h1
  · cases e2
    exact .inr ⟨g, o, rfl, fun t h0 ht => by rw [← hr t h0 ht]; simp only [World.cell?, e]⟩
theorem be_drop (n k x : Nat) (h : k ≤ n) : (be n x).drop (n - k) = be k x := by
  induction n with
  | zero => obtain rfl : k = 0 := by omega
            rfl
  | succ n ih =>
    by_cases hk : k = n + 1
    · subst hk; simp
    · rw [be_cons, show n + 1 - k = (n - k) + 1 by omega, List.drop_succ_cons]
      exact ih (by omega)
theorem heap_new (w : World) (o : Obj) : (w.alloc o).heap[w.heap.size]? = some o := by
  show (w.heap.push o)[w.heap.size]? = _
  simp
theorem heap_old (w : World) (o : Obj) {g : Nat} (h : g < w.heap.size) : (w.alloc o).heap[g]? = w.heap[g]? := by
  show (w.heap.push o)[g]? = _
  rw [Array.getElem?_push, if_neg (by omega)]
theorem own_ne {w : World} {base : Nat} {v : Value} {xs : List Int} (h : Own w base v xs) {g : Nat} (hg : w.heap.size ≤ g) : ¬ some g = v.ownBlock := fun e => by
  have := h.lt g e.symm
  omega
theorem Own.kept {w w' : World} {base g : Nat} {v : Value} {xs : List Int} (h : Own w base v xs) (hg : w.grownBy w' (some g)) (hne : ¬ some g = v.ownBlock) : Own w' base v xs := World.ownsRow.kept h hg (.inr fun e => hne e.symm)
theorem two_wrap (z : Int) : IntKind.u64.wrap z = ((two z : Nat) : Int) := by
  rw [IntKind.wrap_u64]; unfold two; omega
theorem two_lt (z : Int) : two z < 2 ^ 64 := by unfold two; omega
theorem head_byte (n : Nat) (h : n ≤ 8) : IntKind.u8.wrap (128 + (n : Int)) = 128 + n ∧ IntKind.u8.wrap (127 - (n : Int)) = 127 - n := by
  simp only [IntKind.wrap, IntKind.bits, IntKind.signed]
  simp
  omega
theorem splice_all (x : Nat) : splice [0, 0, 0, 0, 0, 0, 0, 0] 0 (be 8 x) = be 8 x := by
  simp [splice, be_len]
theorem size66 (W : World) : (sizeOf (Try.prog.elem 66)).run Try.prog W = .ok 1 W := by kernel_rfl
theorem arr66 : Try.prog.underlying 66 = some (.array (Try.prog.arrayLen 66) (Try.prog.elem 66)) := by kernel_rfl
theorem alen66 : Try.prog.arrayLen 66 = 8 := by kernel_rfl
/-- p[j:] of an array of eight bytes. -/
theorem arr_from (g j : Nat) (hj : j ≤ 8) : ∃ ad m c, (∀ W, (Instr.sliceAt 66 (.pointer (some ⟨g, 0, none⟩)) (some (.int .i64 (j : Int))) none none).run Try.prog W = .ok (.slice (some ad) m c) W) ∧
    ∀ W ty bs, RowT W g ty bs → bs.length = 8 → Bts W (.slice (some ad) m c) (bs.drop j) := by
  refine ⟨if 8 = j then ⟨g, 0, none⟩ else ⟨g, j, none⟩, 8 - j, 8 - j, fun W => ?_, fun W ty bs hr hl => ?_⟩
  · rw [run_sliceAt_array_l W 66 ⟨g, 0, none⟩ arr66 .i64 j (by omega) (by rw [alen66]; omega), size66]
    simp [Result.andThen, slicedAt, alen66, add_at]
  · refine ⟨_, 8 - j, by rw [List.length_drop, hl], ⟨(fun e => by cases e), by rw [List.length_drop, hl]; omega⟩, ?_⟩
    by_cases h8 : 8 = j
    · exact .inl (by rw [List.drop_eq_nil_iff]; omega)
    · refine .inr ⟨g, j, by rw [if_neg h8], fun t _ ht => ?_⟩
      rw [List.length_drop] at ht
      rw [hr.cell (j + t) (by omega)]
      simp
set_option maxRecDepth 100000 in
set_option maxHeartbeats 2000000 in
theorem appendInt_any (base : Nat) (v : Value) (xs : List Int) (z : Int) (w : World) (hz : I64 z) (hown : Own w base v xs) (hbase : base ≤ w.heap.size) (hlen : xs.length ≤ 100000000) :
    Calls Try.prog 30 #[v, .int .i64 z] w fun e w' => ∃ v', e = .returned v' ∧ Own w' base v' (xs ++ numB z) ∧ Below base w w' := by
  have hb := fun W => bytesOf_any z W hz
  have hk8 := needs_mag hz
  have hw := two_wrap z
  have hx := two_lt z
  have hnb : Hid (numB z = headN z :: be (needs (mag z)) (two z)) := rfl
  have hhd : Hid (headN z = if z < 0 then 127 - (needs (mag z) : Int) else 128 + (needs (mag z) : Int)) := rfl
  have hdr : Hid ((be 8 (two z)).drop (8 - needs (mag z)) = be (needs (mag z)) (two z)) := be_drop 8 _ _ hk8
  generalize needs (mag z) = n at *
  generalize two z = X at *
  have hr := fun W => lay_any 66 w.heap.size 0 8 8 X [0, 0, 0, 0, 0, 0, 0, 0] W hx (by simp) (by omega)
  have hhb := head_byte n hk8
  go_enter Try.func30, Try.ntmps30
  go_wp2_with (first | (go_at_call 37; refine (hr _ (heap_new _ _)).mono ?_; rintro e w1 ⟨rfl, hr1, hg1⟩; clear hr) | (go_at_call 38; refine (hb _).mono ?_; rintro e w2 ⟨rfl, hw2⟩; subst w2))
  all_goals
    have hr2 := hr1
    rw [splice_all] at hr2
    clear hr1 hb hw hx
    have ho1 : Own w1 base v xs := (hown.alloc _).kept hg1 (own_ne hown (Nat.le_refl _))
    have hz1 := hg1.size
    simp only [World.size_alloc] at hz1
    have hB1 : Below base w w1 := ((Below.refl base w).alloc hbase _).grown hg1 (by simp; omega) (by intro k hk; cases hk; exact hbase)
    have hnv : ¬ some w.heap.size = v.ownBlock := own_ne hown (Nat.le_refl _)
    clear hg1 hown
    generalize hgg : w.heap.size = g at *
    obtain ⟨j, hj⟩ : ∃ j, j = 8 - n := ⟨_, rfl⟩
    obtain ⟨ad, m, c, hsl, hbs⟩ := arr_from g j (by omega)
    have hwj : IntKind.i64.wrap (8 - (n : Int)) = (j : Int) := by rw [Go.IntWalk.i64_in _ (by omega)]; omega
    rw [← hj] at hdr
    have hj8 : Hid (j = 8 - n) := hj
    have hk9 : Hid (n ≤ 8) := hk8
    clear hj hk8
    go_region_law (first
        | (refine stepG rfl (.tmp 20) (.tmp 23) rfl base v _ _ _ xs _ rfl rfl (ho1.alloc _) (bts_one _ _ _) (by simp; omega) (by simp; omega) ?_; intro v2 w2 ho2 hg2)
        | (refine stepG rfl (.tmp 24) (.tmp 27) rfl base v2 _ _ _ _ _ rfl rfl ho2 (hbs _ _ _ (hr2.keep ((hg2.block _ (by have := hr2.lt; simp; omega) hnv).trans (heap_old _ _ hr2.lt))) (be_len _ _)) (by have := hg2.size; simp at this; omega) (by simp [be_len]; omega) ?_; intro v3 w3 ho3 hg3))
    go_wp2
    go_ret
    have hBa : Below base w1 w2 := (((Below.refl base w1).alloc (by omega) _).drew).grown hg2 (by simp; omega) (fun k hk => (ho1.lt k hk).1)
    have hBb : Below base w2 w3 := ho2.grows (by have := hBa.size; omega) hg3
    refine ⟨v3, rfl, ho3.cast ?_, (hB1.trans hBa).trans hBb⟩
    rw [hnb.out, hhd.out, hdr.out]
    first
      | (rw [if_pos (by assumption)]; simp; done)
      | (rw [if_neg (by omega)]; simp)
end Go.Proofs.Ytkhnhnaefmcngaa
