/- The contracts of groupOf, appendGroup, appendText. -/
import Derived.Test.YtkhnhnaefmcngaaLaw
import Derived.Laws.CopyRow
import Derived.Laws.ResultCell
import Derived.Lib.BufferWrite
namespace Go.Proofs.Ytkhnhnaefmcngaa
open Go.RowKit
theorem size_5 : (Try.prog.info? 5).map (·.size) = some 1 := by kernel_rfl
theorem padN_splice (l : List Int) : splice [0, 0, 0, 0, 0, 0, 0, 0] 0 (l.take 8) = padN 8 l := by
  by_cases h : l.length ≤ 8
  · rw [padN_short 8 l h, List.take_of_length_le h]
    simp only [splice, List.take_zero, List.nil_append, Nat.zero_add]
    congr 1
    have e : [(0 : Int), 0, 0, 0, 0, 0, 0, 0] = List.replicate 8 0 := rfl
    rw [e, List.drop_replicate]
  · rw [padN_long 8 l (by omega)]
    simp [splice]
    omega
/-- copy(g[:], s) onto eight bytes of value 0. -/
theorem copy8 (W : World) (g : Nat) (ty : TypeId) (s : ByteArray) (hr : RowT W g ty [0, 0, 0, 0, 0, 0, 0, 0]) : ∃ W' : World, ∃ n : Int, (∀ t, (Builtin.copy_ #[47, 9] t #[.slice (some ⟨g, 0, none⟩) 8 8, .string s]).run Try.prog W = .ok (.int .i64 n) W') ∧ RowT W' g ty (padN 8 (numsS s)) ∧ W.grownBy W' (some g) := by
  have hnl : (numsS s).length = s.size := numsS_length s
  have hcs : (numsS s).map (Value.int .u8) = s.data.toList.map (fun b : UInt8 => Value.int IntKind.u8 (b.toNat : Int)) := by simp [numsS]
  have hlen : (((numsS s).take 8).map (Value.int .u8)).length = Nat.min s.size 8 := by simp [hnl, Nat.min_comm]
  have hst := run_storeCells_at Try.prog g 0 ty (((numsS s).take 8).map (Value.int .u8)) 0 _ W hr (by rw [hlen]; simp; exact Nat.min_le_right _ _) (by intro v hv; obtain ⟨x, _, rfl⟩ := List.mem_map.1 hv; rfl)
  have htk : List.take (Nat.min s.size 8) (List.map (fun b : UInt8 => Value.int IntKind.u8 (b.toNat : Int)) s.data.toList) = ((numsS s).take 8).map (Value.int .u8) := by
    rw [← hcs, ← List.map_take]
    by_cases h : s.size ≤ 8
    · have e : Nat.min s.size 8 = s.size := Nat.min_eq_left h
      rw [e, List.take_of_length_le (by omega), List.take_of_length_le (by omega)]
    · have e : Nat.min s.size 8 = 8 := Nat.min_eq_right (by omega)
      rw [e]
  have hls : (List.take (0 + 0) (List.map (Value.int .u8) [0, 0, 0, 0, 0, 0, 0, 0]).toArray.toList ++ List.map (Value.int .u8) (List.take 8 (numsS s)) ++ List.drop (0 + 0 + (List.map (Value.int .u8) (List.take 8 (numsS s))).length) (List.map (Value.int .u8) [0, 0, 0, 0, 0, 0, 0, 0]).toArray.toList) = (padN 8 (numsS s)).map (Value.int .u8) := by
    rw [← padN_splice]
    simp only [splice, Nat.add_zero, Nat.zero_add, List.take_zero, List.nil_append, List.map_append, List.map_drop, List.length_map]
  rw [hls] at hst
  refine ⟨W.setRow g ((padN 8 (numsS s)).map (Value.int .u8)).toArray, (Nat.min s.size 8 : Nat), fun t => ?_, setRow_heap W g _ _ ty _ hr, ⟨rfl, rfl, rfl, by simp [World.setRow], fun k _ hk => setRow_other W g k _ (fun e => hk (by rw [e]))⟩⟩
  have h5 := size_5
  cases hq : Try.prog.info? 5 with
  | none => simp [hq] at h5
  | some i =>
    simp [hq] at h5
    simp [Builtin.copy_, run_underlying Try.underlying47, Builtin.lenOf, Builtin.firstCells, sizeOf, typeInfo, hq]
    rw [htk, hst]
    simp [Result.andThen]
    rfl
theorem list8 {l : List Int} (h : l.length = 8) : ∃ c0 c1 c2 c3 c4 c5 c6 c7, l = [c0, c1, c2, c3, c4, c5, c6, c7] := by
  match l, h with
  | [c0, c1, c2, c3, c4, c5, c6, c7], _ => exact ⟨c0, c1, c2, c3, c4, c5, c6, c7, rfl⟩
/-- The cells of a row of eight bytes. -/
theorem RowT.cells8 {w : World} {g : Nat} {ty : TypeId} {c0 c1 c2 c3 c4 c5 c6 c7 : Int} (h : RowT w g ty [c0, c1, c2, c3, c4, c5, c6, c7]) :
    w.cell? ⟨g, 0, none⟩ = some (.int .u8 c0) ∧ w.cell? ⟨g, 1, none⟩ = some (.int .u8 c1) ∧ w.cell? ⟨g, 2, none⟩ = some (.int .u8 c2) ∧ w.cell? ⟨g, 3, none⟩ = some (.int .u8 c3) ∧ w.cell? ⟨g, 4, none⟩ = some (.int .u8 c4) ∧ w.cell? ⟨g, 5, none⟩ = some (.int .u8 c5) ∧ w.cell? ⟨g, 6, none⟩ = some (.int .u8 c6) ∧ w.cell? ⟨g, 7, none⟩ = some (.int .u8 c7) ∧ ∀ p, w.frozen? ⟨g, p, none⟩ = false :=
  ⟨h.cell 0 (by simp), h.cell 1 (by simp), h.cell 2 (by simp), h.cell 3 (by simp), h.cell 4 (by simp), h.cell 5 (by simp), h.cell 6 (by simp), h.cell 7 (by simp), h.frozen⟩
/-- Eight bytes as a value. -/
def arrV (l : List Int) : Value := .agg (l.map (Value.int .u8)).toArray
set_option maxRecDepth 100000 in
set_option maxHeartbeats 2000000 in
theorem groupOf_any (s : ByteArray) (w : World) : Calls Try.prog 40 #[.string s] w fun e w' => e = .returned (arrV (padN 8 (numsS s))) ∧ Below w.heap.size w w' := by
  have hr0 : RowT ((w.alloc (.cells #[.int .u8 0, .int .u8 0, .int .u8 0, .int .u8 0, .int .u8 0, .int .u8 0, .int .u8 0, .int .u8 0] 70)).alloc (.cells #[.int .u8 0, .int .u8 0, .int .u8 0, .int .u8 0, .int .u8 0, .int .u8 0, .int .u8 0, .int .u8 0] 70)) (w.heap.size + 1) 70 [0, 0, 0, 0, 0, 0, 0, 0] := by
    have := heap_new (w.alloc (.cells #[.int .u8 0, .int .u8 0, .int .u8 0, .int .u8 0, .int .u8 0, .int .u8 0, .int .u8 0, .int .u8 0] 70)) (.cells #[.int .u8 0, .int .u8 0, .int .u8 0, .int .u8 0, .int .u8 0, .int .u8 0, .int .u8 0, .int .u8 0] 70)
    rw [World.size_alloc] at this
    exact this
  obtain ⟨W', n, hcp, hr1, hg1⟩ := copy8 _ _ _ s hr0
  have hp1 : RowT W' w.heap.size 70 [0, 0, 0, 0, 0, 0, 0, 0] := by
    refine (hg1.block _ (by simp; omega) (by simp)).trans ?_
    rw [heap_old _ _ (by simp)]
    exact heap_new _ _
  have hB : Below w.heap.size w W' := (((Below.refl _ w).alloc (Nat.le_refl _) _).alloc (by simp) _).grown hg1 (by simp; omega) (by intro k hk; cases hk; omega)
  obtain ⟨c0, c1, c2, c3, c4, c5, c6, c7, hl⟩ := list8 (padN_len 8 (numsS s))
  rw [hl] at hr1 ⊢
  clear hl hg1 hr0
  obtain ⟨a0, a1, a2, a3, a4, a5, a6, a7, af⟩ := hr1.cells8
  obtain ⟨b0, b1, b2, b3, b4, b5, b6, b7, bf⟩ := hp1.cells8
  clear hr1 hp1 
  go_enter Try.func40, Try.ntmps40
  go_wp2
  refine bodyPost_ret (v := arrV [c0, c1, c2, c3, c4, c5, c6, c7]) ?_ rfl ⟨rfl, (((((((hB.setCell (Nat.le_refl _) _).setCell (Nat.le_refl _) _).setCell (Nat.le_refl _) _).setCell (Nat.le_refl _) _).setCell (Nat.le_refl _) _).setCell (Nat.le_refl _) _).setCell (Nat.le_refl _) _).setCell (Nat.le_refl _) _⟩
  simp [results, Try.results40, go_sem, arrV, b0, b1, b2, b3, b4, b5, b6, b7]
theorem grow3 {w w2 w3 : World} {base : Nat} {v v2 : Value} {xs ys : List Int} {o1 o2 : Obj} (h1 : Own w base v xs) (hb : base ≤ w.heap.size) (g1 : (w.alloc o1).grownBy w2 v.ownBlock) (h2 : Own w2 base v2 ys) (g2 : (w2.alloc o2).grownBy w3 v2.ownBlock) : Below base w w3 := by
  have e1 : Below base w w2 := ((Below.refl base w).alloc hb _).grown g1 (by simp; omega) (fun k hk => (h1.lt k hk).1)
  have e2 := e1.size
  exact e1.trans (((Below.refl base w2).alloc (by omega) _).grown g2 (by simp; omega) (fun k hk => (h2.lt k hk).1))
set_option maxRecDepth 100000 in
set_option maxHeartbeats 2000000 in
theorem appendGroup_any (base : Nat) (v : Value) (xs q : List Int) (l : Int) (w : World) (hq : q.length = 8) (hown : Own w base v xs) (hbase : base ≤ w.heap.size) (hlen : xs.length ≤ 100000000) :
    Calls Try.prog 39 #[v, arrV q, .int .u8 l] w fun e w' => ∃ v', e = .returned v' ∧ Own w' base v' (xs ++ (q ++ [l])) ∧ Below base w w' := by
  obtain ⟨c0, c1, c2, c3, c4, c5, c6, c7, rfl⟩ := list8 hq
  unfold arrV
  have hbt : Bts (w.alloc (.cells #[.int .u8 c0, .int .u8 c1, .int .u8 c2, .int .u8 c3, .int .u8 c4, .int .u8 c5, .int .u8 c6, .int .u8 c7] 70)) (.slice (some ⟨w.heap.size, 0, none⟩) 8 8) [c0, c1, c2, c3, c4, c5, c6, c7] :=
    RowT.bts (g := w.heap.size) (ty := 70) (bs := [c0, c1, c2, c3, c4, c5, c6, c7]) (heap_new _ _)
  go_enter Try.func39, Try.ntmps39
  go_wp2_with (first
    | (at_builtin; refine appG rfl (.tmp 7) (.tmp 8) rfl base v _ _ _ xs [c0, c1, c2, c3, c4, c5, c6, c7] rfl rfl (hown.alloc _) hbt (by simp; omega) (by simp; omega) ?_; intro v2 w2 ho2 hg2)
    | (at_builtin; refine appG rfl (.tmp 9) (.tmp 11) rfl base v2 _ _ _ (xs ++ [c0, c1, c2, c3, c4, c5, c6, c7]) [l] rfl rfl (ho2.alloc _) (bts_one _ _ _) (by have := hg2.size; simp at this; simp; omega) (by simp; omega) ?_; intro v3 w3 ho3 hg3))
  go_ret
  exact ⟨v3, rfl, ho3.cast (by simp), grow3 hown hbase hg2 ho2 hg3⟩
end Go.Proofs.Ytkhnhnaefmcngaa
