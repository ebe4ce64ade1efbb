/- The contract of find: the empty tree, a tree of one leaf. -/
import Derived.Test.YtdobleekjiehdaaGreatDsc
namespace Go.Proofs.YtdobleekjiehdaaGreat
set_option linter.unusedVariables false
open Go.RowKit
/-- The iface of a memory. -/
def memV (m : Nat) : Value := .iface 26 (.pointer (some ⟨m, 0, none⟩))
/-- What find has laid since w0. -/
structure Pth (w0 w : World) (m size q p mb n : Nat) (S : Int → Bool) (vS : Value) (th : Bool) (id keys : Nat) (v : Value) (i : Nat) : Prop where
  path : PathAt w q p vS th
  step : StepAt w vS w0.heap.size id 1 keys v i
  walk : WalkAt w p (.iface 26 (.pointer (some ⟨m, 0, none⟩))) size mb
  met : Met w mb n S
  below : Below w0.heap.size w0 w
  nq : w0.heap.size ≤ q
  np : w0.heap.size ≤ p
  nm : w0.heap.size ≤ mb
/-- The pages' page id is a leaf of these cells, as Put lays it. -/
structure Leaf (ps : List ByteArray) (size id : Nat) (l : List Cl) : Prop where
  lo : 1 ≤ id
  hi : id ≤ ps.length
  fits : (ps.getD (id - 1) ByteArray.empty).size ≤ size
  cells : nodeC 1 (numsS (ps.getD (id - 1) ByteArray.empty)) = some l
  some : l ≠ []
  ris : risB l = true
  cnt : ∀ c ∈ l, c.count ≤ 2147483647
  short : ∀ c ∈ l, c.short size
  len : l.length ≤ 8000000
section
variable {w : World} {m most size : Nat} {ps : List ByteArray}
theorem StepAt.wide {vS v : Value} {b0 b1 id lv keys i : Nat} (h : StepAt w vS b1 id lv keys v i) (hb : b0 ≤ b1) : StepAt w vS b0 id lv keys v i := by
  obtain ⟨B, cap, C, e, h1, h2, h3⟩ := h
  exact ⟨B, cap, C, e, Nat.le_trans hb h1, h2, h3⟩
set_option maxRecDepth 100000 in
set_option maxHeartbeats 4000000 in
theorem find_empty (h : IsMem w m ps most size) (hs1 : 480 ≤ size) (k v : ByteArray) (hk1 : 1 ≤ k.size) (hk2 : k.size ≤ 64) (hv : v.size ≤ 16384) :
    Calls Tryz.prog 31 #[.iface 26 (.pointer (some ⟨m, 0, none⟩)), .agg #[.int .i64 0, .int .i64 0, .int .i64 0], .string k, .string v] w fun e w' => ∃ q p mb vS, e = .returned (.tuple #[.pointer (some ⟨q, 0, none⟩), .int .i64 0]) ∧ Pth w w' m size q p mb 0 (fun _ => false) vS false 0 0 (.slice none 0 0) 0 := by
  have hB : Below w.heap.size w (w.alloc (.cells #[.int .i64 0, .int .i64 0, .int .i64 0] 31)) := (Below.refl _ w).alloc (Nat.le_refl _) _
  have hso := setOut_ok (h.grow hB) hs1
  have d1 : decide ((k.size : Int) < 1) = false := by simp; omega
  have d2 : decide ((64 : Int) < (k.size : Int)) = false := by simp; omega
  have d3 : decide ((16384 : Int) < (v.size : Int)) = false := by simp; omega
  have hx : (w.alloc (.cells #[.int .i64 0, .int .i64 0, .int .i64 0] 31)).heap[w.heap.size]? = some (.cells #[.int .i64 0, .int .i64 0, .int .i64 0] 31 (0, 0)) := heap_alloc_new w _
  have hz : (w.alloc (.cells #[.int .i64 0, .int .i64 0, .int .i64 0] 31)).heap.size = w.heap.size + 1 := by simp
  go_enter Tryz.func31, Tryz.ntmps31
  go_upto_region 7 with (first | (go_at_call 34; refine hso.mono ?_; rintro e w2 ⟨rfl, hw2, hm2, hb2⟩))
  rw [hz] at hw2 hm2 hb2
  have hB2 := hB.trans (hb2.mono (by omega))
  have hx2 := (hb2.block _ (by omega)).trans hx
  have hA3 : Below w2.heap.size w2 (w2.alloc (.cells #[.pointer (some ⟨w.heap.size + 1 + 1, 0, none⟩), .slice none 0 0, .bool false] 79)) := (Below.refl _ w2).alloc (Nat.le_refl _) _
  have hp3 : PathAt (w2.alloc (.cells #[.pointer (some ⟨w.heap.size + 1 + 1, 0, none⟩), .slice none 0 0, .bool false] 79)) w2.heap.size (w.heap.size + 1 + 1) (.slice none 0 0) false := heap_alloc_new w2 _
  have hw3 := hw2.keep (hA3.block _ hw2.lt)
  have hm3 := hm2.keep (hA3.block _ hm2.lt)
  have hx3 := (hA3.block _ (lt_of_block hx2)).trans hx2
  have hB3 := hB2.trans (hA3.mono hB2.size)
  have hsz2 : w.heap.size + 1 ≤ w2.heap.size := by have := hw2.lt; omega
  have hpq := hw2.lt
  have hmq := hm2.lt
  have hwl := hw3.lt
  have hmlt := hm3.lt
  generalize w2.alloc (.cells #[.pointer (some ⟨w.heap.size + 1 + 1, 0, none⟩), .slice none 0 0, .bool false] 79) = W3 at *
  generalize w2.heap.size = q at *
  have t0 : W3.cell? ⟨w.heap.size, 0, none⟩ = some (.int .i64 0) ∧ W3.cell? ⟨w.heap.size, 1, none⟩ = some (.int .i64 0) ∧ W3.cell? ⟨w.heap.size, 2, none⟩ = some (.int .i64 0) := by
    refine ⟨?_, ?_, ?_⟩ <;> simp [World.cell?, hx3]
  obtain ⟨t1, t2, t3⟩ := t0
  have hde := descend_empty hp3 k
  go_wp2_with (first | (go_at_call 42; refine hde.mono ?_; rintro e w4 ⟨rfl, vS, hp4, hst4, hf4⟩))
  go_ret2
  exact ⟨q, _, _, vS, rfl, ⟨hp4, hst4.wide hB3.size, hw3.keep (hf4.block _ hwl (by show _ ≠ q; omega)), hm3.keep (hf4.block _ hmlt (by show _ ≠ q; omega)), hB3.trans ((hf4.below hB3.size (fun b hb => by rw [hb]; omega))), by omega, by omega, by omega⟩⟩
set_option maxRecDepth 100000 in
set_option maxHeartbeats 4000000 in
theorem find_leaf (h : IsMem w m ps most size) (hs1 : 480 ≤ size) (hs2 : size ≤ 1000000) (hpl : ps.length ≤ 1000000) (id : Nat) (l : List Cl) (hL : Leaf ps size id l) (k v : ByteArray) (hk1 : 1 ≤ k.size) (hk2 : k.size ≤ 64) (hv : v.size ≤ 16384) :
    Calls Tryz.prog 31 #[.iface 26 (.pointer (some ⟨m, 0, none⟩)), .agg #[.int .i64 id, .int .i64 l.length, .int .i64 1], .string k, .string v] w fun e w' => ∃ q p mb vS fd v i, e = .returned (.tuple #[.pointer (some ⟨q, 0, none⟩), .int .i64 0]) ∧ Pth w w' m size q p mb 1 (fun j => if j = (id : Int) then true else false) vS fd id l.length v i ∧ OwnC w' w.heap.size v l ∧ SeekP l k i fd := by
  obtain ⟨N, hN⟩ : ∃ N, Hid (N = l.length) := ⟨_, rfl⟩
  rw [← hN.out]
  have hN1 : 1 ≤ N := by rw [hN.out]; exact List.length_pos_iff.2 hL.some
  have hkl : keysL 1 l = N := by rw [hN.out]; rfl
  replace hkl : Hid _ := hkl
  have hid := hL.lo
  have hB : Below w.heap.size w (w.alloc (.cells #[.int .i64 id, .int .i64 N, .int .i64 1] 31)) := (Below.refl _ w).alloc (Nat.le_refl _) _
  have hso := setOut_ok (h.grow hB) hs1
  have d1 : decide ((k.size : Int) < 1) = false := by simp; omega
  have d2 : decide ((64 : Int) < (k.size : Int)) = false := by simp; omega
  have d3 : decide ((16384 : Int) < (v.size : Int)) = false := by simp; omega
  have hx : (w.alloc (.cells #[.int .i64 id, .int .i64 N, .int .i64 1] 31)).heap[w.heap.size]? = some (.cells #[.int .i64 id, .int .i64 N, .int .i64 1] 31 (0, 0)) := heap_alloc_new w _
  have hz : (w.alloc (.cells #[.int .i64 id, .int .i64 N, .int .i64 1] 31)).heap.size = w.heap.size + 1 := by simp
  go_enter Tryz.func31, Tryz.ntmps31
  go_upto_region 7 with (first | (go_at_call 34; refine hso.mono ?_; rintro e w2 ⟨rfl, hw2, hm2, hb2⟩))
  rw [hz] at hw2 hm2 hb2
  have hB2 := hB.trans (hb2.mono (by omega))
  have hx2 := (hb2.block _ (by omega)).trans hx
  have hA3 : Below w2.heap.size w2 (w2.alloc (.cells #[.pointer (some ⟨w.heap.size + 1 + 1, 0, none⟩), .slice none 0 0, .bool false] 79)) := (Below.refl _ w2).alloc (Nat.le_refl _) _
  have hp3 : PathAt (w2.alloc (.cells #[.pointer (some ⟨w.heap.size + 1 + 1, 0, none⟩), .slice none 0 0, .bool false] 79)) w2.heap.size (w.heap.size + 1 + 1) (.slice none 0 0) false := heap_alloc_new w2 _
  have hw3 := hw2.keep (hA3.block _ hw2.lt)
  have hm3 := hm2.keep (hA3.block _ hm2.lt)
  have hx3 := (hA3.block _ (lt_of_block hx2)).trans hx2
  have hB3 := hB2.trans (hA3.mono hB2.size)
  have hsz2 : w.heap.size + 1 ≤ w2.heap.size := by have := hw2.lt; omega
  have hpq := hw2.lt
  have hmq := hm2.lt
  have hwl := hw3.lt
  have hmlt := hm3.lt
  generalize w2.alloc (.cells #[.pointer (some ⟨w.heap.size + 1 + 1, 0, none⟩), .slice none 0 0, .bool false] 79) = W3 at *
  generalize w2.heap.size = q at *
  have t0 : W3.cell? ⟨w.heap.size, 0, none⟩ = some (.int .i64 id) ∧ W3.cell? ⟨w.heap.size, 1, none⟩ = some (.int .i64 N) ∧ W3.cell? ⟨w.heap.size, 2, none⟩ = some (.int .i64 1) := by
    refine ⟨?_, ?_, ?_⟩ <;> simp [World.cell?, hx3]
  obtain ⟨t1, t2, t3⟩ := t0
  have hI3 := h.grow hB3
  have hde := descend_leaf (n := 0) (S := fun j => if j = (id : Int) then true else false) (mb := w.heap.size + 1) hp3 id N hid hN1 l k (by omega) (by omega) (fun W hW => step_ok (hp3.keep (hW.block _ hp3.lt)) id N l k hL.len (hm3.keep (hW.block _ hm3.lt)).isMap (room := size) (fun W' hW' => by
    have hBB := hW.trans (hW'.mono hW.size)
    exact node_ok (hw3.keep (hBB.block _ hwl)) (hm3.keep (hBB.block _ hmlt)) (by omega) (hI3.grow hBB) hs1 hs2 id N hid hL.hi hpl rfl hL.fits l hL.cells hL.some hL.ris hkl.out hL.cnt hL.short hL.len))
  go_wp2_with (first | (go_at_call 42; refine hde.mono ?_; rintro e w4 ⟨rfl, vS, v4, i4, fd, hp4, hst4, ho4, hsp, hm4, hf4⟩))
  go_ret2
  exact ⟨q, _, _, vS, fd, v4, i4, rfl, ⟨hp4, hst4.wide hB3.size, hw3.keep (hf4.block _ hwl (by rintro (e | e) <;> omega)), hm4, hB3.trans (hf4.below hB3.size (fun b hb => by rcases hb with e | e <;> omega)), by omega, by omega, by omega⟩, ho4.wide hB3.size, hsp⟩
end
end Go.Proofs.YtdobleekjiehdaaGreat
