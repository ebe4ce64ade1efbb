/- The contract of node, at a leaf. -/
import Derived.Test.YtdobleekjiehdaaGreatWlk
namespace Go.Proofs.YtdobleekjiehdaaGreat
set_option linter.unusedVariables false
open Go.RowKit
section
variable {w : World} {m most size : Nat} {ps : List ByteArray}
set_option maxRecDepth 100000 in
set_option maxHeartbeats 4000000 in
/-- node of a leaf that is as Put lays it. -/
theorem node_ok {p room mb n : Nat} {S : Int → Bool} (hw : WalkAt w p (.iface 26 (.pointer (some ⟨m, 0, none⟩))) room mb) (hmt : Met w mb n S) (hn : n ≤ 1000000) (h : IsMem w m ps most size) (hr1 : 480 ≤ room) (hr2 : room ≤ 1000000) (id keys : Nat) (h1 : 1 ≤ id) (h2 : id ≤ ps.length) (hp : ps.length ≤ 1000000) (hS : S id = false) (hl : (ps.getD (id - 1) ByteArray.empty).size ≤ room)
    (l : List Cl) (hC : nodeC 1 (numsS (ps.getD (id - 1) ByteArray.empty)) = some l) (h0 : l ≠ []) (hr : risB l = true) (hk : keysL 1 l = keys) (hcn : ∀ c ∈ l, c.count ≤ 2147483647) (hsh : ∀ c ∈ l, c.short room) (hll : l.length ≤ 8000000) :
    Calls Tryz.prog 58 #[.pointer (some ⟨p, 0, none⟩), .agg #[.int .i64 id, .int .i64 1, .int .i64 keys, .string ⟨#[]⟩, .string ⟨#[]⟩]] w fun e w' => ∃ v, e = .returned (.tuple #[v, .int .i64 0]) ∧ OwnC w' w.heap.size v l ∧ Met w' mb (n + 1) (fun j => if j = id then true else S j) ∧ w.grownBy w' (some mb) := by
  have hB : Below w.heap.size w (w.alloc (.cells #[.int .i64 id, .int .i64 1, .int .i64 keys, .string ⟨#[]⟩, .string ⟨#[]⟩] 99)) := (Below.refl _ w).alloc (Nat.le_refl _) _
  have hx : (w.alloc (.cells #[.int .i64 id, .int .i64 1, .int .i64 keys, .string ⟨#[]⟩, .string ⟨#[]⟩] 99)).heap[w.heap.size]? = some (.cells #[.int .i64 id, .int .i64 1, .int .i64 keys, .string ⟨#[]⟩, .string ⟨#[]⟩] 99 (0, 0)) := heap_alloc_new w _
  have hwA : WalkAt (w.alloc (.cells #[.int .i64 id, .int .i64 1, .int .i64 keys, .string ⟨#[]⟩, .string ⟨#[]⟩] 99)) p (.iface 26 (.pointer (some ⟨m, 0, none⟩))) room mb := hw.keep (hB.block _ hw.lt)
  have hmA : Met (w.alloc (.cells #[.int .i64 id, .int .i64 1, .int .i64 keys, .string ⟨#[]⟩, .string ⟨#[]⟩] 99)) mb n S := hmt.keep (hB.block _ hmt.lt)
  have hld := load_ok hwA hmA hn (h.grow hB) id h1 h2 hp hS hl
  have hmap := hmA.isMap
  have hby : IsBytes (numsS (ps.getD (id - 1) ByteArray.empty)) := numsS_bytes _
  have hbl : (numsS (ps.getD (id - 1) ByteArray.empty)).length ≤ 1000000 := by rw [numsS_length]; omega
  generalize numsS (ps.getD (id - 1) ByteArray.empty) = bs at *
  clear hl
  have hlt : w.heap.size < (w.alloc (.cells #[.int .i64 id, .int .i64 1, .int .i64 keys, .string ⟨#[]⟩, .string ⟨#[]⟩] 99)).heap.size := by simp
  have hB0 := hB
  go_enter Tryz.func58, Tryz.ntmps58
  go_wp2_with fail
  generalize w.alloc (.cells #[.int .i64 id, .int .i64 1, .int .i64 keys, .string ⟨#[]⟩, .string ⟨#[]⟩] 99) = W1 at *
  have key : Hid (∀ W : World, W.heap[w.heap.size]? = W1.heap[w.heap.size]? → (W.cell? ⟨w.heap.size, 0, none⟩ = some (.int .i64 id) ∧ W.cell? ⟨w.heap.size, 1, none⟩ = some (.int .i64 1) ∧ W.cell? ⟨w.heap.size, 2, none⟩ = some (.int .i64 keys)) ∧ W.cell? ⟨w.heap.size, 3, none⟩ = some (.string ⟨#[]⟩) ∧ W.cell? ⟨w.heap.size, 4, none⟩ = some (.string ⟨#[]⟩)) := by
    show ∀ W, _ → _
    intro W hW
    have hh := hW.trans hx
    refine ⟨⟨?_, ?_, ?_⟩, ?_, ?_⟩ <;> simp [World.cell?, hh]
  have hwl : w.heap.size < W1.heap.size := hlt
  refine hld.mono ?_
  rintro e w2 ⟨v2, rfl, hb2, hm2, hg2⟩
  have hx2 : w2.heap[w.heap.size]? = W1.heap[w.heap.size]? := (grown_cells hg2 hmap hx).trans hx.symm
  have hw2 := hwA.turn hg2 hmap
  obtain ⟨⟨y0, y1, y2⟩, y3, y4⟩ := key.out w2 hx2
  have hnc := nodeCells_any 1 (by omega) v2 hb2 hby hbl
  rw [hC] at hnc
  have hs2 := hg2.size
  clear hld hby hbl hB hwA hmA hb2 hC
  go_wp2_with fail
  refine Calls.mono hnc ?_
  rintro e w3 ⟨⟨v3, rfl, ho3⟩, hB3⟩
  simp only at ho3
  obtain ⟨a3, c3, rfl⟩ := ho3.shape
  obtain ⟨N, hN⟩ : ∃ N, Hid (N = l.length) := ⟨_, rfl⟩
  rw [← hN.out] at ho3 ⊢
  obtain ⟨⟨z0, z1, z2⟩, z3, z4⟩ := key.out w3 ((hB3.block _ (by omega)).trans hx2)
  have hft := fits_ok (w := w3) (id : Int) 1 keys a3 N c3 l ho3.cells hll h0 hr hk hcn
  have hw3 := hw2.keep (hB3.block _ hw2.lt)
  have hsd : ∀ W, Below w3.heap.size w3 W → Calls Tryz.prog 70 #[.pointer (some ⟨p, 0, none⟩), .int .i64 1, .slice a3 N c3] W fun e w' => e = .returned (.bool true) ∧ Below W.heap.size W w' := fun W hW => sound_ok (hw3.keep (hW.block _ hw3.lt)) hr1 hr2 a3 N c3 l (ho3.cells.grow hW) hll hsh
  have hk3 : Hid (∀ W, Below w3.heap.size w3 W → OwnC W w2.heap.size (.slice a3 N c3) l) := fun W hW => World.ownsRow.kept (row := none) ho3 ⟨hW.os, hW.tape, hW.output, hW.size, fun k hk _ => hW.block k hk⟩ (by cases (Value.slice a3 N c3).ownBlock <;> simp)
  clear hnc ho3 hk hr hcn hsh h0
  go_wp2_with (first
    | (go_at_call 69; refine hft.mono ?_; rintro e w4 ⟨rfl, hb4⟩; obtain ⟨⟨u0, u1, u2⟩, u3, u4⟩ := key.out w4 ((hb4.block _ (by have := hB3.size; omega)).trans ((hB3.block _ (by omega)).trans hx2)))
    | (go_at_call 70; refine (hsd _ hb4).mono ?_; rintro e w5 ⟨rfl, hb5⟩))
  go_ret2
  have hb5' := hb4.trans (hb5.mono hb4.size)
  have hB5 := hB3.trans (hb5'.mono hB3.size)
  refine ⟨_, rfl, (hk3.out w5 hb5').wide (by omega), hm2.keep (hB5.block _ hm2.lt), ⟨hB5.os.trans (hg2.os.trans hB0.os), hB5.tape.trans (hg2.tape.trans hB0.tape), hB5.output.trans (hg2.output.trans hB0.output), Nat.le_trans hB0.size (Nat.le_trans hg2.size hB5.size), fun k hk hne => (hB5.block k (Nat.lt_of_lt_of_le hk (Nat.le_trans hB0.size hg2.size))).trans ((hg2.block k (Nat.lt_of_lt_of_le hk hB0.size) hne).trans (hB0.block k hk))⟩⟩
end
end Go.Proofs.YtdobleekjiehdaaGreat
