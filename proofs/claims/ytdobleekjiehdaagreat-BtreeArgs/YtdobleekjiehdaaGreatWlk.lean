/- The contracts of setOut, load, lay and trunk, over the statements' own memory. -/
import Derived.Test.YtdobleekjiehdaaGreatMem
namespace Go.Proofs.YtdobleekjiehdaaGreat
set_option linter.unusedVariables false
open Go.RowKit
theorem numsS_bytes (s : ByteArray) : IsBytes (numsS s) := by
  intro c hc
  unfold numsS at hc
  obtain ⟨b, _, rfl⟩ := List.mem_map.1 hc
  have := b.toNat_lt
  omega
theorem meth_load (v : Value) (W : World) : (method 315 26 v "Load").run Tryz.prog W = .ok (141, v) W := by kernel_rfl
theorem meth_lay (v : Value) (W : World) : (method 315 26 v "Lay").run Tryz.prog W = .ok (140, v) W := by kernel_rfl
section
variable {w : World} {m most size : Nat} {ps : List ByteArray}
theorem Met.isMap {b n : Nat} {S : Int → Bool} (h : Met w b n S) : ∃ es clock, w.heap[b]? = some (.map es clock) := MapG.isMap h
/-- A turn of a map leaves cells as they are. -/
theorem grown_cells {W : World} {mb k : Nat} {c : Array Value} {t : TypeId} {fr : Nat × Nat} (hg : w.grownBy W (some mb)) (hmap : ∃ es clock, w.heap[mb]? = some (.map es clock)) (h : w.heap[k]? = some (.cells c t fr)) : W.heap[k]? = some (.cells c t fr) :=
  (hg.block k (lt_of_block h) (fun e => by
    obtain ⟨es, clock, hm⟩ := hmap
    cases e
    rw [hm] at h
    cases h)).trans h
theorem IsMem.turn {W : World} {mb : Nat} (h : IsMem w m ps most size) (hg : w.grownBy W (some mb)) (hmap : ∃ es clock, w.heap[mb]? = some (.map es clock)) : IsMem W m ps most size := by
  obtain ⟨v, h1, h2⟩ := h
  refine ⟨v, grown_cells hg hmap h1, World.ownsRow.kept h2 hg ?_⟩
  rcases h2.2 with ⟨rfl, _⟩ | ⟨g, cap, cur, rfl, _, hgg, _⟩
  · exact .inl rfl
  · refine .inr (fun e => ?_)
    obtain ⟨es, clock, hm⟩ := hmap
    simp [Value.ownBlock] at e
    subst e
    rw [hm] at hgg
    cases hgg
theorem WalkAt.turn {W : World} {mb p room mb' : Nat} {nv : Value} (h : WalkAt w p nv room mb') (hg : w.grownBy W (some mb)) (hmap : ∃ es clock, w.heap[mb]? = some (.map es clock)) : WalkAt W p nv room mb' := grown_cells hg hmap h
set_option maxRecDepth 100000 in
theorem setOut_ok (h : IsMem w m ps most size) (hs : 480 ≤ size) : Calls Tryz.prog 34 #[.iface 26 (.pointer (some ⟨m, 0, none⟩))] w fun e w' => e = .returned (.tuple #[.pointer (some ⟨w.heap.size + 1, 0, none⟩), .int .i64 0]) ∧ WalkAt w' (w.heap.size + 1) (.iface 26 (.pointer (some ⟨m, 0, none⟩))) size w.heap.size ∧ Met w' w.heap.size 0 (fun _ => false) ∧ Below w.heap.size w w' := by
  have hml := h.lt
  obtain ⟨vP, hm, _⟩ := h
  have c2 : w.cell? ⟨m, 2, none⟩ = some (.int .i64 size) := by simp [World.cell?, hm]
  have hr := room_any m (size : Int) w c2
  have hme := meth_room (.pointer (some ⟨m, 0, none⟩))
  have d : decide ((size : Int) < 480) = false := by simp; omega
  have hmm := @run_makeMap Tryz.prog
  have hmt := met_made w
  go_enter Tryz.func34, Tryz.ntmps34
  go_wp2_with (first | (go_at_call 142; refine hr.mono ?_; rintro e w' ⟨rfl, hw'⟩; subst w'))
  go_ret2
  have hB : Below w.heap.size w (w.alloc (.map #[] 0)) := (Below.refl _ w).alloc (Nat.le_refl _) _
  have hx : WalkAt ((w.alloc (.map #[] 0)).alloc (.cells #[.iface 26 (.pointer (some ⟨m, 0, none⟩)), .int .i64 size, .map (some w.heap.size)] 107)) (w.alloc (.map #[] 0)).heap.size (.iface 26 (.pointer (some ⟨m, 0, none⟩))) size w.heap.size := heap_alloc_new _ _
  rw [World.size_alloc] at hx
  refine ⟨rfl, hx, hmt.keep (((Below.refl _ (w.alloc (.map #[] 0))).alloc (Nat.le_refl _) _).block _ hmt.lt), hB.alloc hB.size _⟩
set_option maxRecDepth 100000 in
set_option maxHeartbeats 2000000 in
theorem load_ok {p room mb n : Nat} {S : Int → Bool} (hw : WalkAt w p (.iface 26 (.pointer (some ⟨m, 0, none⟩))) room mb) (hmt : Met w mb n S) (hn : n ≤ 1000000) (h : IsMem w m ps most size) (id : Nat) (h1 : 1 ≤ id) (h2 : id ≤ ps.length) (hp : ps.length ≤ 1000000) (hS : S id = false) (hl : (ps.getD (id - 1) ByteArray.empty).size ≤ room) :
    Calls Tryz.prog 46 #[.pointer (some ⟨p, 0, none⟩), .int .i64 id] w fun e w' => ∃ v, e = .returned (.tuple #[v, .int .i64 0]) ∧ Bts w' v (numsS (ps.getD (id - 1) ByteArray.empty)) ∧ Met w' mb (n + 1) (fun j => if j = id then true else S j) ∧ w.grownBy w' (some mb) := by
  have hlk := hmt.look (k := (id : Int)) (by omega) (by omega)
  rw [hS] at hlk
  obtain ⟨c0, c1, c2⟩ := hw.cells
  have hbA : Below w.heap.size w (w.alloc (.cells #[] 119)) := (Below.refl _ w).alloc (Nat.le_refl _) _
  obtain ⟨w1, hup, hm1, ht1⟩ := (hmt.keep (hbA.block _ hmt.lt)).put (by unfold maxLen; omega) (k := (id : Int)) (by omega) (by omega)
  have hg1 := ht1.grown
  have hmap := (hmt.keep (w' := w.alloc (.cells #[] 119)) (hbA.block _ hmt.lt)).isMap
  have hwA : WalkAt (w.alloc (.cells #[] 119)) p (.iface 26 (.pointer (some ⟨m, 0, none⟩))) room mb := hw.keep (hbA.block _ hw.lt)
  have hw1 := hwA.turn hg1 hmap
  have hI1 := (h.grow hbA).turn hg1 hmap
  obtain ⟨a0, a1, a2⟩ := hwA.cells
  obtain ⟨b0, b1, b2⟩ := hw1.cells
  have hld := mload_ok hI1 id h1 h2 hp
  have hme := meth_load (.pointer (some ⟨m, 0, none⟩))
  have hg0 : w.grownBy w1 (some mb) := ⟨hg1.os, hg1.tape, hg1.output, Nat.le_trans hbA.size hg1.size, fun k hk hne => (hg1.block k (Nat.lt_of_lt_of_le hk hbA.size) hne).trans (hbA.block k hk)⟩
  generalize ps.getD (id - 1) ByteArray.empty = X at *
  clear hmt hw hmap hwA h hI1 hS hbA ht1 hg1
  go_enter Tryz.func46, Tryz.ntmps46
  go_wp2_with (first | (go_at_call 141; refine hld.mono ?_; rintro e w2 ⟨v2, rfl, hb2, hB2⟩; have hlb := len_bts hb2; rw [numsS_length] at hlb; obtain ⟨b0', b1', b2'⟩ := (hw1.keep (hB2.block _ hw1.lt)).cells; have d5 : decide ((room : Int) < (X.size : Int)) = false := (by simp; omega)))
  go_ret2
  refine ⟨_, rfl, hb2, hm1.keep (hB2.block _ hm1.lt), ⟨hB2.os.trans hg0.os, hB2.tape.trans hg0.tape, hB2.output.trans hg0.output, Nat.le_trans hg0.size hB2.size, fun k hk hne => (hB2.block k (Nat.lt_of_lt_of_le hk hg0.size)).trans (hg0.block k hk hne)⟩⟩
set_option maxRecDepth 100000 in
set_option maxHeartbeats 2000000 in
theorem lay_ok {p room mb : Nat} (hw : WalkAt w p (.iface 26 (.pointer (some ⟨m, 0, none⟩))) room mb) (h : IsMem w m ps most size) (v : Value) (bs : List Int) (hb : Bts w v bs) (hl : bs.length ≤ size) (hmo : ps.length < most) (hp : ps.length ≤ 1000000) :
    Calls Tryz.prog 53 #[.pointer (some ⟨p, 0, none⟩), v] w fun e w' => e = .returned (.tuple #[.int .i64 ((ps.length + 1 : Nat) : Int), .int .i64 0]) ∧ IsMem w' m (ps ++ [strOfNums bs]) most size ∧ Kl m w w' := by
  obtain ⟨c0, c1, c2⟩ := hw.cells
  have hla := mlay_ok h v bs hb hl hmo hp
  have hme := meth_lay (.pointer (some ⟨m, 0, none⟩))
  generalize ps.length = n at *
  have d : decide (((n + 1 : Nat) : Int) < 1) = false := by simp; omega
  go_enter Tryz.func53, Tryz.ntmps53
  go_wp2_with (first | (go_at_call 140; refine hla.mono ?_; rintro e w2 ⟨rfl, hm2, hk2⟩))
  go_ret2
  exact ⟨rfl, hm2, hk2⟩
set_option maxRecDepth 100000 in
set_option maxHeartbeats 2000000 in
/-- trunk of a tree of one leaf. -/
theorem trunk_ok (root keys : Nat) (h1 : 1 ≤ root) (h2 : 1 ≤ keys) : Calls Tryz.prog 44 #[.agg #[.int .i64 root, .int .i64 keys, .int .i64 1]] w fun e w' => e = .returned (.tuple #[.agg #[.int .i64 root, .int .i64 1, .int .i64 keys, .string ⟨#[]⟩, .string ⟨#[]⟩], .int .i64 0]) ∧ Below w.heap.size w w' := by
  have d1 : decide ((root : Int) < 1) = false := by simp; omega
  have d2 : decide ((keys : Int) < 1) = false := by simp; omega
  go_enter Tryz.func44, Tryz.ntmps44
  go_wp2_with fail
  have hB : Below w.heap.size w (w.alloc (.cells #[.int .i64 root, .int .i64 keys, .int .i64 1] 31)) := (Below.refl _ w).alloc (Nat.le_refl _) _
  refine bodyPost_ret (v := .tuple #[.agg #[.int .i64 root, .int .i64 1, .int .i64 keys, .string ⟨#[]⟩, .string ⟨#[]⟩], .int .i64 0]) ?_ rfl ⟨rfl, hB.alloc hB.size _⟩
  rw [results_cell_tmp rfl]
  simp [asAddr, Result.andThen, go_sem]
end
end Go.Proofs.YtdobleekjiehdaaGreat
