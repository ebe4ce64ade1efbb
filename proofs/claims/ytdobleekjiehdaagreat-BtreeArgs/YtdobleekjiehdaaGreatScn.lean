/- The contracts of Scan, at a tree of one leaf, of all keys; of Same, at slices of like pairs. -/
import Derived.Test.YtdobleekjiehdaaGreatWth
namespace Go.Proofs.YtdobleekjiehdaaGreat
set_option linter.unusedVariables false
open Go.RowKit Go.Maps Go.Sort Go.Shelf
section
variable {w : World} {m most size : Nat} {ps : List ByteArray}
set_option maxRecDepth 100000 in
set_option maxHeartbeats 4000000 in
theorem scan_ok (h : IsMem w m ps most size) (hs1 : 480 ≤ size) (hs2 : size ≤ 1000000) (hpl : ps.length ≤ 1000000) (id : Nat) (l : List Cl) (hL : Leaf ps size id l) (hpg : ∀ c ∈ l, c.page = 0) :
    Calls Tryz.prog 18 #[.iface 26 (.pointer (some ⟨m, 0, none⟩)), .agg #[.int .i64 id, .int .i64 l.length, .int .i64 1], .string ⟨#[]⟩, .string ⟨#[]⟩] w fun e w' => ∃ v, e = .returned (.tuple #[v, .int .i64 0]) ∧ Prs w' w.heap.size v (prsOf l) ∧ Below w.heap.size w w' := by
  obtain ⟨N, hN⟩ : ∃ N, Hid (N = l.length) := ⟨_, rfl⟩
  rw [← hN.out]
  have hN1 : 1 ≤ N := by rw [hN.out]; exact List.length_pos_iff.2 hL.some
  have hkl : keysL 1 l = N := by rw [hN.out]; rfl
  replace hkl : Hid _ := hkl
  have hid := hL.lo
  have hB : Below w.heap.size w (w.alloc (.cells #[.int .i64 id, .int .i64 N, .int .i64 1] 31)) := (Below.refl _ w).alloc (Nat.le_refl _) _
  have hso := setOut_ok (h.grow hB) hs1
  have hx : (w.alloc (.cells #[.int .i64 id, .int .i64 N, .int .i64 1] 31)).heap[w.heap.size]? = some (.cells #[.int .i64 id, .int .i64 N, .int .i64 1] 31 (0, 0)) := heap_alloc_new w _
  have hz : (w.alloc (.cells #[.int .i64 id, .int .i64 N, .int .i64 1] 31)).heap.size = w.heap.size + 1 := by simp
  rw [hz] at hso
  go_enter Tryz.func18, Tryz.ntmps18
  go_upto_region 5 with (first | (go_at_call 34; refine hso.mono ?_; rintro e w2 ⟨rfl, hw2, hm2, hb2⟩))
  have hB2 := hB.trans (hb2.mono (by omega))
  have hx2 := (hb2.block _ (by omega)).trans hx
  have hA : Below w2.heap.size w2 ((w2.alloc (.cells #[.pointer (some ⟨w.heap.size + 1 + 1, 0, none⟩)] 76)).alloc (.cells #[.slice none 0 0] 32)) := ((Below.refl _ w2).alloc (Nat.le_refl _) _).alloc (by simp) _
  have hwb : ((w2.alloc (.cells #[.pointer (some ⟨w.heap.size + 1 + 1, 0, none⟩)] 76)).alloc (.cells #[.slice none 0 0] 32)).heap[w2.heap.size]? = some (.cells #[.pointer (some ⟨w.heap.size + 1 + 1, 0, none⟩)] 76 (0, 0)) := (((Below.refl _ _).alloc (Nat.le_refl _) _).block _ (by simp)).trans (heap_alloc_new w2 _)
  have hpb : ((w2.alloc (.cells #[.pointer (some ⟨w.heap.size + 1 + 1, 0, none⟩)] 76)).alloc (.cells #[.slice none 0 0] 32)).heap[w2.heap.size + 1]? = some (.cells #[.slice none 0 0] 32 (0, 0)) := by
    have := heap_alloc_new (w2.alloc (.cells #[.pointer (some ⟨w.heap.size + 1 + 1, 0, none⟩)] 76)) (.cells #[.slice none 0 0] 32)
    rwa [World.size_alloc] at this
  have hs2' := hw2.lt
  have hB3 := hB2.trans (hA.mono (by have := hb2.size; omega))
  have hx3 := (hA.block _ (lt_of_block hx2)).trans hx2
  have hw3 := hw2.keep (hA.block _ hw2.lt)
  have hm3 := hm2.keep (hA.block _ hm2.lt)
  have hI3 := h.grow hB3
  generalize (w2.alloc (.cells #[.pointer (some ⟨w.heap.size + 1 + 1, 0, none⟩)] 76)).alloc (.cells #[.slice none 0 0] 32) = W3 at *
  generalize w2.heap.size = wb at *
  have hwl := hw3.lt
  have hmlt := hm3.lt
  have hal := all_ok (w := W3) (p := w.heap.size + 1 + 1) (wb := wb) (pb := wb + 1) (base := w.heap.size) (id := id) (keys := N) l hid hN1 hpb (by omega) (fun W hW => by
    have hbW := hW.size
    refine within_ok l hL.len hpg ((hW.block _ (lt_of_block hwb)).trans hwb) ((hW.block _ (lt_of_block hpb)).trans hpb) (by omega) (fun W' hW' => ?_)
    have hBB := hW.trans (hW'.mono hW.size)
    refine (node_ok (hw3.keep (hBB.block _ hwl)) (hm3.keep (hBB.block _ hmlt)) (by omega) (hI3.grow hBB) hs1 hs2 id N hid hL.hi hpl rfl hL.fits l hL.cells hL.some hL.ris hkl.out hL.cnt hL.short hL.len).mono ?_
    rintro e w' ⟨v, rfl, ho, hm', hg⟩
    exact ⟨v, rfl, ho, (Below.refl w.heap.size W').grown hg (Nat.le_trans (Nat.le_trans hB3.size hW.size) hW'.size) (fun k hk => by cases hk; omega), fun k c t hk => grown_cells hg (hm3.keep (hBB.block _ hmlt)).isMap hk⟩)
  have x0 := (cells3 hx3).1
  have x1 := (cells3 hx3).2.1
  have x2 := (cells3 hx3).2.2
  have y0 := cells1 hwb
  go_wp2_with (first | (go_at_call 35; refine hal.mono ?_; rintro e w4 ⟨vR, rfl, hp4, hpr4, hb4⟩; obtain ⟨aR, nR, cR, rfl⟩ := hpr4.shape; have z0 := cells1 hp4))
  go_ret2
  exact ⟨_, rfl, hpr4, hB3.trans hb4⟩
/-- A slice of pairs, read. -/
def PrR (w : World) (v : Value) (l : List (ByteArray × ByteArray)) : Prop := ∃ a c, v = .slice a l.length c ∧ (l = [] ∨ ∃ b o, a = some ⟨b, o, none⟩ ∧ ∀ t, t < l.length → w.cell? ⟨b, o + t * 2, none⟩ = some (.string (l.getD t (⟨#[]⟩, ⟨#[]⟩)).1) ∧ w.cell? ⟨b, o + t * 2 + 1, none⟩ = some (.string (l.getD t (⟨#[]⟩, ⟨#[]⟩)).2))
theorem flatP_get (l : List (ByteArray × ByteArray)) (t : Nat) (ht : t < l.length) : (flatP l)[t * 2]? = some (.string (l.getD t (⟨#[]⟩, ⟨#[]⟩)).1) ∧ (flatP l)[t * 2 + 1]? = some (.string (l.getD t (⟨#[]⟩, ⟨#[]⟩)).2) := by
  induction l generalizing t with
  | nil => simp at ht
  | cons c r ih =>
    have e : flatP (c :: r) = [Value.string c.1, Value.string c.2] ++ flatP r := rfl
    rw [e]
    cases t with
    | zero => exact ⟨rfl, rfl⟩
    | succ t =>
      rw [show (t + 1) * 2 = t * 2 + 2 by omega, show t * 2 + 2 + 1 = (t * 2 + 1) + 2 by omega]
      exact ih t (by simpa using ht)
theorem Prs.read {base : Nat} {v : Value} {l : List (ByteArray × ByteArray)} (h : Prs w base v l) : PrR w v l := by
  have h2 := h
  rcases h.2 with ⟨rfl, h0⟩ | ⟨g, cap, cur, rfl, _⟩
  · have : l = [] := List.length_eq_zero_iff.1 h0
    subst this
    exact ⟨none, 0, rfl, .inl rfl⟩
  · refine ⟨_, cap, rfl, .inr ⟨g, 0, rfl, fun t ht => ⟨?_, ?_⟩⟩⟩
    · have := World.ownsRow.cells h2 (g := g) rfl (t * 2) _ (flatP_get l t ht).1
      rw [add_at] at this
      exact this
    · have := World.ownsRow.cells h2 (g := g) rfl (t * 2 + 1) _ (flatP_get l t ht).2
      rw [add_at] at this
      exact this
theorem PrR.of_block {g c : Nat} {l : List (ByteArray × ByteArray)} {xs : Array Value} {ty : TypeId} {fr : Nat × Nat} (h : w.heap[g]? = some (.cells xs ty fr)) (hx : xs.toList = flatP l) : PrR w (.slice (some ⟨g, 0, none⟩) l.length c) l := by
  refine ⟨_, c, rfl, .inr ⟨g, 0, rfl, fun t ht => ⟨?_, ?_⟩⟩⟩
  · have := (flatP_get l t ht).1
    rw [← hx, Array.getElem?_toList] at this
    simp only [World.cell?, h, Nat.zero_add]
    exact this
  · have := (flatP_get l t ht).2
    rw [← hx, Array.getElem?_toList] at this
    simp only [World.cell?, h, Nat.zero_add]
    exact this
set_option maxRecDepth 100000 in
set_option maxHeartbeats 2000000 in
theorem same_ok (v1 v2 : Value) (l : List (ByteArray × ByteArray)) (hl : l.length ≤ 1000000) (h1 : PrR w v1 l) (h2 : PrR w v2 l) :
    Calls Tryz.prog 19 #[v1, v2] w fun e w' => e = .returned (.bool true) ∧ Below w.heap.size w w' := by
  obtain ⟨a1, c1, rfl, h1⟩ := h1
  obtain ⟨a2, c2, rfl, h2⟩ := h2
  obtain ⟨N, hN⟩ : ∃ N, Hid (N = l.length) := ⟨_, rfl⟩
  rw [← hN.out]
  have hl2 : N ≤ 1000000 := by rw [hN.out]; exact hl
  go_enter Tryz.func19, Tryz.ntmps19
  go_wp2_with fail
  go_loopw [5] (fun i wr => ∃ k : Nat, k ≤ N ∧ i = .int .i64 k ∧ Below w.heap.size w wr) (fun i _ => N - (intOf i).toNat)
  case atStart => exact ⟨0, Nat.zero_le _, rfl, Below.refl _ _⟩
  case round =>
    obtain ⟨k, hk, rfl, hbw⟩ := hrel
    by_cases hlt : k < N
    · have hki : (k : Int) < (N : Int) := by omega
      have hkl : k < l.length := by rw [← hN.out]; exact hlt
      rcases h1 with h1 | ⟨b1, o1, rfl, h1⟩
      · rw [h1] at hkl; simp at hkl
      rcases h2 with h2 | ⟨b2, o2, rfl, h2⟩
      · rw [h2] at hkl; simp at hkl
      obtain ⟨x0, x1⟩ := h1 k hkl
      obtain ⟨y0, y1⟩ := h2 k hkl
      replace x0 := (hbw.cell (p := ⟨b1, o1 + k * 2, none⟩) (World.block_lt_of_cell? w _ x0)).trans x0
      replace x1 := (hbw.cell (p := ⟨b1, o1 + k * 2 + 1, none⟩) (World.block_lt_of_cell? w _ x1)).trans x1
      replace y0 := (hbw.cell (p := ⟨b2, o2 + k * 2, none⟩) (World.block_lt_of_cell? w _ y0)).trans y0
      replace y1 := (hbw.cell (p := ⟨b2, o2 + k * 2 + 1, none⟩) (World.block_lt_of_cell? w _ y1)).trans y1
      clear h1 h2
      generalize l.getD k (⟨#[]⟩, ⟨#[]⟩) = cc at *
      obtain ⟨c1', c2'⟩ := cc
      simp only [] at x0 x1 y0 y1
      go_wp2_with fail
      go_region
      all_goals
        go_wp2_with fail
        refine ⟨⟨k + 1, by omega, by go_num, hbw.drew⟩, ?_⟩
        simp [intOf]; omega
    · obtain rfl : k = N := by omega
      have hkd : decide ((k : Int) < (k : Int)) = false := by simp
      go_wp2_with fail
      go_ret
      exact ⟨rfl, hbw⟩
end
end Go.Proofs.YtdobleekjiehdaaGreat
