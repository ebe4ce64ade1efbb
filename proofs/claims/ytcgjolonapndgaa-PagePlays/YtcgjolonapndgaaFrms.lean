/- Slices of ints, of bytes, of lists, under what may turn. -/
import Derived.Test.YtcgjolonapndgaaCrash
import Derived.Lib.SlBytesConst
namespace Go.Proofs.Ytcgjolonapndgaa
open Go.RowKit Go.Maps Go.ChangeMaps Go.MapKept
theorem Ints.grow {w w' : World} {v : Value} {xs : List Int} (h : Ints w v xs) (hb : Below w.heap.size w w') : Ints w' v xs := by
  obtain ⟨a, c, rfl, h⟩ := h
  refine ⟨a, c, rfl, ?_⟩
  rcases h with h | ⟨b, o, rfl, h⟩
  · exact .inl h
  · exact .inr ⟨b, o, rfl, fun t ht => (hb.cell (p := ⟨b, o + t, none⟩) (World.block_lt_of_cell? w _ (h t ht))).trans (h t ht)⟩
/-- .. while only blocks of F, or new ones, turn, and it lies in none of F. -/
theorem Ints.frm {F : Nat → Prop} {w w' : World} {v : Value} {xs : List Int} (h : Ints w v xs) (hf : Frm F w w') (hv : ∀ k, v.ownBlock = some k → ¬ F k) : Ints w' v xs := by
  obtain ⟨a, c, rfl, h⟩ := h
  refine ⟨a, c, rfl, ?_⟩
  rcases h with h | ⟨b, o, rfl, h⟩
  · exact .inl h
  · exact .inr ⟨b, o, rfl, fun t ht => (World.cell?_of_block (w := w) (hf.block b (World.block_lt_of_cell? w _ (h t ht)) (hv b rfl))).trans (h t ht)⟩
theorem Ints.lt {w : World} {v : Value} {xs : List Int} (h : Ints w v xs) (h0 : xs ≠ []) : ∀ k, v.ownBlock = some k → k < w.heap.size := by
  obtain ⟨a, c, rfl, h1⟩ := h
  rcases h1 with h1 | ⟨b, o, rfl, hr⟩
  · exact absurd h1 h0
  · intro k hk
    cases hk
    exact World.block_lt_of_cell? w _ (hr 0 (List.length_pos_iff.2 h0))
theorem Bts.frm {F : Nat → Prop} {w w' : World} {v : Value} {xs : List Int} (h : Bts w v xs) (hf : Frm F w w') (hv : ∀ k, v.ownBlock = some k → ¬ F k) : Bts w' v xs := by
  obtain ⟨a, c, rfl, hn, h⟩ := h
  refine ⟨a, c, rfl, hn, ?_⟩
  rcases h with h | ⟨b, o, rfl, h⟩
  · exact .inl h
  · exact .inr ⟨b, o, rfl, fun t h0 ht => (World.cell?_of_block (w := w) (hf.block b (World.block_lt_of_cell? w _ (h t h0 ht)) (hv b rfl))).trans (h t h0 ht)⟩
theorem IsD.tight {w : World} {p : Nat} {F : Nat → Prop} {s : St} (h : IsD w p F s) : IsD w p (fun k => F k ∧ k < w.heap.size) s := by
  obtain ⟨bs, bf, ns, nf, gs, gf, h, hr⟩ := h
  exact ⟨bs, bf, ns, nf, gs, gf, h.tight, hr⟩

theorem ints_nil (w : World) : Ints w (.slice none 0 0) [] := ⟨none, 0, rfl, .inl rfl⟩
theorem ints1 (w : World) (x : Int) : Ints (w.alloc (.cells #[.int .i64 x] 3)) (.slice (some ⟨w.heap.size, 0, none⟩) 1 1) [x] := by
  refine ⟨_, 1, rfl, .inr ⟨w.heap.size, 0, rfl, fun t ht => ?_⟩⟩
  have : t = 0 := by simp at ht; omega
  subst this
  simp
theorem torns1 (w : World) (x y : Int) : Torns (w.alloc (.cells #[.int .i64 x, .int .i64 y] 93)) (.slice (some ⟨w.heap.size, 0, none⟩) 1 1) [(x, y)] := by
  refine ⟨_, 1, rfl, .inr ⟨w.heap.size, 0, rfl, fun t ht => ?_⟩⟩
  have : t = 0 := by simp at ht; omega
  subst this
  constructor <;> simp

/-! ### live() -/
theorem const1 (w : World) (C : Array Value) (n c : Nat) : (convert 23 23 (.slice (some ⟨w.heap.size, 0, none⟩) n c)).run Try.prog (w.alloc (.cells C 5)) = .ok (.slice (some ⟨w.heap.size, 0, none⟩) n c) (w.alloc (.cells C 5 (C.size, C.size + 1))) :=
  Lib.run_convert_bytes_const (P := Try.prog) w 23 5 C n c Try.underlying23 Try.underlying5
theorem const2 (w : World) (o : Obj) (C : Array Value) (n c : Nat) : (convert 23 23 (.slice (some ⟨w.heap.size + 1, 0, none⟩) n c)).run Try.prog ((w.alloc o).alloc (.cells C 5)) = .ok (.slice (some ⟨w.heap.size + 1, 0, none⟩) n c) ((w.alloc o).alloc (.cells C 5 (C.size, C.size + 1))) := by
  have := const1 (w.alloc o) C n c
  rwa [World.size_alloc] at this
theorem bts_block {W : World} {g : Nat} {fr : Nat × Nat} (xs : List Int) (h : W.heap[g]? = some (.cells (xs.map (Value.int .u8)).toArray 5 fr)) : Bts W (.slice (some ⟨g, 0, none⟩) xs.length xs.length) xs := by
  refine ⟨_, xs.length, rfl, ⟨(fun e => by cases e), Nat.le_refl _⟩, .inr ⟨g, 0, rfl, fun t _ ht => ?_⟩⟩
  simp [World.cell?, h, ht]
theorem lists2 {W : World} {a b c : Nat} {fa fb : Nat × Nat} (x y : List Int) (ha : W.heap[a]? = some (.cells (x.map (Value.int .u8)).toArray 5 fa)) (hb : W.heap[b]? = some (.cells (y.map (Value.int .u8)).toArray 5 fb))
    (hc : W.heap[c]? = some (.cells #[.slice (some ⟨a, 0, none⟩) x.length x.length, .slice (some ⟨b, 0, none⟩) y.length y.length] 23 (0, 0))) : Lists W (.slice (some ⟨c, 0, none⟩) 2 2) [x, y] := by
  refine ⟨_, 2, rfl, .inr ⟨c, 0, rfl, fun t ht => ?_⟩⟩
  match t, ht with
  | 0, _ => exact ⟨_, by simp [World.cell?, hc], bts_block x ha⟩
  | 1, _ => exact ⟨_, by simp [World.cell?, hc], bts_block y hb⟩

end Go.Proofs.Ytcgjolonapndgaa
