/- Strips: the notion, bytes.Clone and quill.Unroll. -/
import Derived.Test.YtfbeilninpapaaaRead2
import Derived.Deep.QuietTactic
import Derived.BigQuiet
namespace Go.Proofs.Ytfbeilninpapaaa
open Go.RowKit
set_option maxRecDepth 100000 in
theorem clone_none (w : World) : Calls Try.prog 53 #[.slice none 0 0] w fun e w' => e = .returned (.slice none 0 0) ∧ w' = w := by
  have hnil : ∀ W, (binOp .eql 40 (.slice none 0 0) (.slice none 0 0)).run Try.prog W = .ok (.bool true) W := fun W => Lib.run_eql_slice_nil W 40 5 none 0 0 0 0 Try.underlying40
  go_enter Try.func53, Try.ntmps53
  go_wp2
  go_ret
  exact ⟨rfl, rfl⟩
/-- []byte{} in a new block. -/
theorem own_emptyB (w : World) : Own (w.alloc (.cells #[] 5)) w.heap.size (.slice (some ⟨w.heap.size, 0, none⟩) 0 0) [] :=
  World.ownsRow_made w #[] 0 (Nat.le_refl _) (by unfold maxLen; omega) rfl
set_option maxRecDepth 100000 in
theorem clone_some (a : Addr) (c : Nat) (bs : List Int) (w : World) (hlen : bs.length ≤ 1000000000) (hb : Bts w (.slice (some a) bs.length c) bs) :
    Calls Try.prog 53 #[.slice (some a) bs.length c] w fun e w' => ∃ v', e = .returned v' ∧ Own w' w.heap.size v' bs ∧ Below w.heap.size w w' := by
  have hnil : ∀ W n c, (binOp .eql 40 (.slice (some a) n c) (.slice none 0 0)).run Try.prog W = .ok (.bool false) W := fun W n c => Lib.run_eql_slice_nil W 40 5 (some a) n c 0 0 Try.underlying40
  have ho := own_emptyB w
  have hb' := hb.alloc (.cells #[] 5)
  go_enter Try.func53, Try.ntmps53
  go_wp2_with (at_builtin; refine appX rfl (.tmp 5) (.tmp 6) rfl w.heap.size _ _ [] bs rfl rfl ho hb' (by simp) (by simp; omega) ?_; intro v1 w1 ho1 hb1 _)
  go_ret
  exact ⟨_, rfl, ho1, ((Below.refl _ w).alloc (Nat.le_refl _) _).trans hb1⟩
theorem clone_any (bs : List Int) (v : Value) (w : World) (hlen : bs.length ≤ 1000000000) (hb : Bts w v bs) :
    Calls Try.prog 53 #[v] w fun e w' => ∃ v', e = .returned v' ∧ Own w' w.heap.size v' bs ∧ Below w.heap.size w w' := by
  have hb' := hb
  obtain ⟨a, c, rfl, ⟨hn, hl⟩, h1⟩ := hb
  cases a with
  | none =>
    obtain rfl := hn rfl
    have : bs = [] := by cases bs <;> simp_all
    subst this
    refine (clone_none w).mono ?_
    rintro e w' ⟨rfl, rfl⟩
    exact ⟨_, rfl, World.ownsRow_nil _ _ _ _, Below.refl _ _⟩
  | some a => exact clone_some a c bs w hlen hb'
/-- A strip in block g: its bytes (in blocks from lo on, below g), its place, its error. -/
def IsStrip (w : World) (lo g : Nat) (bs : List Int) (pl : Nat) (err : Int) : Prop :=
  ∃ a n c, w.heap[g]? = some (.cells #[.slice a n c, .int .i64 pl, .int .i64 err] 84 (0, 0)) ∧ Bts w (.slice a n c) bs ∧ (lo ≤ g ∧ ∀ k, (Value.slice a n c).ownBlock = some k → lo ≤ k ∧ k < g) ∧ pl ≤ bs.length

set_option maxRecDepth 100000 in
theorem unroll_any (bs : List Int) (v : Value) (w : World) (hlen : bs.length ≤ 1000000000) (hb : Bts w v bs) :
    Calls Try.prog 36 #[v] w fun e w' => ∃ g, e = .returned (.pointer (some ⟨g, 0, none⟩)) ∧ w.heap.size ≤ g ∧ IsStrip w' w.heap.size g bs 0 0 ∧ Below w.heap.size w w' := by
  go_enter Try.func36, Try.ntmps36
  go_wp2_with (go_at_call 53; refine (clone_any bs v _ hlen hb).mono ?_; rintro e w1 ⟨v1, rfl, ho1, hb1⟩; obtain ⟨a1, c1, rfl⟩ := ho1.shape)
  go_ret
  refine ⟨w1.heap.size, rfl, hb1.size, ⟨a1, bs.length, c1, heap_alloc_new w1 _, ho1.bts.alloc _, ⟨hb1.size, fun k hk => ?_⟩, Nat.zero_le _⟩, hb1.alloc hb1.size _⟩
  exact ho1.lt k hk

theorem strip_cells {w : World} {g : Nat} {C : Array Value} (h : w.heap[g]? = some (.cells C 84 (0, 0))) (i : Nat) (v : Value) (hv : C[i]? = some v) : w.cell? ⟨g, i, none⟩ = some v ∧ w.frozen? ⟨g, i, none⟩ = false := by
  simp [World.cell?, World.frozen?, h, hv]

theorem block_setCell {w : World} {g i : Nat} {C : Array Value} {t : TypeId} {u : Value} (h : w.heap[g]? = some (.cells C t (0, 0))) : (w.setCell ⟨g, i, none⟩ u).heap[g]? = some (.cells (C.setIfInBounds i u) t (0, 0)) := by
  have hlt := lt_of_block h
  have h' : w.heap[g] = .cells C t (0, 0) := by simpa [Array.getElem?_eq_getElem hlt] using h
  show (w.heap.modify g _)[g]? = _
  rw [Array.getElem?_eq_getElem (by simpa using hlt), Array.getElem_modify_self, h']
  rfl

/-- What is read in blocks other than g stays while g is written. -/
theorem Bts.other {w W : World} {g i : Nat} {u v : Value} {bs : List Int} (h : Bts w v bs) (hW : Below w.heap.size w W) (hk : ∀ k, v.ownBlock = some k → k ≠ g) : Bts (W.setCell ⟨g, i, none⟩ u) v bs := by
  obtain ⟨a, c, rfl, hn, h1⟩ := h
  refine ⟨a, c, rfl, hn, ?_⟩
  rcases h1 with h1 | ⟨b, o, rfl, hr⟩
  · exact .inl h1
  · refine .inr ⟨b, o, rfl, fun t h0 ht => ?_⟩
    have hc := hr t h0 ht
    have hbl := World.block_lt_of_cell? w _ hc
    have hne : b ≠ g := hk b rfl
    exact (World.cell?_of_block (w := W) (Below.heap_setCell W _ u b hne)).trans ((hW.cell (p := ⟨b, o + t, none⟩) hbl).trans hc)

theorem grownBy_set {w W : World} (hW : Below w.heap.size w W) (g i : Nat) (u : Value) : w.grownBy (W.setCell ⟨g, i, none⟩ u) (some g) :=
  ⟨hW.os, hW.tape, hW.output, by simpa [World.setCell] using hW.size, fun k hk hne => (Below.heap_setCell W _ u k (fun e => hne (by rw [e]))).trans (hW.block k hk)⟩
theorem grownBy_below {w W : World} (hW : Below w.heap.size w W) (row : Option Nat) : w.grownBy W row :=
  ⟨hW.os, hW.tape, hW.output, hW.size, fun k hk _ => hW.block k hk⟩

section
variable {w W : World} {lo g pl : Nat} {bs : List Int} {err : Int}
theorem IsStrip.lt (hs : IsStrip w lo g bs pl err) : g < w.heap.size := by
  obtain ⟨a, n, c, hg, _⟩ := hs
  exact lt_of_block hg
theorem strip_stay (hs : IsStrip w lo g bs pl err) (hW : Below w.heap.size w W) : IsStrip W lo g bs pl err ∧ w.grownBy W (some g) := by
  have hlt := hs.lt
  obtain ⟨a, n, c, hg, hb, hk, hpl⟩ := hs
  exact ⟨⟨a, n, c, (hW.block g hlt).trans hg, hb.grow hW, hk, hpl⟩, grownBy_below hW _⟩
theorem strip_move (hs : IsStrip w lo g bs pl err) (hW : Below w.heap.size w W) (pl' : Nat) (h : pl' ≤ bs.length) (X : Int) (hX : X = pl') :
    IsStrip (W.setCell ⟨g, 1, none⟩ (.int .i64 X)) lo g bs pl' err ∧ w.grownBy (W.setCell ⟨g, 1, none⟩ (.int .i64 X)) (some g) := by
  subst hX
  have hlt := hs.lt
  obtain ⟨a, n, c, hg, hb, hk, hpl⟩ := hs
  refine ⟨⟨a, n, c, ?_, hb.other hW (fun k h => Nat.ne_of_lt (hk.2 k h).2), hk, h⟩, grownBy_set hW _ _ _⟩
  rw [block_setCell ((hW.block g hlt).trans hg)]; rfl
theorem strip_fail (hs : IsStrip w lo g bs pl err) (hW : Below w.heap.size w W) (er : Int) :
    IsStrip (W.setCell ⟨g, 2, none⟩ (.int .i64 er)) lo g bs pl er ∧ w.grownBy (W.setCell ⟨g, 2, none⟩ (.int .i64 er)) (some g) := by
  have hlt := hs.lt
  obtain ⟨a, n, c, hg, hb, hk, hpl⟩ := hs
  refine ⟨⟨a, n, c, ?_, hb.other hW (fun k h => Nat.ne_of_lt (hk.2 k h).2), hk, hpl⟩, grownBy_set hW _ _ _⟩
  rw [block_setCell ((hW.block g hlt).trans hg)]; rfl
/-- A strip stays while a block is written that is none of its own. -/
theorem strip_other {row : Nat} (hs : IsStrip w lo g bs pl err) (hW : w.grownBy W (some row)) (hr : row < lo ∨ g < row) : IsStrip W lo g bs pl err := by
  have hlt := hs.lt
  obtain ⟨a, n, c, hg, hb, hk, hpl⟩ := hs
  refine ⟨a, n, c, (hW.block g hlt (by simp; omega)).trans hg, ?_, hk, hpl⟩
  obtain ⟨a', c', e, hn, h1⟩ := hb
  cases e
  refine ⟨a, c, rfl, hn, ?_⟩
  rcases h1 with h1 | ⟨b, o, rfl, hr2⟩
  · exact .inl h1
  · refine .inr ⟨b, o, rfl, fun t h0 ht => ?_⟩
    have hbb := hk.2 b rfl
    exact hW.cell (hr2 t h0 ht) (by simp; omega)
end

/-- Behind a reading that answers R: the place, the error. -/
def nextP {α : Type} (pl : Nat) (err : Int) (R : α × Nat × Int) : Nat := if err = 0 then (if R.2.2 = 0 then pl + R.2.1 else pl) else pl
def nextE {α : Type} (err : Int) (R : α × Nat × Int) : Int := if err = 0 then R.2.2 else err
def nextV {α : Type} (z : α) (err : Int) (R : α × Nat × Int) : α := if err = 0 then (if R.2.2 = 0 then R.1 else z) else z

theorem IsBytes.drop {bs : List Int} (h : IsBytes bs) (k : Nat) : IsBytes (bs.drop k) := fun c hc => h c (List.mem_of_mem_drop hc)
theorem below_draw (w : World) (n : Nat) : Below w.heap.size w (w.drewN n) := below_drewN (Below.refl _ _) n
end Go.Proofs.Ytfbeilninpapaaa
