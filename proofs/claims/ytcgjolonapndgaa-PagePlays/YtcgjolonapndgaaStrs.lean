/- Slices of strings of the call's own, and such as are read. -/
import Derived.Test.YtcgjolonapndgaaPRead
namespace Go.Proofs.Ytcgjolonapndgaa
open Go.RowKit Go.Maps Go.ChangeMaps Go.MapKept

theorem info9 : (Try.prog.info? 9).map (fun i => (i.zero, i.size, i.bytes)) = some (some (.string ⟨#[]⟩), 1, 16) := by kernel_rfl
/-- A slice of strings of the call's own (blocks from base on), or nil. -/
def StrOwn (w : World) (base : Nat) (v : Value) (ss : List ByteArray) : Prop := w.ownsRow base 9 1 v ss.length (ss.map Value.string)
theorem StrOwn.lt {w : World} {base : Nat} {v : Value} {ss : List ByteArray} (h : StrOwn w base v ss) : ∀ k, v.ownBlock = some k → base ≤ k ∧ k < w.heap.size := World.ownsRow.lt h
theorem StrOwn.below {w w' : World} {base : Nat} {v : Value} {ss : List ByteArray} (h : StrOwn w base v ss) (hb : Below w.heap.size w w') : StrOwn w' base v ss :=
  World.ownsRow.kept h (row := none) ⟨hb.os, hb.tape, hb.output, hb.size, fun k hk _ => hb.block k hk⟩ (by cases v.ownBlock <;> simp)
/-- append(v, s): s lies in a new block of its own. -/
theorem appStr {w : World} {ops : Array Oper} {rest : List Oper} {o : Oper} {a : Act} {Q : Exit → Act → World → Prop} (hgd : o.guard = none) (s x : Operand)
    (ho : o.op = .call { callee := .builtin .append, args := #[s, x], argTypes := #[65, 65] })
    (base : Nat) (v : Value) (ss : List ByteArray) (str : ByteArray) (hs : a.eval s = v) (hx : a.eval x = .slice (some ⟨w.heap.size, 0, none⟩) 1 1)
    (hown : StrOwn w base v ss) (hbase : base ≤ w.heap.size) (hlen : ss.length ≤ 1000000)
    (h : ∀ v' w', StrOwn w' base v' (ss ++ [str]) → Below base w w' → wpList Try.prog ops Q rest (a.put o.dst v') w') :
    wpList Try.prog ops Q (o :: rest) a (w.alloc (.cells #[.string str] 9)) := by
  obtain ⟨i0, hi, hz0, hz1, hz2⟩ := info_parts info9
  refine wpList_append_own _ hgd s x 65 ho base 9 i0 (.string ⟨#[]⟩) 1 16 Try.underlying65 hi hz0 hz1 hz2 rfl (by decide) v ss.length (ss.map Value.string) hs (World.ownsRow.alloc hown _) ⟨w.heap.size, 0, none⟩ 1 1 [.string str] hx rfl (cell_one_new _ _ _) ?_ ?_ ?_ ?_ ?_
  · intro u hu; simp at hu; subst hu; rfl
  · unfold maxLen; omega
  · omega
  · simp; omega
  · intro v' w' h1 h2 _
    refine h v' w' ?_ ?_
    · unfold StrOwn; simpa using h1
    · refine ((Below.refl base w).alloc hbase _).grown h2 (by simp; omega) (fun k hk => ?_)
      exact (hown.lt k hk).1
/-- A slice of strings that is read. -/
def StrsR (w : World) (v : Value) (ss : List ByteArray) : Prop :=
  ∃ a c, v = .slice a ss.length c ∧ (ss = [] ∨ ∃ b o, a = some ⟨b, o, none⟩ ∧ ∀ t, t < ss.length → w.cell? ⟨b, o + t, none⟩ = some (.string (ss.getD t ⟨#[]⟩)))
theorem StrOwn.strs {w : World} {base : Nat} {v : Value} {ss : List ByteArray} (h : StrOwn w base v ss) : StrsR w v ss := by
  have h' := h
  obtain ⟨h1, h2⟩ := h
  rcases h2 with ⟨rfl, h0⟩ | ⟨g, cap, cur, rfl, _, _, hcap, _, _, _⟩
  · have : ss = [] := List.eq_nil_of_length_eq_zero h0
    subst this
    exact ⟨none, 0, rfl, .inl rfl⟩
  · refine ⟨_, cap, rfl, .inr ⟨g, 0, rfl, fun t ht => ?_⟩⟩
    have hc := World.ownsRow.cells h' rfl t (.string (ss.getD t ⟨#[]⟩)) (by simp [List.getElem?_map, List.getElem?_eq_getElem ht])
    rw [add_at] at hc; exact hc
/-- It is read, and lies in none of F's blocks. -/
def Kept (w : World) (F : Nat → Prop) (v : Value) (ss : List ByteArray) : Prop := StrsR w v ss ∧ ∀ g, v.ownBlock = some g → ¬ F g ∧ g < w.heap.size
theorem StrsR.keep {w w' : World} {v : Value} {ss : List ByteArray} (h : StrsR w v ss) (hv : ∀ g, v.ownBlock = some g → w'.heap[g]? = w.heap[g]?) : StrsR w' v ss := by
  obtain ⟨a, c, rfl, h⟩ := h
  refine ⟨a, c, rfl, ?_⟩
  rcases h with h | ⟨b, o, rfl, h⟩
  · exact .inl h
  · exact .inr ⟨b, o, rfl, fun t ht => (World.cell?_of_block (w := w) (hv b rfl)).trans (h t ht)⟩
theorem Kept.grow {w w' : World} {F : Nat → Prop} {v : Value} {ss : List ByteArray} (h : Kept w F v ss) (hb : Below w.heap.size w w') : Kept w' F v ss :=
  ⟨h.1.keep (fun g hg => hb.block g (h.2 g hg).2), fun g hg => ⟨(h.2 g hg).1, Nat.lt_of_lt_of_le (h.2 g hg).2 hb.size⟩⟩
theorem Kept.below {w w' : World} {F : Nat → Prop} {v : Value} {ss : List ByteArray} {B : Nat} (h : Kept w F v ss) (hb : Below B w w') (hB : ∀ g, v.ownBlock = some g → g < B) : Kept w' F v ss :=
  ⟨h.1.keep (fun g hg => hb.block g (hB g hg)), fun g hg => ⟨(h.2 g hg).1, Nat.lt_of_lt_of_le (h.2 g hg).2 hb.size⟩⟩
theorem Kept.gone {w w' : World} {F F' : Nat → Prop} {v : Value} {ss : List ByteArray} (h : Kept w F v ss) (hf : Frm F w w') (hF : ∀ k, F' k → F k ∨ w.heap.size ≤ k) : Kept w' F' v ss := by
  refine ⟨h.1.keep (fun g hg => hf.block g (h.2 g hg).2 (h.2 g hg).1), fun g hg => ⟨fun hk => ?_, Nat.lt_of_lt_of_le (h.2 g hg).2 hf.size⟩⟩
  have := h.2 g hg
  rcases hF g hk with h1 | h1
  · exact this.1 h1
  · omega
theorem StrsR.at {w : World} {v : Value} {ss : List ByteArray} (h : StrsR w v ss) (t : Nat) (ht : t < ss.length) : ∃ b o c, v = .slice (some ⟨b, o, none⟩) ss.length c ∧ w.cell? ⟨b, o + t, none⟩ = some (.string (ss.getD t ⟨#[]⟩)) := by
  obtain ⟨a, c, rfl, h⟩ := h
  rcases h with h | ⟨b, o, rfl, h⟩
  · subst h; simp at ht
  · exact ⟨b, o, c, rfl, h t ht⟩
/-- Blocks from B on turn; the disk lies ahead of them. -/
theorem Held.over {w wr w' : World} {p : Nat} {F : Nat → Prop} {s : St} {B : Nat} (h : Held w wr p F s) (hb : Below B wr w') (hB : ∀ k, F k → k < B) (hw : w.heap.size ≤ B) : Held w w' p F s :=
  ⟨h.disk.keep (fun k hk _ => hb.block k (hB k hk)), fun k hk => ⟨(h.blocks k hk).1, Nat.lt_of_lt_of_le (h.blocks k hk).2 hb.size⟩, h.below.trans (hb.mono hw)⟩
end Go.Proofs.Ytcgjolonapndgaa
