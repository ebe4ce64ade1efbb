/- Rows of pairs; the contracts of isAhead, has (all keys), Scan's closure. -/
import Derived.Test.YtdobleekjiehdaaGreatPtt
namespace Go.Proofs.YtdobleekjiehdaaGreat
set_option linter.unusedVariables false
open Go.RowKit Go.Maps Go.Sort Go.Shelf
/-- The cells of a row of pairs. -/
def flatP (l : List (ByteArray × ByteArray)) : List Value := (l.map fun c => [Value.string c.1, Value.string c.2]).flatten
theorem flatP_len (l : List (ByteArray × ByteArray)) : (flatP l).length = l.length * 2 := by
  unfold flatP
  induction l with
  | nil => rfl
  | cons c r ih => simp at ih ⊢; omega
theorem flatP_app (l : List (ByteArray × ByteArray)) (c : ByteArray × ByteArray) : flatP (l ++ [c]) = flatP l ++ [.string c.1, .string c.2] := by
  unfold flatP; simp
/-- A row of pairs of the call's own. -/
def Prs (w : World) (base : Nat) (v : Value) (l : List (ByteArray × ByteArray)) : Prop := w.ownsRow base 66 2 v l.length (flatP l)
theorem info66 : (Tryz.prog.info? 66).map (fun i => (i.zero, i.size, i.bytes)) = some (some (.agg #[.string ⟨#[]⟩, .string ⟨#[]⟩]), 2, 32) := by kernel_rfl
/-- What may turn: block pb, rows of pairs, and new blocks. -/
structure Kq (pb : Nat) (w w' : World) : Prop where
  os : w'.os = w.os
  tape : w'.tape = w.tape
  output : w'.output = w.output
  size : w.heap.size ≤ w'.heap.size
  block : ∀ k, k < w.heap.size → k ≠ pb → (∀ (c : Array Value) (fr : Nat × Nat), w.heap[k]? ≠ some (.cells c 66 fr)) → w'.heap[k]? = w.heap[k]?
theorem Kq.refl (pb : Nat) (w : World) : Kq pb w w := ⟨rfl, rfl, rfl, Nat.le_refl _, fun _ _ _ _ => rfl⟩
theorem Kq.trans {pb : Nat} {a b c : World} (h : Kq pb a b) (k : Kq pb b c) : Kq pb a c :=
  ⟨k.os.trans h.os, k.tape.trans h.tape, k.output.trans h.output, Nat.le_trans h.size k.size, fun i hi hp hn => (k.block i (Nat.lt_of_lt_of_le hi h.size) hp (fun c fr e => hn c fr ((h.block i hi hp hn).symm.trans e))).trans (h.block i hi hp hn)⟩
theorem Kq.of_below {pb : Nat} {w w' : World} (h : Below w.heap.size w w') : Kq pb w w' := ⟨h.os, h.tape, h.output, h.size, fun k hk _ _ => h.block k hk⟩
theorem Kq.cells {pb k : Nat} {w w' : World} {c : Array Value} {t : TypeId} {fr : Nat × Nat} (h : Kq pb w w') (hk : w.heap[k]? = some (.cells c t fr)) (hp : k ≠ pb) (ht : t ≠ 66) : w'.heap[k]? = some (.cells c t fr) :=
  (h.block k (lt_of_block hk) hp (fun c' fr' e => by rw [hk] at e; cases e; exact ht rfl)).trans hk
theorem Kq.set {pb i : Nat} {u : Value} {w w' : World} (h : Kq pb w w') : Kq pb w (w'.setCell ⟨pb, i, none⟩ u) :=
  ⟨h.os, h.tape, h.output, by simpa using h.size, fun k hk hp hn => (Below.heap_setCell _ _ _ _ hp).trans (h.block k hk hp hn)⟩
section
variable {w : World} {m most size : Nat} {ps : List ByteArray}
set_option maxRecDepth 100000 in
set_option maxHeartbeats 2000000 in
theorem isAhead_none (fr k : ByteArray) : Calls Tryz.prog 59 #[.agg #[.string fr, .string ⟨#[]⟩], .string k] w fun e w' => e = .returned (.bool false) ∧ Below w.heap.size w w' := by
  go_enter Tryz.func59, Tryz.ntmps59
  go_wp2_with fail
  go_ret
  exact ⟨rfl, (Below.refl _ w).alloc (Nat.le_refl _) _⟩
set_option maxRecDepth 100000 in
set_option maxHeartbeats 2000000 in
theorem has_all (k : ByteArray) : Calls Tryz.prog 60 #[.agg #[.string ⟨#[]⟩, .string ⟨#[]⟩], .string k] w fun e w' => e = .returned (.bool true) ∧ Below w.heap.size w w' := by
  have hB : Below w.heap.size w (w.alloc (.cells #[.string ⟨#[]⟩, .string ⟨#[]⟩] 88)) := (Below.refl _ w).alloc (Nat.le_refl _) _
  have ha := isAhead_none (w := w.alloc (.cells #[.string ⟨#[]⟩, .string ⟨#[]⟩] 88)) ⟨#[]⟩ k
  have hbl : Op.bytesLess k.toList [] = false := by cases k.toList <;> rfl
  go_enter Tryz.func60, Tryz.ntmps60
  go_wp2_with (first | (go_at_call 59; refine ha.mono ?_; rintro e w2 ⟨rfl, hb2⟩))
  go_ret
  exact ⟨rfl, hB.trans (hb2.mono hB.size)⟩
theorem cells1 {b : Nat} {a0 : Value} {t : TypeId} (h : w.heap[b]? = some (.cells #[a0] t (0, 0))) : w.cell? ⟨b, 0, none⟩ = some a0 := by simp [World.cell?, h]
/-- append(s, p), p a pair in a new block of its own. -/
theorem appP {ops : Array Oper} {rest : List Oper} {o : Oper} {a : Act} {Q : Exit → Act → World → Prop} (hgd : o.guard = none) (s x : Operand)
    (ho : o.op = .call { callee := .builtin .append, args := #[s, x], argTypes := #[32, 32] })
    (base : Nat) (v : Value) (l : List (ByteArray × ByteArray)) (c : ByteArray × ByteArray) (g : Nat) (hs : a.eval s = v) (hx : a.eval x = .slice (some ⟨g, 0, none⟩) 1 1)
    (hown : Prs w base v l) (hg : w.heap[g]? = some (.cells #[.string c.1, .string c.2] 66 (0, 0))) (hbase : base ≤ w.heap.size) (hlen : l.length ≤ 1000000000)
    (h : ∀ v' w', Prs w' base v' (l ++ [c]) → w.grownBy w' v.ownBlock → wpList Tryz.prog ops Q rest (a.put o.dst v') w') :
    wpList Tryz.prog ops Q (o :: rest) a w := by
  obtain ⟨i0, hi, hz0, hz1, hz2⟩ := info_parts info66
  refine wpList_append_own _ hgd s x 32 ho base 66 i0 (.agg #[.string ⟨#[]⟩, .string ⟨#[]⟩]) 2 32 Tryz.underlying32 hi hz0 hz1 hz2 rfl (by decide) v l.length (flatP l) hs hown ⟨g, 0, none⟩ 1 1 [.string c.1, .string c.2] hx rfl ?_ ?_ (by unfold maxLen; omega) (by omega) hbase ?_
  · intro j u hu
    rw [add_at]
    simp only [World.cell?, Nat.zero_add, hg]
    rw [← Array.getElem?_toList]
    exact hu
  · intro u hu
    simp at hu
    rcases hu with rfl | rfl <;> rfl
  · intro v' w' h1 h2 h3
    refine h v' w' ?_ h2
    unfold Prs
    rw [flatP_app, List.length_append]
    exact h1
theorem prs_ne {base pb : Nat} {v : Value} {l : List (ByteArray × ByteArray)} {c : Array Value} {fr : Nat × Nat} (h : Prs w base v l) (hp : w.heap[pb]? = some (.cells c 32 fr)) : v.ownBlock ≠ some pb := by
  rcases h.2 with ⟨rfl, _⟩ | ⟨g, cap, cur, rfl, _, hg, _⟩
  · simp [Value.ownBlock]
  · intro e
    simp [Value.ownBlock] at e
    rw [e, hp] at hg
    cases hg
theorem Prs.shape {base : Nat} {v : Value} {l : List (ByteArray × ByteArray)} (h : Prs w base v l) : ∃ a n c, v = .slice a n c := by
  rcases h.2 with ⟨rfl, h0⟩ | ⟨g, cap, cur, rfl, _⟩
  · exact ⟨none, 0, 0, rfl⟩
  · exact ⟨_, _, _, rfl⟩
theorem kq_grown {W : World} {base pb : Nat} {v : Value} {l : List (ByteArray × ByteArray)} (h : Prs w base v l) (hg : w.grownBy W v.ownBlock) : Kq pb w W :=
  ⟨hg.os, hg.tape, hg.output, hg.size, fun k hk _ hn => hg.block k hk (fun e => by
    rcases h.2 with ⟨rfl, _⟩ | ⟨g, cap, cur, rfl, _, hgg, _⟩
    · simp [Value.ownBlock] at e
    · simp [Value.ownBlock] at e
      rw [e] at hn
      exact hn _ _ hgg)⟩
set_option maxRecDepth 100000 in
set_option maxHeartbeats 2000000 in
theorem visit_ok {wb pb p base : Nat} {vP : Value} {l : List (ByteArray × ByteArray)} (c : Cl) (hc : c.page = 0) (hwb : w.heap[wb]? = some (.cells #[.pointer (some ⟨p, 0, none⟩)] 76 (0, 0))) (hpb : w.heap[pb]? = some (.cells #[vP] 32 (0, 0))) (ho : Prs w base vP l) (hlen : l.length ≤ 100000000) (hb : base ≤ pb) :
    Calls Tryz.prog 36 #[.agg #[.string c.key, .string c.val, .int .i64 c.page, .int .i64 c.count], .pointer (some ⟨wb, 0, none⟩), .pointer (some ⟨pb, 0, none⟩)] w fun e w' => ∃ vP', e = .returned (.int .i64 0) ∧ w'.heap[pb]? = some (.cells #[vP'] 32 (0, 0)) ∧ Prs w' base vP' (l ++ [(c.key, c.val)]) ∧ Kq pb w w' ∧ Below base w w' := by
  have hB : Below w.heap.size w (w.alloc (.cells #[.string c.key, .string c.val, .int .i64 c.page, .int .i64 c.count] 90)) := (Below.refl _ w).alloc (Nat.le_refl _) _
  have hva := value_short (w := w.alloc (.cells #[.string c.key, .string c.val, .int .i64 c.page, .int .i64 c.count] 90)) p c hc
  have w0 := cells1 ((hB.block _ (lt_of_block hwb)).trans hwb)
  have hcb := heap_alloc_new w (.cells #[.string c.key, .string c.val, .int .i64 c.page, .int .i64 c.count] 90)
  clear hc
  go_enter Tryz.func36, Tryz.ntmps36
  go_wp2_with (first
    | (go_at_call 37; refine hva.mono ?_; rintro e w2 ⟨rfl, hb2⟩; have hB2 := hB.trans (hb2.mono hB.size); have hp2 := (hB2.block _ (lt_of_block hpb)).trans hpb; have p0 := cells1 hp2; have pf := frz hp2 0; have c0 : w2.cell? ⟨w.heap.size, 0, none⟩ = some (.string c.key) := (by simp [World.cell?, (hb2.block _ (lt_of_block hcb)).trans hcb]); have hA2 := (Below.refl w2.heap.size w2).alloc (Nat.le_refl _) (.cells #[.string c.key, .string c.val] 66); have hB3 := hB2.trans (hA2.mono hB2.size); have hpb3 := (hB3.block _ (lt_of_block hpb)).trans hpb; have ho3 : Prs (w2.alloc (.cells #[.string c.key, .string c.val] 66)) base vP l := World.ownsRow.kept (row := none) ho ⟨hB3.os, hB3.tape, hB3.output, hB3.size, fun k hk _ => hB3.block k hk⟩ (by cases vP.ownBlock <;> simp))
    | (at_builtin; refine appP rfl (.tmp 13) (.tmp 18) rfl base vP l (c.key, c.val) w2.heap.size rfl rfl ho3 (heap_alloc_new w2 _) (Nat.le_trans (Nat.le_trans hb (Nat.le_of_lt (lt_of_block hpb))) hB3.size) (by omega) ?_; intro v4 w4 ho4 hg4; obtain ⟨a4, n4, c4, rfl⟩ := ho4.shape; have hne : vP.ownBlock ≠ some pb := prs_ne ho3 hpb3; have hp4 := (hg4.block _ (lt_of_block hpb3) (fun e => hne e.symm)).trans hpb3; have p4 := cells1 hp4; have pf4 := frz hp4 0))
  go_ret
  have hb4 : Below base (w2.alloc (.cells #[.string c.key, .string c.val] 66)) w4 := (Below.refl base _).grown hg4 (Nat.le_trans (Nat.le_trans hb (Nat.le_of_lt (lt_of_block hpb))) hB3.size) (fun k hk => (World.ownsRow.lt ho3 k hk).1)
  have hbw : base ≤ w.heap.size := Nat.le_trans hb (Nat.le_of_lt (lt_of_block hpb))
  have hbb : Below base w w4 := (hB3.mono hbw).trans hb4
  have hkq : Kq pb w w4 := (Kq.of_below hB3).trans (kq_grown ho3 hg4)
  refine ⟨.slice a4 n4 c4, rfl, block_setCell (i := 0) (u := .slice a4 n4 c4) hp4, ?_, hkq.set, hbb.setCell (p := ⟨pb, 0, none⟩) hb _⟩
  exact World.ownsRow.kept ho4 (grownBy_set (Below.refl _ w4) pb 0 _) (.inr (fun e => prs_ne ho4 hp4 e))
end
end Go.Proofs.YtdobleekjiehdaaGreat
