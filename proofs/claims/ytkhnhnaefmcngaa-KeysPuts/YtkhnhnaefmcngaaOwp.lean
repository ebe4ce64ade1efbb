/- Rows of parts of the call's own; append of parts. -/
import Derived.Test.YtkhnhnaefmcngaaRdt
import Derived.Laws.AppendOwn
namespace Go.Proofs.Ytkhnhnaefmcngaa
set_option linter.unusedVariables false
open Go.RowKit
theorem info39 : (Try.prog.info? 39).map (fun i => (i.zero, i.size, i.bytes)) = some (some (.agg #[.int .i64 0, .int .i64 0, .string ⟨#[]⟩]), 3, 32) := by kernel_rfl
/-- A part's cells. -/
def Pt.arr (p : Pt) : List Value := [.int .i64 p.kind, .int .i64 p.num, .string p.text]
def flat (l : List Pt) : List Value := (l.map Pt.arr).flatten
theorem flat_len (l : List Pt) : (flat l).length = l.length * 3 := by
  unfold flat
  induction l with
  | nil => rfl
  | cons c r ih => simp only [List.map_cons, List.flatten_cons, List.length_append, ih, List.length_cons]; simp [Pt.arr]; omega
theorem flat_app (l m : List Pt) : flat (l ++ m) = flat l ++ flat m := by simp [flat]
/-- A slice of parts of the call's own (blocks from base on), or nil. -/
def OwnP (w : World) (base : Nat) (v : Value) (l : List Pt) : Prop := w.ownsRow base 39 3 v l.length (flat l)
theorem OwnP.cast {w : World} {base : Nat} {v : Value} {l m : List Pt} (h : OwnP w base v l) (e : l = m) : OwnP w base v m := e ▸ h
theorem OwnP.alloc {w : World} {base : Nat} {v : Value} {l : List Pt} (h : OwnP w base v l) (o : Obj) : OwnP (w.alloc o) base v l := World.ownsRow.alloc h o
theorem OwnP.lt {w : World} {base : Nat} {v : Value} {l : List Pt} (h : OwnP w base v l) : ∀ k, v.ownBlock = some k → base ≤ k ∧ k < w.heap.size := World.ownsRow.lt h
theorem OwnP.stay {w w' : World} {base : Nat} {v : Value} {l : List Pt} (h : OwnP w base v l) (hb : Below w.heap.size w w') : OwnP w' base v l := by
  refine World.ownsRow.kept (row := none) h ⟨hb.os, hb.tape, hb.output, hb.size, fun k hk _ => hb.block k hk⟩ ?_
  by_cases e : v.ownBlock = none
  · exact .inl e
  · exact .inr e
theorem OwnP.shape {w : World} {base : Nat} {v : Value} {l : List Pt} (h : OwnP w base v l) : ∃ a c, v = .slice a l.length c := by
  rcases h.2 with ⟨rfl, h0⟩ | ⟨g, cap, cur, rfl, _⟩
  · rw [h0]; exact ⟨none, 0, rfl⟩
  · exact ⟨_, _, rfl⟩
theorem flat_get (l : List Pt) (t i : Nat) (ht : t < l.length) (hi : i < 3) : (flat l)[t * 3 + i]? = (l.getD t pt0).arr[i]? := by
  induction l generalizing t with
  | nil => simp at ht
  | cons c r ih =>
    have e : flat (c :: r) = c.arr ++ flat r := rfl
    have hc : c.arr.length = 3 := rfl
    rw [e]
    cases t with
    | zero =>
      rw [List.getElem?_append_left (by rw [hc]; omega)]
      simp
    | succ t =>
      rw [List.getElem?_append_right (by rw [hc]; omega), hc, show (t + 1) * 3 + i - 3 = t * 3 + i by omega, ih t (by simpa using ht)]
      simp
/-- .. is read as such. -/
theorem OwnP.pts {w : World} {base : Nat} {v : Value} {l : List Pt} (h : OwnP w base v l) : Pts w v l := by
  have h2 := h
  rcases h.2 with ⟨rfl, h0⟩ | ⟨g, cap, cur, rfl, hb, hg, hnc, hcm, hcs, htake⟩
  · have : l = [] := List.length_eq_zero_iff.1 h0
    subst this
    exact ⟨none, 0, rfl, ⟨fun _ => rfl, Nat.le_refl _⟩, .inl rfl⟩
  · refine ⟨_, cap, rfl, ⟨(fun e => by cases e), hnc⟩, ?_⟩
    by_cases hl : l = []
    · exact .inl hl
    · refine .inr ⟨g, 0, rfl, fun t ht => ?_⟩
      have key : ∀ i u, i < 3 → (l.getD t pt0).arr[i]? = some u → w.cell? ⟨g, 0 + t * 3 + i, none⟩ = some u := fun i u hi hu => by
        have := World.ownsRow.cells h2 (g := g) rfl (t * 3 + i) u (by rw [flat_get l t i ht hi]; exact hu)
        rw [add_at] at this
        rw [← this]
        congr 2
        omega
      exact ⟨key 0 _ (by omega) rfl, key 1 _ (by omega) rfl, key 2 _ (by omega) rfl⟩
/-- append(s, x...), x a slice of parts that is not nil. -/
theorem appPs {w : World} {ops : Array Oper} {rest : List Oper} {o : Oper} {a : Act} {Q : Exit → Act → World → Prop} (hgd : o.guard = none) (s x : Operand)
    (ho : o.op = .call { callee := .builtin .append, args := #[s, x], argTypes := #[22, 22] })
    (base : Nat) (v u : Value) (l m : List Pt) (hs : a.eval s = v) (hx : a.eval x = u)
    (hown : OwnP w base v l) (hm : Pts w u m) (hbase : base ≤ w.heap.size) (hlen : l.length + m.length ≤ 1000000000)
    (h : ∀ v' w', OwnP w' base v' (l ++ m) → w.grownBy w' v.ownBlock → wpList Try.prog ops Q rest (a.put o.dst v') w') :
    wpList Try.prog ops Q (o :: rest) a w := by
  obtain ⟨i0, hi, hz0, hz1, hz2⟩ := info_parts info39
  obtain ⟨ad, c, rfl, hnil, hcell⟩ := hm
  cases ad with
  | none =>
    have hms : m = [] := by
      rcases hcell with hcell | ⟨_, _, e, _⟩
      · exact hcell
      · cases e
    subst hms
    obtain rfl := hnil.1 rfl
    refine wpList_append_own_none hgd s x 22 ho base 39 i0 3 Try.underlying22 hi v l.length (flat l) hs hown hx ?_
    exact h v w (by simpa using hown) (grown_refl _ _)
  | some ad =>
    refine wpList_append_own _ hgd s x 22 ho base 39 i0 (.agg #[.int .i64 0, .int .i64 0, .string ⟨#[]⟩]) 3 32 Try.underlying22 hi hz0 hz1 hz2 rfl (by decide) v l.length (flat l) hs hown ad m.length c (flat m) hx (flat_len m) ?_ ?_ (by unfold maxLen; omega) (by omega) hbase ?_
    · intro j y hj
      rcases hcell with rfl | ⟨b, o, e, hr⟩
      · simp [flat] at hj
      · cases e
        have hjl : j < m.length * 3 := by
          rw [← flat_len]
          rcases Nat.lt_or_ge j (flat m).length with h | h
          · exact h
          · rw [List.getElem?_eq_none h] at hj; cases hj
        obtain ⟨c0, c1, c2⟩ := hr (j / 3) (by omega)
        have hg := flat_get m (j / 3) (j % 3) (by omega) (by omega)
        rw [show j / 3 * 3 + j % 3 = j by omega, hj] at hg
        rw [add_at]
        have h3 : j % 3 = 0 ∨ j % 3 = 1 ∨ j % 3 = 2 := by omega
        rcases h3 with h3 | h3 | h3
        · rw [h3] at hg
          rw [show o + j = o + j / 3 * 3 by omega, c0]; exact hg.symm
        · rw [h3] at hg
          rw [show o + j = o + j / 3 * 3 + 1 by omega, c1]; exact hg.symm
        · rw [h3] at hg
          rw [show o + j = o + j / 3 * 3 + 2 by omega, c2]; exact hg.symm
    · intro y hy
      simp only [flat, List.mem_flatten, List.mem_map] at hy
      obtain ⟨_, ⟨p, _, rfl⟩, hy⟩ := hy
      simp [Pt.arr] at hy
      rcases hy with rfl | rfl | rfl <;> rfl
    · intro v' w' h1 h2 _
      refine h v' w' ?_ h2
      unfold OwnP
      rw [flat_app]
      simpa using h1
/-- One part in a new block of its own. -/
theorem pts_one (w : World) (p : Pt) : Pts (w.alloc (.cells #[.int .i64 p.kind, .int .i64 p.num, .string p.text] 39)) (.slice (some ⟨w.heap.size, 0, none⟩) 1 1) [p] := by
  refine ⟨_, 1, rfl, ⟨(fun e => by cases e), Nat.le_refl _⟩, .inr ⟨w.heap.size, 0, rfl, fun t ht => ?_⟩⟩
  have : t = 0 := by simpa using ht
  subst this
  refine ⟨?_, ?_, ?_⟩ <;> simp
theorem OwnP.grows {w w' : World} {base : Nat} {v : Value} {l : List Pt} (h : OwnP w base v l) (hb : base ≤ w.heap.size) (hg : w.grownBy w' v.ownBlock) : Below base w w' := (Below.refl base w).grown hg hb (fun k hk => (h.lt k hk).1)
theorem Pts.shape {w : World} {v : Value} {l : List Pt} (h : Pts w v l) : ∃ a c, v = .slice a l.length c := by
  obtain ⟨a, c, h, _⟩ := h
  exact ⟨a, c, h⟩
/-! ### readPart, readParts -/
set_option maxRecDepth 100000 in
set_option maxHeartbeats 1000000 in
theorem readPart_any (s : ByteArray) (w : World) (hs : s.size ≤ 1000000) (h0 : 0 < s.size) : Calls Try.prog 33 #[.string s] w fun e w' => ∃ p n, e = .returned (.tuple #[ptV p, .int .i64 (n : Nat)]) ∧ RdP (numsS s) p n ∧ Below w.heap.size w w' := by
  have hhd := head_of s h0
  obtain ⟨H, hH⟩ : ∃ H : Nat, s[0].toNat = H := ⟨_, rfl⟩
  by_cases h160 : H = 160
  · subst h160
    rw [hH] at hhd
    have hc := fun W => readText_any s W hs h0 hhd
    clear hhd
    go_enter Try.func33, Try.ntmps33
    go_wp2_with (go_at_call 41; refine (hc _).mono ?_; rintro e w2 ⟨p, n, rfl, hrd, hb2⟩; have hbk := (hb2.block w.heap.size (by simp)).trans (heap_new w _); obtain ⟨y0, y1, y2⟩ := cells3 hbk; have yf := fun q => frozen_of hbk q; obtain ⟨kd, z, t⟩ := p; unfold ptV)
    refine bodyPost_ret (v := .tuple #[ptV ⟨kd, z, t⟩, .int .i64 (n : Int)]) ?_ rfl ⟨_, n, rfl, hrd, (((((Below.refl _ w).alloc (Nat.le_refl _) _).trans (hb2.mono (by simp))).setCell (Nat.le_refl _) _).setCell (Nat.le_refl _) _).setCell (Nat.le_refl _) _⟩
    simp [results, Try.results33, asAddr, Result.andThen, go_sem, ptV, y0, y1, y2]
  · have hc := fun W => readInt_any s W hs h0 (by rw [hH]; exact h160)
    have hne : ((H : Int) == 160) = false := by simp; omega
    clear hhd
    go_enter Try.func33, Try.ntmps33
    go_wp2_with (go_at_call 42; refine (hc _).mono ?_; rintro e w2 ⟨p, n, rfl, hrd, hb2⟩; have hbk := (hb2.block w.heap.size (by simp)).trans (heap_new w _); obtain ⟨y0, y1, y2⟩ := cells3 hbk; have yf := fun q => frozen_of hbk q; obtain ⟨kd, z, t⟩ := p; unfold ptV)
    refine bodyPost_ret (v := .tuple #[ptV ⟨kd, z, t⟩, .int .i64 (n : Int)]) ?_ rfl ⟨_, n, rfl, hrd, (((((Below.refl _ w).alloc (Nat.le_refl _) _).trans (hb2.mono (by simp))).setCell (Nat.le_refl _) _).setCell (Nat.le_refl _) _).setCell (Nat.le_refl _) _⟩
    simp [results, Try.results33, asAddr, Result.andThen, go_sem, ptV, y0, y1, y2]
end Go.Proofs.Ytkhnhnaefmcngaa
