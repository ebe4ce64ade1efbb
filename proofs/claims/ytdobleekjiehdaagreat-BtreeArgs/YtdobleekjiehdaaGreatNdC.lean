/- Rows of cells of the call's own; the contract of nodeCells. -/
import Derived.Test.YtdobleekjiehdaaGreatRdC
import Derived.Laws.AppendOwn
namespace Go.Proofs.YtdobleekjiehdaaGreat
set_option linter.unusedVariables false
open Go.RowKit
theorem info90 : (Tryz.prog.info? 90).map (fun i => (i.zero, i.size, i.bytes)) = some (some (.agg #[.string ⟨#[]⟩, .string ⟨#[]⟩, .int .i64 0, .int .i64 0]), 4, 48) := by kernel_rfl
def flat (l : List Cl) : List Value := (l.map fun c => c.arr.toList).flatten
theorem flat_len (l : List Cl) : (flat l).length = l.length * 4 := by
  unfold flat
  induction l with
  | nil => rfl
  | cons c r ih => simp only [List.map_cons, List.flatten_cons, List.length_append, ih, List.length_cons]; simp [Cl.arr]; omega
theorem flat_app (l m : List Cl) : flat (l ++ m) = flat l ++ flat m := by simp [flat]
/-- A slice of cells of the call's own (blocks from base on), or nil. -/
def OwnC (w : World) (base : Nat) (v : Value) (l : List Cl) : Prop := w.ownsRow base 90 4 v l.length (flat l)
theorem OwnC.cast {w : World} {base : Nat} {v : Value} {l m : List Cl} (h : OwnC w base v l) (e : l = m) : OwnC w base v m := e ▸ h
theorem OwnC.alloc {w : World} {base : Nat} {v : Value} {l : List Cl} (h : OwnC w base v l) (o : Obj) : OwnC (w.alloc o) base v l := World.ownsRow.alloc h o
theorem OwnC.lt {w : World} {base : Nat} {v : Value} {l : List Cl} (h : OwnC w base v l) : ∀ k, v.ownBlock = some k → base ≤ k ∧ k < w.heap.size := World.ownsRow.lt h
theorem OwnC.wide {w : World} {b0 b1 : Nat} {v : Value} {l : List Cl} (h : OwnC w b1 v l) (hb : b0 ≤ b1) : OwnC w b0 v l :=
  ⟨h.1, h.2.imp id (fun ⟨g, cap, cur, e, hg, rest⟩ => ⟨g, cap, cur, e, Nat.le_trans hb hg, rest⟩)⟩
theorem OwnC.shape {w : World} {base : Nat} {v : Value} {l : List Cl} (h : OwnC w base v l) : ∃ a c, v = .slice a l.length c := by
  rcases h.2 with ⟨rfl, h0⟩ | ⟨g, cap, cur, rfl, _⟩
  · rw [h0]; exact ⟨none, 0, rfl⟩
  · exact ⟨_, _, rfl⟩
theorem flat_get (l : List Cl) (t i : Nat) (ht : t < l.length) (hi : i < 4) : (flat l)[t * 4 + i]? = (l.getD t cl0).arr[i]? := by
  induction l generalizing t with
  | nil => simp at ht
  | cons c r ih =>
    have e : flat (c :: r) = c.arr.toList ++ flat r := rfl
    have hc : c.arr.toList.length = 4 := rfl
    rw [e]
    cases t with
    | zero =>
      rw [List.getElem?_append_left (by rw [hc]; omega)]
      simp
    | succ t =>
      rw [List.getElem?_append_right (by rw [hc]; omega), hc, show (t + 1) * 4 + i - 4 = t * 4 + i by omega, ih t (by simpa using ht)]
      simp
/-- .. is read as such. -/
theorem OwnC.cells {w : World} {base : Nat} {v : Value} {l : List Cl} (h : OwnC w base v l) : Cells w v l := by
  have h2 := h
  rcases h.2 with ⟨rfl, h0⟩ | ⟨g, cap, cur, rfl, hb, hg, hnc, hcm, hcs, htake⟩
  · have : l = [] := List.length_eq_zero_iff.1 h0
    subst this
    exact ⟨none, 0, rfl, ⟨fun _ => rfl, Nat.le_refl _⟩, .inl rfl⟩
  · refine ⟨_, cap, rfl, ⟨(fun e => by cases e), hnc⟩, ?_⟩
    by_cases hl : l = []
    · exact .inl hl
    · refine .inr ⟨g, 0, rfl, fun t ht => ?_⟩
      have key : ∀ i u, i < 4 → (l.getD t cl0).arr[i]? = some u → w.cell? ⟨g, 0 + t * 4 + i, none⟩ = some u := fun i u hi hu => by
        have := World.ownsRow.cells h2 (g := g) rfl (t * 4 + i) u (by rw [flat_get l t i ht hi]; exact hu)
        rw [add_at] at this
        rw [← this]
        congr 2
        omega
      exact ⟨key 0 _ (by omega) rfl, key 1 _ (by omega) rfl, key 2 _ (by omega) rfl, key 3 _ (by omega) rfl⟩
/-- append(s, c), c a cell in a new block of its own. -/
theorem appC {w : World} {ops : Array Oper} {rest : List Oper} {o : Oper} {a : Act} {Q : Exit → Act → World → Prop} (hgd : o.guard = none) (s x : Operand)
    (ho : o.op = .call { callee := .builtin .append, args := #[s, x], argTypes := #[100, 100] })
    (base : Nat) (v : Value) (l : List Cl) (c : Cl) (n : Nat) (hn : w.heap.size = n) (hs : a.eval s = v) (hx : a.eval x = .slice (some ⟨n, 0, none⟩) 1 1)
    (hown : OwnC w base v l) (hbase : base ≤ w.heap.size) (hlen : l.length ≤ 1000000000)
    (h : ∀ v' w', OwnC w' base v' (l ++ [c]) → Below base w w' → wpList Tryz.prog ops Q rest (a.put o.dst v') w') :
    wpList Tryz.prog ops Q (o :: rest) a (w.alloc (.cells #[.string c.key, .string c.val, .int .i64 c.page, .int .i64 c.count] 90)) := by
  subst hn
  obtain ⟨i0, hi, hz0, hz1, hz2⟩ := info_parts info90
  refine wpList_append_own _ hgd s x 100 ho base 90 i0 (.agg #[.string ⟨#[]⟩, .string ⟨#[]⟩, .int .i64 0, .int .i64 0]) 4 48 Tryz.underlying100 hi hz0 hz1 hz2 rfl (by decide) v l.length (flat l) hs (hown.alloc _) ⟨w.heap.size, 0, none⟩ 1 1 c.arr.toList hx rfl ?_ ?_ ?_ ?_ ?_ ?_
  · intro j u hu
    rw [add_at]
    have hb := heap_alloc_new w (.cells #[.string c.key, .string c.val, .int .i64 c.page, .int .i64 c.count] 90)
    simp only [World.cell?, Nat.zero_add, hb]
    rw [← Array.getElem?_toList]
    exact hu
  · intro u hu
    simp [Cl.arr] at hu
    rcases hu with rfl | rfl | rfl | rfl <;> rfl
  · unfold maxLen; omega
  · omega
  · simp; omega
  · intro v' w' h1 h2 _
    refine h v' w' ?_ ?_
    · unfold OwnC
      rw [flat_app]
      simpa [flat] using h1
    · refine ((Below.refl base w).alloc hbase _).grown h2 (by simp; omega) (fun k hk => ?_)
      exact (hown.lt k hk).1
end Go.Proofs.YtdobleekjiehdaaGreat
