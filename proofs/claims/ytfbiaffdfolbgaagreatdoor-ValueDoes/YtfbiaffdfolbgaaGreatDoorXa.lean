/- append([]api.Value{}, l...). -/
import Derived.Test.YtfbiaffdfolbgaaGreatDoorWq
import Derived.Laws.AppendOwn
import Derived.Laws.AppendOwnNone
namespace Go.Proofs.YtfbiaffdfolbgaaGreatDoor
set_option linter.unusedVariables false
open Go.RowKit
/-- The cells of a row of values. -/
def flatV : List Vl → List Value
  | [] => []
  | v :: r => .int .i64 v.kind :: .int .i64 v.n :: flatV r
theorem flatV_len (l : List Vl) : (flatV l).length = l.length * 2 := by
  induction l with
  | nil => rfl
  | cons v r ih => simp only [flatV, List.length_cons, ih]; omega
theorem flatV_one (l : List Vl) : ∀ u ∈ flatV l, u.oneCell' = true := by
  induction l with
  | nil => intro u hu; cases hu
  | cons v r ih =>
    intro u hu
    simp only [flatV, List.mem_cons] at hu
    rcases hu with rfl | rfl | hu
    · rfl
    · rfl
    · exact ih u hu
theorem flatV_get (l : List Vl) (t : Nat) (h : t < l.length) : (flatV l)[t * 2]? = some (.int .i64 (l.getD t zer).kind) ∧ (flatV l)[t * 2 + 1]? = some (.int .i64 (l.getD t zer).n) := by
  induction l generalizing t with
  | nil => simp at h
  | cons v r ih =>
    cases t with
    | zero => exact ⟨rfl, rfl⟩
    | succ t =>
      have := ih t (by simpa using h)
      rw [show (t + 1) * 2 = t * 2 + 1 + 1 by omega]
      exact this
theorem infoV : (Tryz.prog.info? 25).map (fun i => (i.zero, i.size, i.bytes)) = some (some (.agg #[.int .i64 0, .int .i64 0]), 2, 16) := by kernel_rfl
theorem copyV {w : World} {ops : Array Oper} {rest : List Oper} {o : Oper} {a : Act} {Q : Exit → Act → World → Prop} (hw : Region.wanted o (yielded ops a.tmps) = true) (s x : Operand)
    (ho : o.op = .call { callee := .builtin .append, args := #[s, x], argTypes := #[22, 22] }) (g base : Nat) (hb : base ≤ g) (hs : a.eval s = .slice (some ⟨g, 0, none⟩) 0 0) (hg : w.heap[g]? = some (.cells #[] 25 (0, 0)))
    (u : Value) (l : List Vl) (hx : a.eval x = u) (hu : Vls w u l) (hlen : l.length ≤ 1000)
    (h : ∀ v' w', Vls w' v' l → Below base w w' → wpList Tryz.prog ops Q rest (a.put o.dst v') w') : wpList Tryz.prog ops Q (o :: rest) a w := by
  have hgl : g < w.heap.size := (Array.getElem?_eq_some_iff.1 hg).1
  have hown : w.ownsRow base 25 2 (.slice (some ⟨g, 0, none⟩) 0 0) 0 [] := ⟨rfl, .inr ⟨g, 0, #[], rfl, hb, hg, Nat.le_refl _, by unfold maxLen; omega, rfl, rfl⟩⟩
  obtain ⟨i, hi, hz⟩ : ∃ i, Tryz.prog.info? 25 = some i ∧ (i.zero, i.size, i.bytes) = (some (.agg #[.int .i64 0, .int .i64 0]), 2, 16) := by
    have := infoV
    cases hh : Tryz.prog.info? 25 with
    | none => rw [hh] at this; cases this
    | some i => rw [hh] at this; exact ⟨i, rfl, Option.some.inj this⟩
  injection hz with hz0 hz1
  injection hz1 with hz1 hz2
  obtain ⟨ad, c, rfl, hcell⟩ := hu
  refine wpList_step fun K hK => ?_
  rw [if_pos hw]
  cases ad with
  | none =>
    have hl0 : l = [] := by
      rcases hcell with h0 | ⟨b, o', e, _⟩
      · exact h0
      · cases e
    subst hl0
    have hrun : (Builtin.append_ #[22, 22] o.type #[.slice (some ⟨g, 0, none⟩) 0 0, .slice none 0 c]).run Tryz.prog w = .ok (.slice (some ⟨g, 0, none⟩) 0 0) w := by
      simp [Builtin.append_, run_underlying Tryz.underlying22, sizeOf, typeInfo, hi, Builtin.lenOf, Builtin.firstCells, storeCells]
    have hx' : a.eval x = .slice none 0 c := hx
    unfold Oper.wp
    simp [execOp, ho, resolve, invoke, builtin, hs, hx', hrun, Result.andThen]
    exact hK _ _ (h _ w ⟨some ⟨g, 0, none⟩, 0, rfl, .inl rfl⟩ (Below.refl _ _))
  | some ad =>
    refine wp_append_own w s x 22 ho base 25 i _ 2 16 Tryz.underlying22 hi hz0 hz1 hz2 rfl (by decide) _ 0 [] hs hown ad l.length c (flatV l) hx (flatV_len l) ?_ (flatV_one l) (by unfold maxLen; omega) (by omega) (by omega) ?_
    · intro j y hj
      rcases hcell with rfl | ⟨b, o', e, hcs⟩
      · cases hj
      · cases e
        have hjl : j < l.length * 2 := by
          rw [← flatV_len]
          rcases Nat.lt_or_ge j (flatV l).length with h | h
          · exact h
          · rw [List.getElem?_eq_none h] at hj; cases hj
        have hd : j / 2 < l.length := by omega
        obtain ⟨f0, f1⟩ := flatV_get l (j / 2) hd
        obtain ⟨c0, c1⟩ := hcs (j / 2) hd
        rw [add_at]
        rcases Nat.mod_two_eq_zero_or_one j with h2 | h2
        · rw [show j / 2 * 2 = j by omega] at f0 c0
          rw [hj] at f0
          rw [c0, ← f0]
        · rw [show j / 2 * 2 + 1 = j by omega] at f1
          rw [hj] at f1
          rw [show o' + j / 2 * 2 + 1 = o' + j by omega] at c1
          rw [c1, ← f1]
    · intro v' w' h1 h2 _
      refine hK _ _ (h v' w' ?_ ?_)
      · rw [Nat.zero_add, List.nil_append] at h1
        rcases h1.2 with ⟨rfl, h0⟩ | ⟨g', cap, cur, rfl, _⟩
        · exact ⟨none, 0, by rw [h0], .inl (List.length_eq_zero_iff.1 h0)⟩
        · refine ⟨_, cap, rfl, .inr ⟨g', 0, rfl, fun t ht => ?_⟩⟩
          obtain ⟨f0, f1⟩ := flatV_get l t ht
          have e0 := World.ownsRow.cells h1 (g := g') rfl _ _ f0
          have e1 := World.ownsRow.cells h1 (g := g') rfl _ _ f1
          rw [add_at] at e0 e1
          exact ⟨by simpa using e0, by simpa [Nat.add_assoc] using e1⟩
      · exact (Below.refl base w).grown h2 (by omega) (fun k hk => by cases hk; exact hb)
end Go.Proofs.YtfbiaffdfolbgaaGreatDoor
