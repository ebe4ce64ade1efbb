/- A long row that is put behind one of our own. -/
import Derived.Test.YtejdmielhaldaaaGreatTaTd
namespace Go.Proofs.YtejdmielhaldaaaGreat
set_option linter.unusedVariables false
open Go.RowKit
theorem appRc {α : Type} {E : Enc α} (T : RowTy E) {w : World} {ops : Array Oper} {rest : List Oper} {o : Oper} {a : Act} {Q : Exit → Act → World → Prop} (hgd : o.guard = none) (s x : Operand)
    (ho : o.op = .call { callee := .builtin .append, args := #[s, x], argTypes := #[T.st, T.st] })
    (base : Nat) (v u : Value) (l m : List α) (hs : a.eval s = v) (hx : a.eval x = u)
    (hown : OwnS T w base v l) (hm : Sls E w u m) (hbase : base ≤ w.heap.size) (hlen : l.length + m.length ≤ 5864062014634) (hbb : (l.length + m.length) * T.bytes ≤ 140737488355328)
    (h : ∀ v' w', OwnS T w' base v' (l ++ m) → w.grownBy w' v.ownBlock → wpList Tryz.prog ops Q rest (a.put o.dst v') w') :
    wpList Tryz.prog ops Q (o :: rest) a w := by
  obtain ⟨i0, hi, hz0, hz1, hz2⟩ := info_parts T.hi
  obtain ⟨ad, c, rfl, hnil, hcell⟩ := hm
  cases ad with
  | none =>
    have hms : m = [] := by
      rcases hcell with hcell | ⟨_, _, e, _⟩
      · exact hcell
      · cases e
    subst hms
    obtain rfl := hnil.1 rfl
    refine wpList_append_own_none hgd s x T.st ho base T.et i0 E.k T.hu hi v l.length (flat E l) hs hown hx ?_
    exact h v w (by simpa using hown) (grown_refl _ _)
  | some ad =>
    refine wpList_append_own _ hgd s x T.st ho base T.et i0 T.z E.k T.bytes T.hu hi hz0 hz1 hz2 T.hz E.pos v l.length (flat E l) hs hown ad m.length c (flat E m) hx (flat_len m) ?_ (flat_one m) (by unfold maxLen; omega) hbb hbase ?_
    · intro j y hj
      rcases hcell with rfl | ⟨b, o, e, hr⟩
      · simp [flat] at hj
      · cases e
        have hjl : j < m.length * E.k := by
          rw [← flat_len (E := E)]
          rcases Nat.lt_or_ge j (flat E m).length with h | h
          · exact h
          · rw [List.getElem?_eq_none h] at hj; cases hj
        have hd : j / E.k < m.length := (Nat.div_lt_iff_lt_mul E.pos).2 hjl
        have hmd : j % E.k < E.k := Nat.mod_lt _ E.pos
        have hjj : j / E.k * E.k + j % E.k = j := Nat.div_add_mod' j E.k
        have hg := flat_get (E := E) m (j / E.k) (j % E.k) hd hmd
        rw [hjj, hj] at hg
        have := hr (j / E.k) hd (j % E.k) y hg.symm
        rw [ladd_at]
        rw [Nat.add_assoc, hjj] at this
        exact this
    · intro v' w' h1 h2 _
      refine h v' w' ?_ h2
      unfold OwnS
      rw [flat_app]
      simpa using h1
end Go.Proofs.YtejdmielhaldaaaGreat
