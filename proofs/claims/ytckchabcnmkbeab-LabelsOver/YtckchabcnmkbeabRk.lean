/- The document's Get, Check, Match; append in an operation that is guarded. -/
import Derived.Test.YtckchabcnmkbeabRn
namespace Go.Proofs.Ytckchabcnmkbeab
set_option linter.unusedVariables false
open Go.RowKit
/-- append(s, x...), x nil or not, the operation's guard true. -/
theorem appW {α : Type} {E : Enc α} (T : RowTy E) {w : World} {ops : Array Oper} {rest : List Oper} {o : Oper} {a : Act} {Q : Exit → Act → World → Prop} (hw : Region.wanted o (yielded ops a.tmps) = true) (s x : Operand)
    (hop : o.op = Op.call { callee := Callee.builtin Builtin.append, args := #[s, x], argTypes := #[T.st, T.st] }) (base : Nat) (v u : Value) (l m : List α) (hs : a.eval s = v) (hx : a.eval x = u)
    (hown : OwnS T w base v l) (hm : Sls E w u m) (hbase : base ≤ w.heap.size) (hlen : l.length + m.length ≤ 1000000000)
    (h : ∀ v' w', OwnS T w' base v' (l ++ m) → w.grownBy w' v.ownBlock → wpList Try.prog ops Q rest (a.put o.dst v') w') : wpList Try.prog ops Q (o :: rest) a w := by
  refine BigFrame.wpList_want hw fun K hK => ?_
  have hP : ∀ (o2 : Oper), o2.op = o.op → o2.dst = o.dst → o2.type = o.type → o2.guard = none → (if Region.wanted o2 (yielded ops a.tmps) = true then Oper.wp Try.prog o2 a w K Q else True) := fun o2 h1 h2 _ h4 =>
    stepN T h4 s x (h1.trans hop) base v u l m hs hx hown hm hbase hlen (fun v' w' a1 a2 => by rw [h2]; exact hK _ _ (h v' w' a1 a2))
  have := hP { o with guard := none } rfl rfl rfl rfl
  rw [if_pos (by simp [Region.wanted])] at this
  exact this
end Go.Proofs.Ytckchabcnmkbeab
