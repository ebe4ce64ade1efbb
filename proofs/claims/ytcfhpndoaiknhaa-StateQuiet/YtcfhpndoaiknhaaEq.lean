/- Instances, values are compared; the blocks of a loop. -/
import Derived.Test.YtcfhpndoaiknhaaAr
import Derived.Laws.StructEq
namespace Go.Proofs.Ytcfhpndoaiknhaa
set_option linter.unusedVariables false
open Go.RowKit
theorem eqF_step {d : Nat} {xs ys : Array Value} {f : Field} {fs : List Field} {w : World} {a b : Value} {r : Bool} {s : Bool} (hn : f.name ≠ "_") (ha : (part f.type xs f.offset).run Try.prog w = .ok a w) (hb : (part f.type ys f.offset).run Try.prog w = .ok b w) (hr : (Op.equalIn d f.type a b).run Try.prog w = .ok r w) (hs : (Op.eqFields d xs ys fs).run Try.prog w = .ok s w) : (Op.eqFields d xs ys (f :: fs)).run Try.prog w = .ok (r && s) w := by
  rw [Op.eqFields, if_pos hn]
  simp only [Sem.run_bind, ha, hb, hr, Result.andThen_ok]
  cases r
  · simp
  · simp [hs]
theorem eqF_nil {d : Nat} {xs ys : Array Value} {w : World} : (Op.eqFields d xs ys []).run Try.prog w = .ok true w := by simp [Op.eqFields]
theorem eqV23 (a b c d : Int) (n : Nat) (w : World) : (Op.equalIn (n + 1 + 1) 23 (.agg #[.int .i64 a, .int .i64 b]) (.agg #[.int .i64 c, .int .i64 d])).run Try.prog w = .ok ((a == c) && ((b == d) && true)) w := by
  rw [run_equalIn_agg w (n + 1) 23 _ _ (by kernel_rfl) (by kernel_rfl)]
  have hf : (Try.prog.fieldsOf 23).toList = [⟨"Kind", 3, 0, false, "", "", 0⟩, ⟨"N", 2, 1, false, "", "", 8⟩] := by kernel_rfl
  rw [hf]
  exact eqF_step (by decide) (by kernel_rfl) (by kernel_rfl) (run_equalIn_int w n 3 .i64 .i64 a c Try.underlying3) (eqF_step (by decide) (by kernel_rfl) (by kernel_rfl) (run_equalIn_int w n 2 .i64 .i64 b d Try.underlying2) eqF_nil)
theorem neqV (a b : Int) (w : World) : (binOp .neq 23 (.agg #[.int .i64 a, .int .i64 b]) (.agg #[.int .i64 a, .int .i64 b])).run Try.prog w = .ok (.bool false) w := by
  rw [run_neq_struct, eqV23 a b a b 9998 w]
  simp
theorem eqI25 (x y : Inst) (w : World) : (Op.equalIn 10000 25 (encI x) (encI y)).run Try.prog w = .ok ((x.st == y.st) && ((x.since == y.since) && ((x.fr == y.fr) && ((x.quiet == y.quiet) && ((x.seen == y.seen) && (((x.vk == y.vk) && ((x.vn == y.vn) && true)) && true)))))) w := by
  unfold encI
  rw [run_equalIn_agg w 9999 25 _ _ (by kernel_rfl) (by kernel_rfl)]
  have hf : (Try.prog.fieldsOf 25).toList = [⟨"State", 3, 0, false, "", "", 0⟩, ⟨"Since", 2, 1, false, "", "", 8⟩, ⟨"From", 2, 2, false, "", "", 16⟩, ⟨"Quiet", 2, 3, false, "", "", 24⟩, ⟨"Seen", 2, 4, false, "", "", 32⟩, ⟨"Value", 23, 5, false, "", "", 40⟩] := by kernel_rfl
  rw [hf]
  exact eqF_step (by decide) (by kernel_rfl) (by kernel_rfl) (run_equalIn_int w 9998 3 .i64 .i64 x.st y.st Try.underlying3) <|
    eqF_step (by decide) (by kernel_rfl) (by kernel_rfl) (run_equalIn_int w 9998 2 .i64 .i64 x.since y.since Try.underlying2) <|
    eqF_step (by decide) (by kernel_rfl) (by kernel_rfl) (run_equalIn_int w 9998 2 .i64 .i64 x.fr y.fr Try.underlying2) <|
    eqF_step (by decide) (by kernel_rfl) (by kernel_rfl) (run_equalIn_int w 9998 2 .i64 .i64 x.quiet y.quiet Try.underlying2) <|
    eqF_step (by decide) (by kernel_rfl) (by kernel_rfl) (run_equalIn_int w 9998 2 .i64 .i64 x.seen y.seen Try.underlying2) <|
    eqF_step (by decide) (by kernel_rfl) (by kernel_rfl) (eqV23 x.vk x.vn y.vk y.vn 9997 w) eqF_nil
theorem neqI (x : Inst) (w : World) : (binOp .neq 25 (encI x) (encI x)).run Try.prog w = .ok (.bool false) w := by
  have h := eqI25 x x w
  unfold encI at h ⊢
  rw [run_neq_struct, h]
  simp
/-- The cells of a hold's block. -/
theorem hd_cell {w : World} {g : Nat} {fo keep nd oe : Int} (h : Blk w g (.cells #[.int .i64 fo, .int .i64 keep, .int .i64 nd, .int .i64 oe] 27)) : w.cell? ⟨g, 0, none⟩ = some (.int .i64 fo) ∧ w.cell? ⟨g, 1, none⟩ = some (.int .i64 keep) ∧ w.cell? ⟨g, 2, none⟩ = some (.int .i64 nd) ∧ w.cell? ⟨g, 3, none⟩ = some (.int .i64 oe) := by
  unfold Blk at h
  simp [World.cell?, h]
/-- What stands between two rounds: block g holds the instance, block g0 the hold; of w nothing has turned. -/
def LpJ (w wr : World) (g0 g : Nat) (fo keep nd oe : Int) (X : Inst) : Prop := IAt wr g X ∧ Blk wr g0 (.cells #[.int .i64 fo, .int .i64 keep, .int .i64 nd, .int .i64 oe] 27) ∧ Below w.heap.size w wr ∧ w.heap.size ≤ g0 ∧ g0 ≠ g ∧ w.heap.size ≤ g
theorem LpJ.grow {w wr W : World} {g0 g : Nat} {fo keep nd oe : Int} {X : Inst} (h : LpJ w wr g0 g fo keep nd oe X) (hb : Below wr.heap.size wr W) : LpJ w W g0 g fo keep nd oe X :=
  ⟨h.1.grow hb, h.2.1.grow hb, h.2.2.1.trans (hb.mono h.2.2.1.size), h.2.2.2⟩
theorem LpJ.set {w W : World} {g0 g : Nat} {fo keep nd oe : Int} {X Y : Inst} (h : LpJ w W g0 g fo keep nd oe X) : LpJ w (set7 W g Y) g0 g fo keep nd oe Y :=
  ⟨iSet h.1, Blk.set7 h.2.1 (Ne.symm h.2.2.2.2.1), belSet7 h.2.2.1 h.2.2.2.2.2, h.2.2.2⟩
end Go.Proofs.Ytcfhpndoaiknhaa
