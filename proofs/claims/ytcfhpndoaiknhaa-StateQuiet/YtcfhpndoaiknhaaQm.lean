/- The greatest of four. -/
import Derived.Test.YtcfhpndoaiknhaaRows
import Derived.WalkKit
namespace Go.Proofs.Ytcfhpndoaiknhaa
set_option linter.unusedVariables false
def max4 (a b c d : Int) : Int := max (max (max a b) c) d
theorem run_max4 (a b c d : Int) (w : World) : (Builtin.max_ #[2, 2, 2, 2] 2 #[.int .i64 a, .int .i64 b, .int .i64 c, .int .i64 d]).run Try.prog w = .ok (.int .i64 (max4 a b c d)) w := by
  have e : max4 a b c d = if d > (if c > (if b > a then b else a) then c else if b > a then b else a) then d else if c > (if b > a then b else a) then c else if b > a then b else a := by
    unfold max4
    by_cases h1 : b > a
    · simp only [if_pos h1]
      by_cases h2 : c > b
      · simp only [if_pos h2]; split <;> omega
      · simp only [if_neg h2]; split <;> omega
    · simp only [if_neg h1]
      by_cases h2 : c > a
      · simp only [if_pos h2]; split <;> omega
      · simp only [if_neg h2]; split <;> omega
  rw [e]
  simp [Builtin.max_, Builtin.max2]
theorem max4_le (a b c d n : Int) : ¬ n < max4 a b c d ↔ a ≤ n ∧ b ≤ n ∧ c ≤ n ∧ d ≤ n := by
  unfold max4; omega
end Go.Proofs.Ytcfhpndoaiknhaa
