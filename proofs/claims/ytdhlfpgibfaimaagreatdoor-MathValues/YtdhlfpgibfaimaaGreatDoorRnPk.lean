/- Rn; Rk; Pk. -/
import Derived.Test.YtdhlfpgibfaimaaGreatDoorRm
/- The document's Make: the walk. -/
namespace Go.Proofs.YtdhlfpgibfaimaaGreatDoor
set_option linter.unusedVariables false
open Go.RowKit
end Go.Proofs.YtdhlfpgibfaimaaGreatDoor
/- The document's Get, Check, Match; append in an operation that is guarded. -/
namespace Go.Proofs.YtdhlfpgibfaimaaGreatDoor
set_option linter.unusedVariables false
open Go.RowKit
end Go.Proofs.YtdhlfpgibfaimaaGreatDoor
/- slices.Contains at texts, pick, Without, Only; cmp.Compare, Compare. -/
namespace Go.Proofs.YtdhlfpgibfaimaaGreatDoor
set_option linter.unusedVariables false
open Go.RowKit
/-- The labels whose names are among names, or are not. -/
def pickL (l : List Lb) (ns : List ByteArray) (b : Bool) : List Lb := l.filter fun a => inB ns a.name == b
/-! ### Compare -/
def cmpN (a b : Int) : Int := if a < b then -1 else if b < a then 1 else 0
set_option maxRecDepth 100000 in
set_option maxHeartbeats 1000000 in
theorem isNaN_any (x : Int) (w : World) : Calls Tryz.prog 229 #[.int .i64 x] w fun e w' => e = .returned (.bool false) ∧ w' = w := by
  have h : (x != x) = false := by simp
  go_enter Tryz.func229, Tryz.ntmps229
  go_wp2
  go_ret
  exact ⟨rfl, rfl⟩
set_option maxRecDepth 100000 in
set_option maxHeartbeats 1000000 in
theorem icmp_any (x y : Int) (w : World) : Calls Tryz.prog 180 #[.int .i64 x, .int .i64 y] w fun e w' => e = .returned (.int .i64 (cmpN x y)) ∧ w' = w := by
  have h := fun z W => isNaN_any z W
  by_cases h1 : x < y
  · have hR : Hid (cmpN x y = -1) := by show _ = _; unfold cmpN; rw [if_pos h1]
    go_enter Tryz.func180, Tryz.ntmps180
    go_wp2_with (first | (go_at_call 229; refine (h _ _).mono ?_; rintro e wx ⟨rfl, hwx⟩; subst wx))
    go_ret
    exact ⟨by rw [hR.out]; rfl, rfl⟩
  · by_cases h2 : y < x
    · have hR : Hid (cmpN x y = 1) := by show _ = _; unfold cmpN; rw [if_neg h1, if_pos h2]
      go_enter Tryz.func180, Tryz.ntmps180
      go_wp2_with (first | (go_at_call 229; refine (h _ _).mono ?_; rintro e wx ⟨rfl, hwx⟩; subst wx))
      go_ret
      exact ⟨by rw [hR.out]; rfl, rfl⟩
    · have hR : Hid (cmpN x y = 0) := by show _ = _; unfold cmpN; rw [if_neg h1, if_neg h2]
      go_enter Tryz.func180, Tryz.ntmps180
      go_wp2_with (first | (go_at_call 229; refine (h _ _).mono ?_; rintro e wx ⟨rfl, hwx⟩; subst wx))
      go_ret
      exact ⟨by rw [hR.out]; rfl, rfl⟩
theorem cmpS_app (p x y : List Lb) : cmpS (p ++ x) (p ++ y) = cmpS x y := by
  induction p with
  | nil => rfl
  | cons a p ih =>
    rw [List.cons_append, List.cons_append, cmpS, if_pos (cmpB_eq.2 rfl), ih]
theorem cmpS_drop {a b : List Lb} {k : Nat} (h : a.take k = b.take k) : cmpS a b = cmpS (a.drop k) (b.drop k) := by
  have e1 : a = a.take k ++ a.drop k := (List.take_append_drop k a).symm
  have e2 : b = a.take k ++ b.drop k := by rw [h]; exact (List.take_append_drop k b).symm
  calc cmpS a b = cmpS (a.take k ++ a.drop k) (a.take k ++ b.drop k) := by rw [← e1, ← e2]
    _ = _ := cmpS_app _ _ _
theorem drop_getD (l : List Lb) (k : Nat) (h : k < l.length) : l.drop k = l.getD k lb0 :: l.drop (k + 1) := by
  rw [List.drop_eq_getElem_cons h]; simp [h]
theorem cmpS_at {a b : List Lb} {k : Nat} (h : a.take k = b.take k) (ha : k < a.length) (hb : k < b.length) (hne : a.getD k lb0 ≠ b.getD k lb0) : cmpS a b = cmpB (a.getD k lb0) (b.getD k lb0) := by
  rw [cmpS_drop h, drop_getD a k ha, drop_getD b k hb, cmpS, if_neg (fun e => hne (cmpB_eq.1 e))]
theorem cmpS_end {a b : List Lb} {k : Nat} (h : a.take k = b.take k) (hk : k = min a.length b.length) : cmpS a b = cmpN a.length b.length := by
  rw [cmpS_drop h]
  unfold cmpN
  by_cases h1 : a.length < b.length
  · have ha : a.drop k = [] := List.drop_eq_nil_iff.2 (by omega)
    rw [ha, drop_getD b k (by omega), cmpS, if_pos (by omega)]
  · rw [if_neg (by omega)]
    have hb : b.drop k = [] := List.drop_eq_nil_iff.2 (by omega)
    by_cases h2 : b.length < a.length
    · rw [hb, drop_getD a k (by omega), cmpS, if_pos (by omega)]
    · have ha : a.drop k = [] := List.drop_eq_nil_iff.2 (by omega)
      rw [ha, hb, cmpS, if_neg (by omega)]
end Go.Proofs.YtdhlfpgibfaimaaGreatDoor

