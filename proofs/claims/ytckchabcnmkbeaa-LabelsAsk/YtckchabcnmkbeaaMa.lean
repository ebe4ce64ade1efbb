/- Get, isOp, HasPrefix, holds, Match, Check. -/
import Derived.Test.YtckchabcnmkbeaaKy
namespace Go.Proofs.Ytckchabcnmkbeaa
set_option linter.unusedVariables false
open Go.RowKit
theorem getL_cons (a : Lb) (l : List Lb) (n : ByteArray) : getL (a :: l) n = if a.name = n then a.value else getL l n := by
  unfold getL
  by_cases h : a.name = n
  · simp [h]
  · simp [h]
/-- None of the first k labels has the name. -/
def noTo (l : List Lb) (n : ByteArray) (k : Nat) : Prop := ∀ j, j < k → (l.getD j lb0).name ≠ n
theorem getL_at {l : List Lb} {n : ByteArray} : ∀ {k : Nat}, k < l.length → noTo l n k → (l.getD k lb0).name = n → getL l n = (l.getD k lb0).value := by
  induction l with
  | nil => intro k hk; simp at hk
  | cons a l ih =>
    intro k hk hno e
    rw [getL_cons]
    cases k with
    | zero => rw [if_pos (by simpa using e)]; rfl
    | succ k =>
      rw [if_neg (by have := hno 0 (by omega); simpa using this)]
      exact ih (by simpa using hk) (fun j hj => by have := hno (j + 1) (by omega); simpa using this) (by simpa using e)
theorem getL_no {l : List Lb} {n : ByteArray} (h : noTo l n l.length) : getL l n = ⟨#[]⟩ := by
  refine getL_none fun a ha => ?_
  obtain ⟨k, hk, rfl⟩ := List.mem_iff_getElem.1 ha
  have := h k hk
  rw [List.getD_eq_getElem?_getD, List.getElem?_eq_getElem hk] at this
  exact this
theorem noTo_succ {l : List Lb} {n : ByteArray} {k : Nat} (h : noTo l n k) (e : (l.getD k lb0).name ≠ n) : noTo l n (k + 1) := by
  intro j hj
  by_cases h2 : j = k
  · subst h2; exact e
  · exact h j (by omega)
set_option maxRecDepth 100000 in
set_option maxHeartbeats 2000000 in
/-- labels.Get. -/
theorem get_any (v : Value) (l : List Lb) (n : ByteArray) (w : World) (hv : Lbs w v l) (hl : l.length ≤ 1000000) : Calls Try.prog 21 #[v, .string n] w fun e w' => e = .returned (.string (getL l n)) ∧ Below w.heap.size w w' := by
  obtain ⟨a, c, rfl⟩ := hv.shape
  replace hv : Hid (Lbs w (.slice a l.length c) l) := hv
  go_enter Try.func21, Try.ntmps21
  go_wp2
  go_loopw [9] (fun i wr => ∃ k : Nat, k ≤ l.length ∧ i = .int .i64 k ∧ noTo l n k ∧ Below w.heap.size w wr) (fun i _ => l.length - (intOf i).toNat)
  case atStart => exact ⟨0, Nat.zero_le _, rfl, fun j hj => absurd hj (Nat.not_lt_zero _), Below.refl _ _⟩
  case round =>
    obtain ⟨k, hk, rfl, hno, hB⟩ := hrel
    have hbz := hB.size
    by_cases hlt : k < l.length
    · have hki : (k : Int) < (l.length : Int) := by omega
      obtain ⟨b, o, rfl, x0, x1⟩ := lb_at (Sls.grow hv.out hB) k hlt
      by_cases he : (l.getD k lb0).name = n
      · have hg : Hid (getL l n = (l.getD k lb0).value) := getL_at hlt hno he
        rw [he] at x0
        clear he
        generalize (l.getD k lb0).value = u at *
        go_wp2
        go_ret
        exact ⟨by rw [hg.out]; rfl, hB.alloc hbz _⟩
      · have hst := noTo_succ hno he
        have hne := toList_ne he
        clear he
        generalize (l.getD k lb0).value = u at *
        generalize (l.getD k lb0).name = m at *
        go_wp2
        refine ⟨⟨k + 1, by omega, by go_num, hst, hB.alloc hbz _⟩, ?_⟩
        simp [intOf]; omega
    · obtain rfl : k = l.length := by omega
      have hki : ¬ (l.length : Int) < (l.length : Int) := by omega
      have hg : Hid (getL l n = ⟨#[]⟩) := getL_no hno
      go_wp2
      go_ret
      exact ⟨by rw [hg.out]; rfl, hB⟩
/-! ### Matchers -/
def opB (o : ByteArray) : Bool := o.toList == [61] || (o.toList == [33, 61] || (o.toList == [94, 61] || o.toList == [33, 94]))
theorem opCase (o : ByteArray) : ((o.toList == [61]) = true) ∨ ((o.toList == [61]) = false ∧ (o.toList == [33, 61]) = true) ∨ ((o.toList == [61]) = false ∧ (o.toList == [33, 61]) = false ∧ (o.toList == [94, 61]) = true) ∨
    ((o.toList == [61]) = false ∧ (o.toList == [33, 61]) = false ∧ (o.toList == [94, 61]) = false ∧ (o.toList == [33, 94]) = true) ∨ ((o.toList == [61]) = false ∧ (o.toList == [33, 61]) = false ∧ (o.toList == [94, 61]) = false ∧ (o.toList == [33, 94]) = false) := by
  cases (o.toList == [61]) <;> cases (o.toList == [33, 61]) <;> cases (o.toList == [94, 61]) <;> cases (o.toList == [33, 94]) <;> simp
/-- One text begins with another. -/
def preB (v s : ByteArray) : Bool := decide (s.size ≤ v.size) && ((v.extract 0 s.size).toList == s.toList)
set_option maxRecDepth 100000 in
set_option maxHeartbeats 1000000 in
theorem isOp_any (o : ByteArray) (w : World) : Calls Try.prog 47 #[.string o] w fun e w' => e = .returned (.bool (opB o)) ∧ w' = w := by
  rcases opCase o with a | ⟨a, b⟩ | ⟨a, b, c⟩ | ⟨a, b, c, d⟩ | ⟨a, b, c, d⟩
  all_goals
    first
      | (have hR : Hid (opB o = true) := by (show _ = _; unfold opB; simp only [a, Bool.true_or]))
      | (have hR : Hid (opB o = true) := by (show _ = _; unfold opB; simp only [a, b, Bool.true_or, Bool.or_true]))
      | (have hR : Hid (opB o = true) := by (show _ = _; unfold opB; simp only [a, b, c, Bool.true_or, Bool.or_true]))
      | (have hR : Hid (opB o = true) := by (show _ = _; unfold opB; simp only [a, b, c, d, Bool.or_true]))
      | (have hR : Hid (opB o = false) := by (show _ = _; unfold opB; simp only [a, b, c, d, Bool.or_self]))
    go_enter Try.func47, Try.ntmps47
    go_wp2
    go_ret
    exact ⟨by rw [hR.out]; rfl, rfl⟩
set_option maxRecDepth 100000 in
set_option maxHeartbeats 1000000 in
theorem pre0_any (v s : ByteArray) (w : World) (h1 : v.size ≤ 140737488351232) (h2 : s.size ≤ 140737488351232) : Calls Try.prog 64 #[.string v, .string s] w fun e w' => e = .returned (.bool (preB v s)) ∧ w' = w := by
  by_cases h : (s.size : Int) ≤ (v.size : Int)
  · have hd : decide ((v.size : Int) ≥ (s.size : Int)) = true := by simpa using h
    have hR : Hid (preB v s = ((v.extract 0 s.size).toList == s.toList)) := by
      show _ = _
      unfold preB
      rw [decide_eq_true (by omega), Bool.true_and]
    go_enter Try.func64, Try.ntmps64
    go_wp2
    go_ret
    exact ⟨by rw [hR.out]; rfl, rfl⟩
  · have hd : decide ((v.size : Int) ≥ (s.size : Int)) = false := by simp; omega
    have hR : Hid (preB v s = false) := by
      show _ = _
      unfold preB
      rw [decide_eq_false (by omega), Bool.false_and]
    go_enter Try.func64, Try.ntmps64
    go_wp2
    go_ret
    exact ⟨by rw [hR.out]; rfl, rfl⟩
set_option maxRecDepth 100000 in
set_option maxHeartbeats 1000000 in
theorem pre_any (v s : ByteArray) (w : World) (h1 : v.size ≤ 140737488351232) (h2 : s.size ≤ 140737488351232) : Calls Try.prog 58 #[.string v, .string s] w fun e w' => e = .returned (.bool (preB v s)) ∧ w' = w := by
  have h := fun W => pre0_any v s W h1 h2
  generalize preB v s = B at *
  go_enter Try.func58, Try.ntmps58
  go_wp2_with (first | (go_at_call 64; refine (h _).mono ?_; rintro e wx ⟨rfl, hwx⟩; subst wx))
  go_ret
  exact ⟨rfl, rfl⟩
/-- A matcher as a value. -/
def mtV (m : Mt) : Value := .agg #[.string m.name, .string m.op, .string m.value]
def mtO (m : Mt) : Obj := .cells #[.string m.name, .string m.op, .string m.value] 46
/-- holds. -/
def holdsB (op val v : ByteArray) : Bool := if op.toList == [61] then v.toList == val.toList else if op.toList == [33, 61] then !(v.toList == val.toList) else if op.toList == [94, 61] then preB v val else if op.toList == [33, 94] then !preB v val else false
def MtR (m : Mt) : Prop := m.name.size ≤ reachBytes ∧ m.op.size ≤ reachBytes ∧ m.value.size ≤ reachBytes
def MtsR (l : List Mt) : Prop := ∀ m ∈ l, MtR m
set_option maxRecDepth 100000 in
set_option maxHeartbeats 1000000 in
theorem holds_any (m : Mt) (v : ByteArray) (w : World) (hm : MtR m) (hv : v.size ≤ reachBytes) : Calls Try.prog 49 #[mtV m, .string v] w fun e w' => e = .returned (.bool (holdsB m.op m.value v)) ∧ w' = w.alloc (mtO m) := by
  obtain ⟨n, o, u⟩ := m
  obtain ⟨h1, h2, h3⟩ := hm
  unfold reachBytes at *
  simp only at h1 h2 h3
  have hp := fun W => pre_any v u W hv h3
  unfold mtV mtO
  simp only
  have hR : Hid (holdsB o u v = if o.toList == [61] then v.toList == u.toList else if o.toList == [33, 61] then !(v.toList == u.toList) else if o.toList == [94, 61] then preB v u else if o.toList == [33, 94] then !preB v u else false) := rfl
  generalize preB v u = P at *
  have hE : (v.toList == u.toList) = true ∨ (v.toList == u.toList) = false := by cases (v.toList == u.toList) <;> simp
  rcases opCase o with a | ⟨a, b⟩ | ⟨a, b, c⟩ | ⟨a, b, c, d⟩ | ⟨a, b, c, d⟩
  · rw [a] at hR
    rcases hE with hE | hE <;> rw [hE] at hR
    all_goals
      go_enter Try.func49, Try.ntmps49
      go_wp2_with (first | (go_at_call 58; refine (hp _).mono ?_; rintro e wx ⟨rfl, hwx⟩; subst wx))
      go_ret
      exact ⟨by rw [hR.out]; rfl, rfl⟩
  · rw [a, b] at hR
    rcases hE with hE | hE <;> rw [hE] at hR
    all_goals
      go_enter Try.func49, Try.ntmps49
      go_wp2_with (first | (go_at_call 58; refine (hp _).mono ?_; rintro e wx ⟨rfl, hwx⟩; subst wx))
      go_ret
      exact ⟨by rw [hR.out]; rfl, rfl⟩
  · rw [a, b, c] at hR
    go_enter Try.func49, Try.ntmps49
    go_wp2_with (first | (go_at_call 58; refine (hp _).mono ?_; rintro e wx ⟨rfl, hwx⟩; subst wx))
    go_ret
    exact ⟨by rw [hR.out]; rfl, rfl⟩
  · rw [a, b, c, d] at hR
    go_enter Try.func49, Try.ntmps49
    go_wp2_with (first | (go_at_call 58; refine (hp _).mono ?_; rintro e wx ⟨rfl, hwx⟩; subst wx))
    go_ret
    exact ⟨by rw [hR.out]; cases P <;> rfl, rfl⟩
  · rw [a, b, c, d] at hR
    go_enter Try.func49, Try.ntmps49
    go_wp2_with (first | (go_at_call 58; refine (hp _).mono ?_; rintro e wx ⟨rfl, hwx⟩; subst wx))
    go_ret
    exact ⟨by rw [hR.out]; rfl, rfl⟩
end Go.Proofs.Ytckchabcnmkbeaa
