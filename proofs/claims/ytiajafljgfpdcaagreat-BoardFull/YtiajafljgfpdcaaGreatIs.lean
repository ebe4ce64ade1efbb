/- Labels that may be (mayBe, Is); num, own, small, Same. -/
import Derived.Test.YtiajafljgfpdcaaGreatNm
import Derived.SizedLaws
import Derived.Laws.StructEq
import Derived.WalkSmall
namespace Go.Proofs.YtiajafljgfpdcaaGreat
set_option linter.unusedVariables false
open Go.RowKit
/-- A label as a value. -/
def lbV (a : Lb) : Value := .agg #[.string a.name, .string a.value]
/-- Its box. -/
def lbO (a : Lb) : Obj := .cells #[.string a.name, .string a.value] 70
open Classical in
noncomputable def lbB (a : Lb) : Bool := decide (IsLb a)
theorem lbB_iff {a : Lb} : lbB a = true ↔ IsLb a := by simp [lbB]
theorem lbB_eq (a : Lb) : lbB a = (nameB a.name && (decide ((1 : Int) ≤ (a.value.size : Int)) && decide ((a.value.size : Int) ≤ 128))) := by
  rw [Bool.eq_iff_iff, lbB_iff]
  simp only [Bool.and_eq_true, nameB_iff, decide_eq_true_eq, IsLb]
  constructor
  · rintro ⟨h1, h2, h3⟩; exact ⟨h1, by omega, by omega⟩
  · rintro ⟨h1, h2, h3⟩; exact ⟨h1, by omega, by omega⟩
/-- No text of a label is longer than what may come in. -/
def LbR (a : Lb) : Prop := a.name.size ≤ reachBytes ∧ a.value.size ≤ reachBytes
def LbsR (l : List Lb) : Prop := ∀ a ∈ l, LbR a
theorem ret_bool {a b : Bool} (h : a = b) : Ending.returned (.bool a) = .returned (.bool b) := by rw [h]
set_option maxRecDepth 100000 in
set_option maxHeartbeats 1000000 in
theorem mayBe_any (a : Lb) (w : World) (h : LbR a) : Calls Tryz.prog 122 #[lbV a] w fun e w' => e = .returned (.bool (lbB a)) ∧ w' = w.alloc (lbO a) := by
  obtain ⟨n, v⟩ := a
  obtain ⟨h1, h2⟩ := h
  unfold reachBytes at h1 h2
  simp only at h1 h2
  have hN := fun W => isName_any n W (by omega)
  have hR : Hid (lbB ⟨n, v⟩ = (nameB n && (decide ((1 : Int) ≤ (v.size : Int)) && decide ((v.size : Int) ≤ 128)))) := lbB_eq _
  unfold lbV lbO
  simp only
  generalize nameB n = B at *
  cases B
  · go_enter Tryz.func122, Tryz.ntmps122
    go_wp2_with (first | (go_at_call 142; refine (hN _).mono ?_; rintro e wx ⟨rfl, hwx⟩; subst wx))
    go_ret
    exact ⟨by rw [hR.out]; rfl, rfl⟩
  · by_cases hd1 : (1 : Int) ≤ (v.size : Int)
    · go_enter Tryz.func122, Tryz.ntmps122
      go_wp2_with (first | (go_at_call 142; refine (hN _).mono ?_; rintro e wx ⟨rfl, hwx⟩; subst wx))
      go_ret
      exact ⟨by rw [hR.out]; simp [hd1], rfl⟩
    · have hd2 : decide ((1 : Int) ≤ (v.size : Int)) = false := by simp; omega
      go_enter Tryz.func122, Tryz.ntmps122
      go_wp2_with (first | (go_at_call 142; refine (hN _).mono ?_; rintro e wx ⟨rfl, hwx⟩; subst wx))
      go_ret
      exact ⟨by rw [hR.out, hd2]; simp, rfl⟩
set_option maxRecDepth 100000 in
set_option maxHeartbeats 1000000 in
theorem is_any (a : Lb) (w : World) (h : LbR a) : Calls Tryz.prog 66 #[lbV a] w fun e w' => e = .returned (.bool (lbB a)) ∧ w' = w.alloc (lbO a) := by
  obtain ⟨n, v⟩ := a
  obtain ⟨h1, h2⟩ := h
  unfold reachBytes at h1 h2
  simp only at h1 h2
  have hN := fun W => rname_any n W (by omega)
  have hR : Hid (lbB ⟨n, v⟩ = (nameB n && (decide ((1 : Int) ≤ (v.size : Int)) && decide ((v.size : Int) ≤ 128)))) := lbB_eq _
  unfold lbV lbO
  simp only
  generalize nameB n = B at *
  cases B
  · go_enter Tryz.func66, Tryz.ntmps66
    go_wp2_with (first | (go_at_call 96; refine (hN _).mono ?_; rintro e wx ⟨rfl, hwx⟩; subst wx))
    go_ret
    exact ⟨by rw [hR.out]; rfl, rfl⟩
  · by_cases hd1 : (1 : Int) ≤ (v.size : Int)
    · go_enter Tryz.func66, Tryz.ntmps66
      go_wp2_with (first | (go_at_call 96; refine (hN _).mono ?_; rintro e wx ⟨rfl, hwx⟩; subst wx))
      go_ret
      exact ⟨by rw [hR.out]; simp [hd1], rfl⟩
    · have hd2 : decide ((1 : Int) ≤ (v.size : Int)) = false := by simp; omega
      go_enter Tryz.func66, Tryz.ntmps66
      go_wp2_with (first | (go_at_call 96; refine (hN _).mono ?_; rintro e wx ⟨rfl, hwx⟩; subst wx))
      go_ret
      exact ⟨by rw [hR.out, hd2]; simp, rfl⟩
set_option maxRecDepth 100000 in
set_option maxHeartbeats 1000000 in
theorem num_any (x : Int) (w : World) (h0 : -1000 ≤ x) (h1 : x ≤ 1000) : Calls Tryz.prog 16 #[.int .i64 x] w fun e w' => e = .returned (.int .i64 x) ∧ w' = w := by
  go_enter Tryz.func16, Tryz.ntmps16
  go_wp2
  go_ret
  exact ⟨rfl, rfl⟩
/-! ### small -/
/-- The bytes of all texts. -/
def total (l : List Lb) : Nat := (l.map fun p => p.name.size + p.value.size).sum
theorem total_take_succ (l : List Lb) (k : Nat) (h : k < l.length) : total (l.take (k + 1)) = total (l.take k) + (l.getD k lb0).name.size + (l.getD k lb0).value.size := by
  unfold total
  rw [List.take_succ_eq_append_getElem h, List.map_append, List.sum_append, List.getD_eq_getElem?_getD, List.getElem?_eq_getElem h]
  simp only [List.map_cons, List.map_nil, List.sum_cons, List.sum_nil, Option.getD_some, Nat.add_zero]
  omega
theorem total_bound (l : List Lb) (h : LbsR l) (k : Nat) : total (l.take k) ≤ k * (2 * reachBytes) := by
  induction k with
  | zero => simp [total]
  | succ k ih =>
    by_cases hk : k < l.length
    · rw [total_take_succ l k hk, Nat.add_mul]
      have := h _ (getD_mem l lb0 k hk)
      have h1 := this.1
      have h2 := this.2
      omega
    · rw [List.take_of_length_le (by omega)]
      rw [List.take_of_length_le (by omega)] at ih
      rw [Nat.add_mul]; omega
/-- Is a list small? -/
def smallB (l : List Lb) : Bool := decide (l.length ≤ 60 ∧ total l ≤ 20000)
/-! ### Same -/
/-- What Same tells. -/
def SameQ (l m : List Lb) (w : World) (e : Ending) (w' : World) : Prop := ∃ B, e = .returned (.bool B) ∧ (B = true ↔ l = m) ∧ Below w.heap.size w w'
theorem take_getD {α : Type} (l : List α) (d : α) (k : Nat) (h : k < l.length) : l.take (k + 1) = l.take k ++ [l.getD k d] := by
  rw [List.take_succ_eq_append_getElem h]; simp [h]
theorem toList_eq {s t : ByteArray} (h : (s.toList == t.toList) = true) : s = t := by
  have h := eq_of_beq h
  rw [Lib.toList_data, Lib.toList_data] at h
  exact ByteArray.ext (Array.toList_inj.1 h)
theorem toList_ne {s t : ByteArray} (h : s ≠ t) : (s.toList == t.toList) = false := by
  cases e : (s.toList == t.toList) with
  | false => rfl
  | true => exact absurd (toList_eq e) h
theorem lb_ext {a b : Lb} (h1 : a.name = b.name) (h2 : a.value = b.value) : a = b := by cases a; cases b; simp at h1 h2; simp [h1, h2]
set_option maxRecDepth 100000 in
set_option maxHeartbeats 2000000 in
theorem same_some (l m : List Lb) (b o b2 o2 c c2 : Nat) (w : World) (hl : l.length ≤ 1000000000) (hlm : l.length = m.length)
    (h1 : ∀ t, t < l.length → At encL w b (o + t * 2) (l.getD t lb0)) (h2 : ∀ t, t < m.length → At encL w b2 (o2 + t * 2) (m.getD t lb0)) :
    Calls Tryz.prog 45 #[.slice (some ⟨b, o, none⟩) l.length c, .slice (some ⟨b2, o2, none⟩) l.length c2] w fun e w' => SameQ l m w e w' := by
  obtain ⟨n, hn⟩ : ∃ n, Hid (n = l.length) := ⟨_, rfl⟩
  have hnl : Hid (n = m.length) := hn.out.trans hlm
  rw [← hn.out] at hl h1 ⊢
  rw [← hnl.out] at h2
  clear hlm
  replace h1 : Hid _ := h1
  replace h2 : Hid _ := h2
  go_enter Tryz.func45, Tryz.ntmps45
  go_wp2
  go_loopw [5] (fun i wr => ∃ k d : Nat, k ≤ n ∧ i = .int .i64 k ∧ Hid (l.take k = m.take k) ∧ wr = w.drewN d) (fun i _ => n - (intOf i).toNat)
  case atStart => exact ⟨0, 0, Nat.zero_le _, rfl, rfl, rfl⟩
  case round =>
    obtain ⟨k, d, hk, rfl, htk, rfl⟩ := hrel
    by_cases hlt : k < n
    · obtain ⟨x0, x1⟩ := at_lb (h1.out k hlt)
      obtain ⟨y0, y1⟩ := at_lb (h2.out k hlt)
      have hki : (k : Int) < (n : Int) := by omega
      clear h1 h2
      obtain ⟨p, hp1⟩ : ∃ p, Hid (l.getD k lb0 = p) := ⟨_, rfl⟩
      obtain ⟨q, hp2⟩ : ∃ q, Hid (m.getD k lb0 = q) := ⟨_, rfl⟩
      rw [hp1.out] at x0 x1
      rw [hp2.out] at y0 y1
      by_cases hpq : p = q
      · subst hpq
        have hst : Hid (l.take (k + 1) = m.take (k + 1)) := by
          show _ = _
          rw [take_getD l lb0 k (by rw [← hn.out]; exact hlt), take_getD m lb0 k (by rw [← hnl.out]; exact hlt), hp1.out, hp2.out, htk.out]
        obtain ⟨n1, t1⟩ := p
        simp only [] at x0 x1 y0 y1
        go_wp2
        go_quiet (fail)
        go_wp2
        refine ⟨⟨k + 1, _, by omega, by go_num, hst, rfl⟩, ?_⟩
        simp [intOf]; omega
      · have hne : Hid (l ≠ m) := fun e => hpq (by rw [← hp1.out, ← hp2.out, e])
        obtain ⟨n1, t1⟩ := p
        obtain ⟨n2, t2⟩ := q
        simp only [] at x0 x1 y0 y1
        have hb3 : ((n1.toList == n2.toList) = false) ∨ ((n1.toList == n2.toList) = true ∧ (t1.toList == t2.toList) = false) := by
          cases e2 : (n1.toList == n2.toList) with
          | false => exact .inl rfl
          | true =>
            cases e3 : (t1.toList == t2.toList) with
            | false => exact .inr ⟨rfl, rfl⟩
            | true =>
              exfalso
              exact hpq (lb_ext (toList_eq e2) (toList_eq e3))
        clear hpq
        rcases hb3 with e1 | ⟨e1, e2⟩
        all_goals
          go_wp2
          go_quiet (fail)
          go_wp2
          go_ret
          refine ⟨false, rfl, ⟨(fun h => by cases h), fun h => absurd h hne.out⟩, ?_⟩
          exact below_drewN (below_drewN (Below.refl _ _) _) _
    · obtain rfl : k = n := by omega
      have hki : ¬ (k : Int) < (k : Int) := by omega
      have heq : Hid (l = m) := by
        have h := htk.out
        rw [List.take_of_length_le (by rw [← hn.out]; omega), List.take_of_length_le (by rw [← hnl.out]; omega)] at h
        exact h
      clear h1 h2
      go_wp2
      go_ret
      exact ⟨true, rfl, ⟨fun _ => heq.out, fun _ => rfl⟩, below_drewN (Below.refl _ _) _⟩
set_option maxRecDepth 100000 in
set_option maxHeartbeats 1000000 in
theorem same_len (n m c c2 : Nat) (a a2 : Option Addr) (w : World) (hn : n ≤ 9223372036854775807) (hm : m ≤ 9223372036854775807) (h : n ≠ m) : Calls Tryz.prog 45 #[.slice a n c, .slice a2 m c2] w fun e w' => e = .returned (.bool false) ∧ w' = w := by
  have hd : ((n : Int) == (m : Int)) = false := by simp; omega
  have hd2 : ((n : Int) != (m : Int)) = true := by simp; omega
  go_enter Tryz.func45, Tryz.ntmps45
  go_wp2
  go_ret
  exact ⟨rfl, rfl⟩
set_option maxRecDepth 100000 in
set_option maxHeartbeats 1000000 in
theorem same_none (c c2 : Nat) (a a2 : Option Addr) (w : World) : Calls Tryz.prog 45 #[.slice a 0 c, .slice a2 0 c2] w fun e w' => e = .returned (.bool true) ∧ w' = w := by
  go_enter Tryz.func45, Tryz.ntmps45
  go_wp2
  refine wp_loop_rounds 1 ?_
  rw [rounds_succ]
  go_wp2
  go_ret
  exact ⟨rfl, rfl⟩
/-- klaxonref09.Same. -/
theorem same_any (v u : Value) (l m : List Lb) (w : World) (hv : Lbs w v l) (hu : Lbs w u m) (hl : l.length ≤ 1000000000) (hm : m.length ≤ 1000000000) : Calls Tryz.prog 45 #[v, u] w fun e w' => SameQ l m w e w' := by
  obtain ⟨a, c, rfl, _, h1⟩ := hv
  obtain ⟨a2, c2, rfl, _, h2⟩ := hu
  by_cases hlm : l.length = m.length
  · rcases h1 with rfl | ⟨b, o, rfl, h1⟩
    · have : m = [] := List.length_eq_zero_iff.1 hlm.symm
      subst this
      refine (same_none c c2 a a2 w).mono ?_
      rintro e w' ⟨rfl, rfl⟩
      exact ⟨true, rfl, ⟨fun _ => rfl, fun _ => rfl⟩, Below.refl _ _⟩
    · rcases h2 with rfl | ⟨b2, o2, rfl, h2⟩
      · have : l = [] := List.length_eq_zero_iff.1 hlm
        subst this
        refine (same_none c c2 _ a2 w).mono ?_
        rintro e w' ⟨rfl, rfl⟩
        exact ⟨true, rfl, ⟨fun _ => rfl, fun _ => rfl⟩, Below.refl _ _⟩
      · rw [← hlm]
        exact same_some l m b o b2 o2 c c2 w hl hlm h1 h2
  · refine (same_len _ _ c c2 a a2 w (by omega) (by omega) hlm).mono ?_
    rintro e w' ⟨rfl, rfl⟩
    exact ⟨false, rfl, ⟨(fun h => by cases h), fun h => absurd (congrArg List.length h) hlm⟩, Below.refl _ _⟩
end Go.Proofs.YtiajafljgfpdcaaGreat
