/- isNamed, mayBe, isGiven, Check, areTeams, User; the document's Check and User. -/
import Derived.Test.YtfbeilninpapaaaLv
import Derived.Laws.StructEq
namespace Go.Proofs.Ytfbeilninpapaaa
set_option linter.unusedVariables false
open Go.RowKit
/-- A grant's name may be. -/
def namedB (g : Gr) : Bool := if g.kind == 1 then nmB g.name else if g.kind == 2 then nmB g.name else if g.kind == 3 then roB g.name else false
/-- A grant may be. -/
def mbB (g : Gr) : Bool := namedB g && (decide (1 ≤ g.level) && decide (g.level ≤ 3))
set_option maxRecDepth 100000 in
set_option maxHeartbeats 1000000 in
theorem isNamed_any (g : Gr) (w : World) (hs : g.name.size ≤ 1000000000000000) :
    Calls Try.prog 43 #[.agg #[.int .i64 g.kind, .string g.name, .int .i64 g.level]] w fun e w' => e = .returned (.bool (namedB g)) ∧ Below w.heap.size w w' := by
  obtain ⟨k, m, lv⟩ := g
  simp only at hs ⊢
  have hN := fun W => name_any m W (by omega)
  have hO := fun W => isRole_any m W
  have hR : Hid (namedB ⟨k, m, lv⟩ = if k == 1 then nmB m else if k == 2 then nmB m else if k == 3 then roB m else false) := rfl
  have hb1 : Hid (Below w.heap.size w (w.alloc (.cells #[.int .i64 k, .string m, .int .i64 lv] 52))) := (Below.refl _ _).alloc (Nat.le_refl _) _
  generalize nmB m = B1 at *
  generalize roB m = B2 at *
  rcases Bool.eq_false_or_eq_true (k == 1) with h1 | h1
  · rw [h1, if_pos rfl] at hR
    go_enter Try.func43, Try.ntmps43
    go_wp2_with (first | (go_at_call 26; refine (hN _).mono ?_; rintro e wx ⟨rfl, hwx⟩; subst wx))
    go_ret
    exact ⟨by rw [hR.out]; rfl, hb1.out⟩
  · rw [h1, if_neg (by decide)] at hR
    rcases Bool.eq_false_or_eq_true (k == 2) with h2 | h2
    · rw [h2, if_pos rfl] at hR
      go_enter Try.func43, Try.ntmps43
      go_wp2_with (first | (go_at_call 26; refine (hN _).mono ?_; rintro e wx ⟨rfl, hwx⟩; subst wx))
      go_ret
      exact ⟨by rw [hR.out]; rfl, hb1.out⟩
    · rw [h2, if_neg (by decide)] at hR
      rcases Bool.eq_false_or_eq_true (k == 3) with h3 | h3
      · rw [h3, if_pos rfl] at hR
        go_enter Try.func43, Try.ntmps43
        go_wp2_with (first | (go_at_call 27; refine (hO _).mono ?_; rintro e wx ⟨rfl, hwx⟩; subst wx))
        go_ret
        exact ⟨by rw [hR.out]; rfl, hb1.out⟩
      · rw [h3, if_neg (by decide)] at hR
        go_enter Try.func43, Try.ntmps43
        go_wp2
        go_ret
        exact ⟨by rw [hR.out]; rfl, hb1.out⟩
set_option maxRecDepth 100000 in
set_option maxHeartbeats 1000000 in
theorem mayBe_any (g : Gr) (w : World) (hs : g.name.size ≤ 1000000000000000) :
    Calls Try.prog 22 #[.agg #[.int .i64 g.kind, .string g.name, .int .i64 g.level]] w fun e w' => e = .returned (.bool (mbB g)) ∧ Below w.heap.size w w' := by
  have hI := isNamed_any g (w.alloc (.cells #[.int .i64 g.kind, .string g.name, .int .i64 g.level] 52)) hs
  have hR : Hid (mbB g = (namedB g && (decide (1 ≤ g.level) && decide (g.level ≤ 3)))) := rfl
  obtain ⟨k, m, lv⟩ := g
  simp only at hs hI hR ⊢
  generalize namedB ⟨k, m, lv⟩ = B at *
  have hb1 : Hid (Below w.heap.size w (w.alloc (.cells #[.int .i64 k, .string m, .int .i64 lv] 52))) := (Below.refl _ _).alloc (Nat.le_refl _) _
  by_cases ha : 1 ≤ lv <;> by_cases hb : lv ≤ 3 <;> cases B
  all_goals try (exfalso; omega)
  all_goals
    first | (have a1 : decide (1 ≤ lv) = true := (by simpa using ha)) | (have a1 : decide (1 ≤ lv) = false := (by simp; omega))
    first | (have a2 : decide (lv ≤ 3) = true := (by simpa using hb)) | (have a2 : decide (lv ≤ 3) = false := (by simp; omega))
    rw [a1, a2] at hR
    go_enter Try.func22, Try.ntmps22
    go_wp2_with (first | (go_at_call 43; refine hI.mono ?_; rintro e wx ⟨rfl, hwx⟩; have y2 : wx.cell? ⟨w.heap.size, 2, none⟩ = some (.int .i64 lv) := (hwx.cell (p := ⟨w.heap.size, 2, none⟩) (by simp)).trans (by simp)))
    go_ret
    exact ⟨by rw [hR.out]; rfl, hb1.out.trans (hwx.mono (by simp))⟩
/-- One is for those for whom another is. -/
def sameB (x g : Gr) : Bool := x.kind == g.kind && x.name.toList == g.name.toList
def gvB (g : Gr) (l : List Gr) : Bool := l.any fun x => sameB x g
theorem gvB_take {g : Gr} {l : List Gr} {k : Nat} (hk : k < l.length) (h : gvB g (l.take k) = false) (h2 : sameB (l.getD k gr0) g = false) : gvB g (l.take (k + 1)) = false := by
  rw [take_getD l gr0 k hk]
  unfold gvB at *
  rw [List.any_append, h, List.any_cons, h2]
  rfl
theorem gvB_yes {g : Gr} {l : List Gr} {k : Nat} (hk : k < l.length) (h2 : sameB (l.getD k gr0) g = true) : gvB g l = true := by
  unfold gvB
  rw [List.any_eq_true]
  exact ⟨_, getD_mem l _ k hk, h2⟩
set_option maxRecDepth 100000 in
set_option maxHeartbeats 2000000 in
theorem isGiven_any (g : Gr) (v : Value) (l : List Gr) (w : World) (hv : Grs w v l) (hl : l.length ≤ 1000000000000000) :
    Calls Try.prog 23 #[.agg #[.int .i64 g.kind, .string g.name, .int .i64 g.level], v] w fun e w' => e = .returned (.bool (gvB g l)) ∧ Below w.heap.size w w' := by
  obtain ⟨a2, c2, rfl⟩ := hv.shape
  have hvk : Hid (∀ W, Below w.heap.size w W → Grs W (.slice a2 l.length c2) l) := fun W h => hv.grow h
  have hb1 : Hid (Below w.heap.size w (w.alloc (.cells #[.int .i64 g.kind, .string g.name, .int .i64 g.level] 52))) := (Below.refl _ _).alloc (Nat.le_refl _) _
  clear hv
  have hsm : Hid (∀ x, sameB x g = (x.kind == g.kind && x.name.toList == g.name.toList)) := fun _ => rfl
  have hgv : Hid (∀ k, k < l.length → gvB g (l.take k) = false → sameB (l.getD k gr0) g = false → gvB g (l.take (k + 1)) = false) := fun k h1 h2 h3 => gvB_take h1 h2 h3
  have hgy : Hid (∀ k, k < l.length → sameB (l.getD k gr0) g = true → gvB g l = true) := fun k h1 h2 => gvB_yes h1 h2
  obtain ⟨gk, gm, gl⟩ := g
  simp only at hb1 hsm ⊢
  go_enter Try.func23, Try.ntmps23
  go_wp2
  go_loopw [9] (fun i wr => ∃ k : Nat, k ≤ l.length ∧ i = .int .i64 k ∧ Hid (gvB ⟨gk, gm, gl⟩ (l.take k) = false) ∧ Hid (Below (w.heap.size + 1) (w.alloc (.cells #[.int .i64 gk, .string gm, .int .i64 gl] 52)) wr)) (fun i _ => l.length - (intOf i).toNat)
  case atStart => exact ⟨0, Nat.zero_le _, rfl, rfl, Below.refl _ _⟩
  case round =>
    obtain ⟨k, hk, rfl, hno, hB⟩ := hrel
    have hB2 : Hid (Below w.heap.size w wr) := hb1.out.trans (hB.out.mono (by omega))
    have hbz1 : w.heap.size < wr.heap.size := by have := hB.out.size; simp at this; omega
    by_cases hlt : k < l.length
    · have hki : (k : Int) < (l.length : Int) := by omega
      obtain ⟨b, o, rfl, x0, x1, x2⟩ := gr_at (hvk.out wr hB2.out) k hlt
      have u0 : ∀ o', (wr.alloc o').cell? ⟨w.heap.size, 0, none⟩ = some (.int .i64 gk) := fun o' => by
        refine Lib.cell?_alloc_some _ ?_
        exact (hB.out.cell (p := ⟨w.heap.size, 0, none⟩) (Nat.lt_succ_self _)).trans (by simp)
      have u1 : ∀ o', (wr.alloc o').cell? ⟨w.heap.size, 1, none⟩ = some (.string gm) := fun o' => by
        refine Lib.cell?_alloc_some _ ?_
        exact (hB.out.cell (p := ⟨w.heap.size, 1, none⟩) (Nat.lt_succ_self _)).trans (by simp)
      have u2 : ∀ o', (wr.alloc o').cell? ⟨w.heap.size, 2, none⟩ = some (.int .i64 gl) := fun o' => by
        refine Lib.cell?_alloc_some _ ?_
        exact (hB.out.cell (p := ⟨w.heap.size, 2, none⟩) (Nat.lt_succ_self _)).trans (by simp)
      have hs1 := hsm.out (l.getD k gr0)
      have hnx := hgv.out k hlt hno.out
      have hyx := hgy.out k hlt
      generalize l.getD k gr0 = x at *
      obtain ⟨xk, xm, xl⟩ := x
      simp only at x0 x1 x2 hs1
      replace hs1 : Hid _ := hs1
      replace hnx : Hid _ := hnx
      replace hyx : Hid _ := hyx
      have hBa : Hid (∀ o', Below (w.heap.size + 1) (w.alloc (.cells #[.int .i64 gk, .string gm, .int .i64 gl] 52)) (wr.alloc o')) := fun o' => hB.out.alloc (by omega) _
      have hgg : (gl == gl) = true := by simp
      rcases Bool.eq_false_or_eq_true (xk == gk) with h1 | h1 <;> rcases Bool.eq_false_or_eq_true (xm.toList == gm.toList) with h2 | h2
      all_goals
        rw [h1, h2] at hs1
        first
          | (have hst : Hid (gvB ⟨gk, gm, gl⟩ l = true) := hyx.out hs1.out
             go_wp2
             go_ret
             exact ⟨by rw [hst.out]; rfl, hb1.out.trans ((hBa.out _).mono (by omega))⟩)
          | (have hst : Hid (gvB ⟨gk, gm, gl⟩ (l.take (k + 1)) = false) := hnx.out hs1.out
             go_wp2
             refine ⟨⟨k + 1, by omega, by go_num, hst, hBa.out _⟩, ?_⟩
             simp [intOf]; omega)
    · obtain rfl : k = l.length := by omega
      have hki : ¬ (l.length : Int) < (l.length : Int) := by omega
      have hst : Hid (gvB ⟨gk, gm, gl⟩ l = false) := by
        have := hno.out
        rw [List.take_of_length_le (Nat.le_refl _)] at this
        exact this
      go_wp2
      go_ret
      exact ⟨by rw [hst.out]; rfl, hB2.out⟩
end Go.Proofs.Ytfbeilninpapaaa
