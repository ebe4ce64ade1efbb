/- Due of one; live 8. -/
import Derived.Test.YtnbhnnjgnojgbaaWk
namespace Go.Proofs.Ytnbhnnjgnojgbaa
set_option linter.unusedVariables false
open Go.RowKit
theorem jbs_one (w : World) (j : Jb) : Jbs (w.alloc (jO j)) (.slice (some ⟨w.heap.size, 0, none⟩) 1 1) [j] := sls_one w j _ _ rfl
theorem due_one (j : Jb) (hj : Ok j) (now : Int) (h0 : -1 ≤ now) (h1 : now ≤ 4398046511104) (w : World) :
    Calls Try.prog 16 #[.int .i64 now, .slice (some ⟨w.heap.size, 0, none⟩) 1 1] (w.alloc (jO j)) fun e w' => ∃ a c, e = .returned (.slice a (if isB j now = true then 1 else 0) c) ∧ Below w.heap.size w w' := by
  have hb : Below w.heap.size w (w.alloc (jO j)) := (Below.refl _ w).alloc (Nat.le_refl _) _
  have hlen : (dueL now [j]).length = if isB j now = true then 1 else 0 := by
    unfold dueL; rw [List.filter_cons]; split <;> simp
  refine (due_any (fun D => D.length = (dueL now [j]).length) _ [j] now (w.alloc (jO j)) (jbs_one w j) (by simpa using hj) (by simp) h0 h1 ?_).mono ?_
  · intro W u hu hB
    obtain ⟨a, c, rfl⟩ := hu.shape
    refine (sort_tiny a _ c _ W (by rw [hlen]; split <;> omega)).mono ?_
    rintro e w' ⟨rfl, rfl⟩
    exact ⟨rfl, _, rfl, hu, hB⟩
  · rintro e w' ⟨y, D, rfl, hD, hO, hB⟩
    obtain ⟨a, c, rfl⟩ := hO.shape
    rw [hD, hlen]
    exact ⟨a, c, rfl, hb.trans (hB.mono hb.size)⟩
theorem wake_one (j : Jb) (hj : Ok j) (now : Int) (h0 : -1 ≤ now) (h1 : now ≤ 4398046511104) (w : World) :
    Calls Try.prog 13 #[.int .i64 now, .slice (some ⟨w.heap.size, 0, none⟩) 1 1] (w.alloc (jO j)) fun e w' => e = .returned (.tuple #[.int .i64 (wkF now [j]).1, .bool (wkF now [j]).2]) ∧ Below w.heap.size w w' := by
  have hb : Below w.heap.size w (w.alloc (jO j)) := (Below.refl _ w).alloc (Nat.le_refl _) _
  refine (wake13 _ [j] now (w.alloc (jO j)) (jbs_one w j) (by simpa using hj) (by simp) h0 h1).mono ?_
  rintro e w' ⟨rfl, hB⟩
  exact ⟨rfl, hb.trans (hB.mono hb.size)⟩
def jL : Jb := ⟨⟨#[102]⟩, ⟨#[]⟩, 0, 10, 3, false, 3⟩
theorem ok_L : Ok jL := by decide
theorem bel_one (w : World) {v : Value} {f : FuncId} {args : Array Value} {o : Obj} {P : Ending → Prop} (h : Calls Try.prog f args (w.alloc o) fun e w' => P e ∧ Below w.heap.size w w') : Calls Try.prog f args (w.alloc o) fun e w' => P e ∧ Below w.heap.size w w' := h
set_option maxRecDepth 100000 in
set_option maxHeartbeats 1000000 in
theorem live8 (w : World) : Calls Try.prog 8 #[] w fun e w' => e = .returned (.bool true) ∧ Below w.heap.size w w' := by
  obtain ⟨W1, hW1⟩ : ∃ W1, W1 = w.alloc (.cells #[.string ⟨#[102]⟩, .string ⟨#[]⟩, .int .i64 0, .int .i64 10, .int .i64 3, .bool false, .int .i64 3] 27) := ⟨_, rfl⟩
  have hb0 : Hid (Below w.heap.size w W1) := by rw [hW1]; exact (Below.refl _ w).alloc (Nat.le_refl _) _
  have hJ : JAt W1 w.heap.size jL := by rw [hW1]; exact jNew w jL
  have hwk := fun W => wake_one jL ok_L 5 (by decide) (by decide) W
  have hd1 := fun W => due_one jL ok_L 12 (by decide) (by decide) W
  have hd2 := fun W => due_one jL ok_L 13 (by decide) (by decide) W
  have hd3 := fun W => due_one jL ok_L 40 (by decide) (by decide) W
  have hn1 := fun W => next11 jL 0 W ok_L (by decide) (by decide)
  have hn2 := fun W => next11 jL 3 W ok_L (by decide) (by decide)
  have hs1 := fun W => slot9 jL (-1) W ok_L (by decide) (by decide)
  rw [show wkF 5 [jL] = (13, true) by decide] at hwk
  rw [show isB jL 12 = false by decide] at hd1
  rw [show isB jL 13 = true by decide] at hd2
  rw [show isB jL 40 = true by decide] at hd3
  rw [show nextF jL 0 = 3 by decide] at hn1
  rw [show nextF jL 3 = 13 by decide] at hn2
  rw [show slotF jL (-1) = -1 by decide] at hs1
  unfold jO at hwk hd1 hd2 hd3
  unfold encJ at hn1 hn2 hs1
  simp only [jL, if_true, if_false, Bool.false_eq_true] at hwk hd1 hd2 hd3 hn1 hn2 hs1
  have c := fun W (hW : Below W1.heap.size W1 W) => (hJ.grow hW).cells
  simp only [jL] at c
  have hB0 : Below W1.heap.size W1 W1 := Below.refl _ _
  obtain ⟨j0, j1, j2, j3, j4, j5, j6⟩ := c W1 hB0
  go_enter Try.func8, Try.ntmps8
  go_upto_region 2 with fail
  rw [← hW1]
  clear hW1 hJ
  have hw1 := hwk W1
  go_wp2_with (first
    | (go_at_call 13; refine hw1.mono ?_; rintro e w2 ⟨rfl, hb2⟩; replace hB0 := hB0.trans (hb2.mono hB0.size); obtain ⟨j0, j1, j2, j3, j4, j5, j6⟩ := c _ hB0)
    | (go_at_call 11; with_reducible refine (hn1 _).mono ?_; rintro e w3 ⟨rfl, hb3⟩; replace hB0 := hB0.trans (hb3.mono hB0.size); obtain ⟨j0, j1, j2, j3, j4, j5, j6⟩ := c _ hB0)
    | (go_at_call 11; with_reducible refine (hn2 _).mono ?_; rintro e w4 ⟨rfl, hb4⟩; replace hB0 := hB0.trans (hb4.mono hB0.size); obtain ⟨j0, j1, j2, j3, j4, j5, j6⟩ := c _ hB0)
    | (go_at_call 16; with_reducible refine (hd1 _).mono ?_; rintro e w5 ⟨a5, c5, rfl, hb5⟩; replace hB0 := hB0.trans (hb5.mono hB0.size); obtain ⟨j0, j1, j2, j3, j4, j5, j6⟩ := c _ hB0)
    | (go_at_call 16; with_reducible refine (hd2 _).mono ?_; rintro e w6 ⟨a6, c6, rfl, hb6⟩; replace hB0 := hB0.trans (hb6.mono hB0.size); obtain ⟨j0, j1, j2, j3, j4, j5, j6⟩ := c _ hB0)
    | (go_at_call 16; with_reducible refine (hd3 _).mono ?_; rintro e w7 ⟨a7, c7, rfl, hb7⟩; replace hB0 := hB0.trans (hb7.mono hB0.size); obtain ⟨j0, j1, j2, j3, j4, j5, j6⟩ := c _ hB0)
    | (go_at_call 9; with_reducible refine (hs1 _).mono ?_; rintro e w8 ⟨rfl, hb8⟩; replace hB0 := hB0.trans (hb8.mono hB0.size)))
  go_ret
  exact ⟨rfl, hb0.out.trans (hB0.mono hb0.out.size)⟩
end Go.Proofs.Ytnbhnnjgnojgbaa
