/- ValueTruths: not both is one of the two nots, neither is both nots; not not is the truth; null is null. Conditions: none beyond the row's. -/
import Derived.Test.YtfbiaffdfolbgaaGreatDoorVa3
import Derived.Test.YtfbiaffdfolbgaaGreatDoorTie
import Derived.Test.YtfbiaffdfolbgaaGreatDoorCards
import Derived.SevenTiedAt
import Derived.OpenShut
namespace Go.Proofs.YtfbiaffdfolbgaaGreatDoor.valueTruths
open Go.ChangeShapes Go.WideShapes Go.ChangeAt Go.RowKit Go.Maps Go.ChangeMaps Go.MapKept
set_option linter.unusedVariables false
attribute [local go_sem ↓] Go.wp_at_zero Go.wp_at_succ
set_option maxRecDepth 100000 in
set_option maxHeartbeats 8000000 in
theorem walk (a b : Vl) (w : World) (hG : G w) : Calls Tryz.prog 8 #[vlV a, vlV b] w fun e w' => e = .returned (.bool true) ∧ Below w.heap.size w w' := by
  have hlv : ∀ W, Below w.heap.size w W → Calls Tryz.prog 9 #[] W fun e w' => e = .returned (.bool true) ∧ Below W.heap.size W w' := fun W h => live_any W (hG.grow h)
  have ha : VlAt ((w.alloc (.cells #[.int .i64 a.kind, .int .i64 a.n] 25)).alloc (.cells #[.int .i64 b.kind, .int .i64 b.n] 25)) w.heap.size a := (vlNew w a).alloc _
  have hb : VlAt ((w.alloc (.cells #[.int .i64 a.kind, .int .i64 a.n] 25)).alloc (.cells #[.int .i64 b.kind, .int .i64 b.n] 25)) (w.heap.size + 1) b := vlNew1 w _ b
  have hO : Below w.heap.size w ((w.alloc (.cells #[.int .i64 a.kind, .int .i64 a.n] 25)).alloc (.cells #[.int .i64 b.kind, .int .i64 b.n] 25)) := below2 w _ _
  have hB : Below ((w.alloc (.cells #[.int .i64 a.kind, .int .i64 a.n] 25)).alloc (.cells #[.int .i64 b.kind, .int .i64 b.n] 25)).heap.size ((w.alloc (.cells #[.int .i64 a.kind, .int .i64 a.n] 25)).alloc (.cells #[.int .i64 b.kind, .int .i64 b.n] 25)) ((w.alloc (.cells #[.int .i64 a.kind, .int .i64 a.n] 25)).alloc (.cells #[.int .i64 b.kind, .int .i64 b.n] 25)) := Below.refl _ _
  have hrc := rc2' a b w
  clear hG
  rcases chk_in [a, b] with hz | hz
  · rw [hz] at hrc
    obtain ⟨hva, hvb⟩ := chk2 hz
    obtain ⟨A, eA⟩ : ∃ x, Hid (x = andV a b) := ⟨_, rfl⟩
    obtain ⟨O, eO⟩ : ∃ x, Hid (x = orV a b) := ⟨_, rfl⟩
    obtain ⟨P, eP⟩ : ∃ x, Hid (x = notV a) := ⟨_, rfl⟩
    obtain ⟨Q, eQ⟩ : ∃ x, Hid (x = notV b) := ⟨_, rfl⟩
    obtain ⟨C, eC⟩ : ∃ x, Hid (x = notV A) := ⟨_, rfl⟩
    obtain ⟨D, eD⟩ : ∃ x, Hid (x = notV O) := ⟨_, rfl⟩
    obtain ⟨R, eR⟩ : ∃ x, Hid (x = notV P) := ⟨_, rfl⟩
    have hvA : IsV A := by rw [eA.out]; exact nulls_isV (tru_isV _)
    have hvO : IsV O := by rw [eO.out]; exact nulls_isV (tru_isV _)
    have hvP : IsV P := by rw [eP.out]; exact not_isV hva
    have hvQ : IsV Q := by rw [eQ.out]; exact not_isV hvb
    have hT := truths hva hvb
    have hX : Hid (orV P Q = C) := by rw [eP.out, eQ.out, eC.out, eA.out]; exact hT.1.symm
    have hY : Hid (andV P Q = D) := by rw [eP.out, eQ.out, eD.out, eO.out]; exact hT.2.symm
    have hN : Hid (R = if a.kind = 2 then a else tru (truB a)) := by rw [eR.out, eP.out]; exact not_not
    have htr := fun W => true_any a hva W
    have hth := fun W => truth_any (truB a) W
    have d1 : ∀ W : World, Calls Tryz.prog 10 #[.string ⟨#[38, 38]⟩, .slice (some ⟨W.heap.size, 0, none⟩) 2 2] (W.alloc (.cells #[.int .i64 a.kind, .int .i64 a.n, .int .i64 b.kind, .int .i64 b.n] 25)) fun e w' => e = .returned (.tuple #[.agg #[.int .i64 A.kind, .int .i64 A.n], .int .i64 0]) ∧ Below W.heap.size W w' := fun W => by
      have h := do2 ⟨#[38, 38]⟩ a b W
      rw [(do_and hva hvb).1, (do_and hva hvb).2, ← eA.out] at h
      exact h
    have d1' : ∀ (W : World) (o : Obj), Calls Tryz.prog 10 #[.string ⟨#[38, 38]⟩, .slice (some ⟨W.heap.size + 1, 0, none⟩) 2 2] ((W.alloc o).alloc (.cells #[.int .i64 a.kind, .int .i64 a.n, .int .i64 b.kind, .int .i64 b.n] 25)) fun e w' => e = .returned (.tuple #[.agg #[.int .i64 A.kind, .int .i64 A.n], .int .i64 0]) ∧ Below (W.alloc o).heap.size (W.alloc o) w' := fun W o => by
      have hsz : (W.alloc o).heap.size = W.heap.size + 1 := World.size_alloc W o
      have h := d1 (W.alloc o)
      rw [hsz] at h ⊢
      exact h
    have d2 : ∀ W : World, Calls Tryz.prog 10 #[.string ⟨#[124, 124]⟩, .slice (some ⟨W.heap.size, 0, none⟩) 2 2] (W.alloc (.cells #[.int .i64 a.kind, .int .i64 a.n, .int .i64 b.kind, .int .i64 b.n] 25)) fun e w' => e = .returned (.tuple #[.agg #[.int .i64 O.kind, .int .i64 O.n], .int .i64 0]) ∧ Below W.heap.size W w' := fun W => by
      have h := do2 ⟨#[124, 124]⟩ a b W
      rw [(do_or hva hvb).1, (do_or hva hvb).2, ← eO.out] at h
      exact h
    have d2' : ∀ (W : World) (o : Obj), Calls Tryz.prog 10 #[.string ⟨#[124, 124]⟩, .slice (some ⟨W.heap.size + 1, 0, none⟩) 2 2] ((W.alloc o).alloc (.cells #[.int .i64 a.kind, .int .i64 a.n, .int .i64 b.kind, .int .i64 b.n] 25)) fun e w' => e = .returned (.tuple #[.agg #[.int .i64 O.kind, .int .i64 O.n], .int .i64 0]) ∧ Below (W.alloc o).heap.size (W.alloc o) w' := fun W o => by
      have hsz : (W.alloc o).heap.size = W.heap.size + 1 := World.size_alloc W o
      have h := d2 (W.alloc o)
      rw [hsz] at h ⊢
      exact h
    have d3 : ∀ W : World, Calls Tryz.prog 10 #[.string ⟨#[33]⟩, .slice (some ⟨W.heap.size, 0, none⟩) 1 1] (W.alloc (.cells #[.int .i64 a.kind, .int .i64 a.n] 25)) fun e w' => e = .returned (.tuple #[.agg #[.int .i64 P.kind, .int .i64 P.n], .int .i64 0]) ∧ Below W.heap.size W w' := fun W => by
      have h := do1 ⟨#[33]⟩ a W
      rw [(do_not hva).1, (do_not hva).2, ← eP.out] at h
      exact h
    have d3' : ∀ (W : World) (o : Obj), Calls Tryz.prog 10 #[.string ⟨#[33]⟩, .slice (some ⟨W.heap.size + 1, 0, none⟩) 1 1] ((W.alloc o).alloc (.cells #[.int .i64 a.kind, .int .i64 a.n] 25)) fun e w' => e = .returned (.tuple #[.agg #[.int .i64 P.kind, .int .i64 P.n], .int .i64 0]) ∧ Below (W.alloc o).heap.size (W.alloc o) w' := fun W o => by
      have hsz : (W.alloc o).heap.size = W.heap.size + 1 := World.size_alloc W o
      have h := d3 (W.alloc o)
      rw [hsz] at h ⊢
      exact h
    have d4 : ∀ W : World, Calls Tryz.prog 10 #[.string ⟨#[33]⟩, .slice (some ⟨W.heap.size, 0, none⟩) 1 1] (W.alloc (.cells #[.int .i64 b.kind, .int .i64 b.n] 25)) fun e w' => e = .returned (.tuple #[.agg #[.int .i64 Q.kind, .int .i64 Q.n], .int .i64 0]) ∧ Below W.heap.size W w' := fun W => by
      have h := do1 ⟨#[33]⟩ b W
      rw [(do_not hvb).1, (do_not hvb).2, ← eQ.out] at h
      exact h
    have d4' : ∀ (W : World) (o : Obj), Calls Tryz.prog 10 #[.string ⟨#[33]⟩, .slice (some ⟨W.heap.size + 1, 0, none⟩) 1 1] ((W.alloc o).alloc (.cells #[.int .i64 b.kind, .int .i64 b.n] 25)) fun e w' => e = .returned (.tuple #[.agg #[.int .i64 Q.kind, .int .i64 Q.n], .int .i64 0]) ∧ Below (W.alloc o).heap.size (W.alloc o) w' := fun W o => by
      have hsz : (W.alloc o).heap.size = W.heap.size + 1 := World.size_alloc W o
      have h := d4 (W.alloc o)
      rw [hsz] at h ⊢
      exact h
    have d5 : ∀ W : World, Calls Tryz.prog 10 #[.string ⟨#[33]⟩, .slice (some ⟨W.heap.size, 0, none⟩) 1 1] (W.alloc (.cells #[.int .i64 A.kind, .int .i64 A.n] 25)) fun e w' => e = .returned (.tuple #[.agg #[.int .i64 C.kind, .int .i64 C.n], .int .i64 0]) ∧ Below W.heap.size W w' := fun W => by
      have h := do1 ⟨#[33]⟩ A W
      rw [(do_not hvA).1, (do_not hvA).2, ← eC.out] at h
      exact h
    have d5' : ∀ (W : World) (o : Obj), Calls Tryz.prog 10 #[.string ⟨#[33]⟩, .slice (some ⟨W.heap.size + 1, 0, none⟩) 1 1] ((W.alloc o).alloc (.cells #[.int .i64 A.kind, .int .i64 A.n] 25)) fun e w' => e = .returned (.tuple #[.agg #[.int .i64 C.kind, .int .i64 C.n], .int .i64 0]) ∧ Below (W.alloc o).heap.size (W.alloc o) w' := fun W o => by
      have hsz : (W.alloc o).heap.size = W.heap.size + 1 := World.size_alloc W o
      have h := d5 (W.alloc o)
      rw [hsz] at h ⊢
      exact h
    have d6 : ∀ W : World, Calls Tryz.prog 10 #[.string ⟨#[33]⟩, .slice (some ⟨W.heap.size, 0, none⟩) 1 1] (W.alloc (.cells #[.int .i64 O.kind, .int .i64 O.n] 25)) fun e w' => e = .returned (.tuple #[.agg #[.int .i64 D.kind, .int .i64 D.n], .int .i64 0]) ∧ Below W.heap.size W w' := fun W => by
      have h := do1 ⟨#[33]⟩ O W
      rw [(do_not hvO).1, (do_not hvO).2, ← eD.out] at h
      exact h
    have d6' : ∀ (W : World) (o : Obj), Calls Tryz.prog 10 #[.string ⟨#[33]⟩, .slice (some ⟨W.heap.size + 1, 0, none⟩) 1 1] ((W.alloc o).alloc (.cells #[.int .i64 O.kind, .int .i64 O.n] 25)) fun e w' => e = .returned (.tuple #[.agg #[.int .i64 D.kind, .int .i64 D.n], .int .i64 0]) ∧ Below (W.alloc o).heap.size (W.alloc o) w' := fun W o => by
      have hsz : (W.alloc o).heap.size = W.heap.size + 1 := World.size_alloc W o
      have h := d6 (W.alloc o)
      rw [hsz] at h ⊢
      exact h
    have d7 : ∀ W : World, Calls Tryz.prog 10 #[.string ⟨#[124, 124]⟩, .slice (some ⟨W.heap.size, 0, none⟩) 2 2] (W.alloc (.cells #[.int .i64 P.kind, .int .i64 P.n, .int .i64 Q.kind, .int .i64 Q.n] 25)) fun e w' => e = .returned (.tuple #[.agg #[.int .i64 C.kind, .int .i64 C.n], .int .i64 0]) ∧ Below W.heap.size W w' := fun W => by
      have h := do2 ⟨#[124, 124]⟩ P Q W
      rw [(do_or hvP hvQ).1, (do_or hvP hvQ).2, hX.out] at h
      exact h
    have d7' : ∀ (W : World) (o : Obj), Calls Tryz.prog 10 #[.string ⟨#[124, 124]⟩, .slice (some ⟨W.heap.size + 1, 0, none⟩) 2 2] ((W.alloc o).alloc (.cells #[.int .i64 P.kind, .int .i64 P.n, .int .i64 Q.kind, .int .i64 Q.n] 25)) fun e w' => e = .returned (.tuple #[.agg #[.int .i64 C.kind, .int .i64 C.n], .int .i64 0]) ∧ Below (W.alloc o).heap.size (W.alloc o) w' := fun W o => by
      have hsz : (W.alloc o).heap.size = W.heap.size + 1 := World.size_alloc W o
      have h := d7 (W.alloc o)
      rw [hsz] at h ⊢
      exact h
    have d8 : ∀ W : World, Calls Tryz.prog 10 #[.string ⟨#[38, 38]⟩, .slice (some ⟨W.heap.size, 0, none⟩) 2 2] (W.alloc (.cells #[.int .i64 P.kind, .int .i64 P.n, .int .i64 Q.kind, .int .i64 Q.n] 25)) fun e w' => e = .returned (.tuple #[.agg #[.int .i64 D.kind, .int .i64 D.n], .int .i64 0]) ∧ Below W.heap.size W w' := fun W => by
      have h := do2 ⟨#[38, 38]⟩ P Q W
      rw [(do_and hvP hvQ).1, (do_and hvP hvQ).2, hY.out] at h
      exact h
    have d8' : ∀ (W : World) (o : Obj), Calls Tryz.prog 10 #[.string ⟨#[38, 38]⟩, .slice (some ⟨W.heap.size + 1, 0, none⟩) 2 2] ((W.alloc o).alloc (.cells #[.int .i64 P.kind, .int .i64 P.n, .int .i64 Q.kind, .int .i64 Q.n] 25)) fun e w' => e = .returned (.tuple #[.agg #[.int .i64 D.kind, .int .i64 D.n], .int .i64 0]) ∧ Below (W.alloc o).heap.size (W.alloc o) w' := fun W o => by
      have hsz : (W.alloc o).heap.size = W.heap.size + 1 := World.size_alloc W o
      have h := d8 (W.alloc o)
      rw [hsz] at h ⊢
      exact h
    have d9 : ∀ W : World, Calls Tryz.prog 10 #[.string ⟨#[33]⟩, .slice (some ⟨W.heap.size, 0, none⟩) 1 1] (W.alloc (.cells #[.int .i64 P.kind, .int .i64 P.n] 25)) fun e w' => e = .returned (.tuple #[.agg #[.int .i64 R.kind, .int .i64 R.n], .int .i64 0]) ∧ Below W.heap.size W w' := fun W => by
      have h := do1 ⟨#[33]⟩ P W
      rw [(do_not hvP).1, (do_not hvP).2, ← eR.out] at h
      exact h
    have d9' : ∀ (W : World) (o : Obj), Calls Tryz.prog 10 #[.string ⟨#[33]⟩, .slice (some ⟨W.heap.size + 1, 0, none⟩) 1 1] ((W.alloc o).alloc (.cells #[.int .i64 P.kind, .int .i64 P.n] 25)) fun e w' => e = .returned (.tuple #[.agg #[.int .i64 R.kind, .int .i64 R.n], .int .i64 0]) ∧ Below (W.alloc o).heap.size (W.alloc o) w' := fun W o => by
      have hsz : (W.alloc o).heap.size = W.heap.size + 1 := World.size_alloc W o
      have h := d9 (W.alloc o)
      rw [hsz] at h ⊢
      exact h
    clear eA eO eP eQ eC eD eR hz hva hvb hvA hvO hvP hvQ hT hX hY d2 d3 d4 d5 d6 d7 d8 d9 d1'
    generalize truB a = T at *
    unfold vlV at *
    by_cases hk : a.kind = 2
    · have hk1 : (a.kind != 2) = false := by simp [hk]
      have hk2 : (a.kind == 2) = true := by simp [hk]
      have hR : Hid (R = a) := hN.out.trans (if_pos hk)
      clear hk hN htr hth
      go_enter Tryz.func8, Tryz.ntmps8
      go_wp2_with (first | (go_at_call 17; refine (hrc).mono ?_; rintro e w1 ⟨rfl, hb1⟩; replace hB := hB.trans (hb1.mono hB.size); replace ha := ha.grow hb1; replace hb := hb.grow hb1; obtain ⟨a0, a1⟩ := ha.cells; obtain ⟨b0, b1⟩ := hb.cells) | (go_at_call 10; with_reducible refine (d1 _).mono ?_; rintro e w2 ⟨rfl, hb2⟩; replace hB := hB.trans (hb2.mono hB.size); clear a0 a1 b0 b1; replace ha := ha.grow hb2; replace hb := hb.grow hb2; have a0 := fun o : Obj => keepC ha.cells.1 (bW0 w2 o); have a1 := fun o : Obj => keepC ha.cells.2 (bW0 w2 o); have b0 := fun o : Obj => keepC hb.cells.1 (bW0 w2 o); have b1 := fun o : Obj => keepC hb.cells.2 (bW0 w2 o)) | (go_at_call 10; with_reducible refine (d2' _ _).mono ?_; rintro e w3 ⟨rfl, hb3⟩; replace hB := (hB.alloc hB.size _).trans (hb3.mono (hB.alloc hB.size _).size); clear a0 a1 b0 b1; replace ha := (ha.alloc _).grow hb3; replace hb := (hb.alloc _).grow hb3; have hand := (vlNew w2 A).grow hb3; have a0 := fun o : Obj => keepC ha.cells.1 (bW0 w3 o); have a1 := fun o : Obj => keepC ha.cells.2 (bW0 w3 o); have b0 := fun o : Obj => keepC hb.cells.1 (bW0 w3 o); have b1 := fun o : Obj => keepC hb.cells.2 (bW0 w3 o); have and0 := fun o : Obj => keepC hand.cells.1 (bW0 w3 o); have and1 := fun o : Obj => keepC hand.cells.2 (bW0 w3 o)) | (go_at_call 10; with_reducible refine (d3' _ _).mono ?_; rintro e w4 ⟨rfl, hb4⟩; replace hB := (hB.alloc hB.size _).trans (hb4.mono (hB.alloc hB.size _).size); clear a0 a1 b0 b1 and0 and1; replace ha := (ha.alloc _).grow hb4; replace hb := (hb.alloc _).grow hb4; replace hand := (hand.alloc _).grow hb4; have hor := (vlNew w3 O).grow hb4; have a0 := fun o : Obj => keepC ha.cells.1 (bW0 w4 o); have a1 := fun o : Obj => keepC ha.cells.2 (bW0 w4 o); have b0 := fun o : Obj => keepC hb.cells.1 (bW0 w4 o); have b1 := fun o : Obj => keepC hb.cells.2 (bW0 w4 o); have and0 := fun o : Obj => keepC hand.cells.1 (bW0 w4 o); have and1 := fun o : Obj => keepC hand.cells.2 (bW0 w4 o); have or0 := fun o : Obj => keepC hor.cells.1 (bW0 w4 o); have or1 := fun o : Obj => keepC hor.cells.2 (bW0 w4 o)) | (go_at_call 10; with_reducible refine (d4' _ _).mono ?_; rintro e w5 ⟨rfl, hb5⟩; replace hB := (hB.alloc hB.size _).trans (hb5.mono (hB.alloc hB.size _).size); clear a0 a1 b0 b1 and0 and1 or0 or1; replace ha := (ha.alloc _).grow hb5; replace hb := (hb.alloc _).grow hb5; replace hand := (hand.alloc _).grow hb5; replace hor := (hor.alloc _).grow hb5; have hna := (vlNew w4 P).grow hb5; have a0 := fun o : Obj => keepC ha.cells.1 (bW0 w5 o); have a1 := fun o : Obj => keepC ha.cells.2 (bW0 w5 o); have b0 := fun o : Obj => keepC hb.cells.1 (bW0 w5 o); have b1 := fun o : Obj => keepC hb.cells.2 (bW0 w5 o); have and0 := fun o : Obj => keepC hand.cells.1 (bW0 w5 o); have and1 := fun o : Obj => keepC hand.cells.2 (bW0 w5 o); have or0 := fun o : Obj => keepC hor.cells.1 (bW0 w5 o); have or1 := fun o : Obj => keepC hor.cells.2 (bW0 w5 o); have na0 := fun o : Obj => keepC hna.cells.1 (bW0 w5 o); have na1 := fun o : Obj => keepC hna.cells.2 (bW0 w5 o)) | (go_at_call 10; with_reducible refine (d5' _ _).mono ?_; rintro e w6 ⟨rfl, hb6⟩; replace hB := (hB.alloc hB.size _).trans (hb6.mono (hB.alloc hB.size _).size); clear a0 a1 b0 b1 and0 and1 or0 or1 na0 na1; replace ha := (ha.alloc _).grow hb6; replace hb := (hb.alloc _).grow hb6; replace hand := (hand.alloc _).grow hb6; replace hor := (hor.alloc _).grow hb6; replace hna := (hna.alloc _).grow hb6; have hnb := (vlNew w5 Q).grow hb6; have a0 := fun o : Obj => keepC ha.cells.1 (bW0 w6 o); have a1 := fun o : Obj => keepC ha.cells.2 (bW0 w6 o); have b0 := fun o : Obj => keepC hb.cells.1 (bW0 w6 o); have b1 := fun o : Obj => keepC hb.cells.2 (bW0 w6 o); have and0 := fun o : Obj => keepC hand.cells.1 (bW0 w6 o); have and1 := fun o : Obj => keepC hand.cells.2 (bW0 w6 o); have or0 := fun o : Obj => keepC hor.cells.1 (bW0 w6 o); have or1 := fun o : Obj => keepC hor.cells.2 (bW0 w6 o); have na0 := fun o : Obj => keepC hna.cells.1 (bW0 w6 o); have na1 := fun o : Obj => keepC hna.cells.2 (bW0 w6 o); have nb0 := fun o : Obj => keepC hnb.cells.1 (bW0 w6 o); have nb1 := fun o : Obj => keepC hnb.cells.2 (bW0 w6 o)) | (go_at_call 10; with_reducible refine (d6' _ _).mono ?_; rintro e w7 ⟨rfl, hb7⟩; replace hB := (hB.alloc hB.size _).trans (hb7.mono (hB.alloc hB.size _).size); clear a0 a1 b0 b1 and0 and1 or0 or1 na0 na1 nb0 nb1; replace ha := (ha.alloc _).grow hb7; replace hb := (hb.alloc _).grow hb7; replace hand := (hand.alloc _).grow hb7; replace hor := (hor.alloc _).grow hb7; replace hna := (hna.alloc _).grow hb7; replace hnb := (hnb.alloc _).grow hb7; have hnand := (vlNew w6 C).grow hb7; have a0 := fun o : Obj => keepC ha.cells.1 (bW0 w7 o); have a1 := fun o : Obj => keepC ha.cells.2 (bW0 w7 o); have b0 := fun o : Obj => keepC hb.cells.1 (bW0 w7 o); have b1 := fun o : Obj => keepC hb.cells.2 (bW0 w7 o); have and0 := fun o : Obj => keepC hand.cells.1 (bW0 w7 o); have and1 := fun o : Obj => keepC hand.cells.2 (bW0 w7 o); have or0 := fun o : Obj => keepC hor.cells.1 (bW0 w7 o); have or1 := fun o : Obj => keepC hor.cells.2 (bW0 w7 o); have na0 := fun o : Obj => keepC hna.cells.1 (bW0 w7 o); have na1 := fun o : Obj => keepC hna.cells.2 (bW0 w7 o); have nb0 := fun o : Obj => keepC hnb.cells.1 (bW0 w7 o); have nb1 := fun o : Obj => keepC hnb.cells.2 (bW0 w7 o); have nand0 := fun o : Obj => keepC hnand.cells.1 (bW0 w7 o); have nand1 := fun o : Obj => keepC hnand.cells.2 (bW0 w7 o)) | (go_at_call 10; with_reducible refine (d7' _ _).mono ?_; rintro e w8 ⟨rfl, hb8⟩; replace hB := (hB.alloc hB.size _).trans (hb8.mono (hB.alloc hB.size _).size); clear a0 a1 b0 b1 and0 and1 or0 or1 na0 na1 nb0 nb1 nand0 nand1; replace ha := (ha.alloc _).grow hb8; replace hb := (hb.alloc _).grow hb8; replace hand := (hand.alloc _).grow hb8; replace hor := (hor.alloc _).grow hb8; replace hna := (hna.alloc _).grow hb8; replace hnb := (hnb.alloc _).grow hb8; replace hnand := (hnand.alloc _).grow hb8; have hnor := (vlNew w7 D).grow hb8; have a0 := fun o : Obj => keepC ha.cells.1 (bW0 w8 o); have a1 := fun o : Obj => keepC ha.cells.2 (bW0 w8 o); have b0 := fun o : Obj => keepC hb.cells.1 (bW0 w8 o); have b1 := fun o : Obj => keepC hb.cells.2 (bW0 w8 o); have and0 := fun o : Obj => keepC hand.cells.1 (bW0 w8 o); have and1 := fun o : Obj => keepC hand.cells.2 (bW0 w8 o); have or0 := fun o : Obj => keepC hor.cells.1 (bW0 w8 o); have or1 := fun o : Obj => keepC hor.cells.2 (bW0 w8 o); have na0 := fun o : Obj => keepC hna.cells.1 (bW0 w8 o); have na1 := fun o : Obj => keepC hna.cells.2 (bW0 w8 o); have nb0 := fun o : Obj => keepC hnb.cells.1 (bW0 w8 o); have nb1 := fun o : Obj => keepC hnb.cells.2 (bW0 w8 o); have nand0 := fun o : Obj => keepC hnand.cells.1 (bW0 w8 o); have nand1 := fun o : Obj => keepC hnand.cells.2 (bW0 w8 o); have nor0 := fun o : Obj => keepC hnor.cells.1 (bW0 w8 o); have nor1 := fun o : Obj => keepC hnor.cells.2 (bW0 w8 o)) | (go_at_call 10; with_reducible refine (d8' _ _).mono ?_; rintro e w9 ⟨rfl, hb9⟩; replace hB := (hB.alloc hB.size _).trans (hb9.mono (hB.alloc hB.size _).size); clear a0 a1 b0 b1 and0 and1 or0 or1 na0 na1 nb0 nb1 nand0 nand1 nor0 nor1; replace ha := (ha.alloc _).grow hb9; replace hb := (hb.alloc _).grow hb9; replace hand := (hand.alloc _).grow hb9; replace hor := (hor.alloc _).grow hb9; replace hna := (hna.alloc _).grow hb9; replace hnb := (hnb.alloc _).grow hb9; replace hnand := (hnand.alloc _).grow hb9; replace hnor := (hnor.alloc _).grow hb9; have hx := (vlNew w8 C).grow hb9; have a0 := fun o : Obj => keepC ha.cells.1 (bW0 w9 o); have a1 := fun o : Obj => keepC ha.cells.2 (bW0 w9 o); have b0 := fun o : Obj => keepC hb.cells.1 (bW0 w9 o); have b1 := fun o : Obj => keepC hb.cells.2 (bW0 w9 o); have and0 := fun o : Obj => keepC hand.cells.1 (bW0 w9 o); have and1 := fun o : Obj => keepC hand.cells.2 (bW0 w9 o); have or0 := fun o : Obj => keepC hor.cells.1 (bW0 w9 o); have or1 := fun o : Obj => keepC hor.cells.2 (bW0 w9 o); have na0 := fun o : Obj => keepC hna.cells.1 (bW0 w9 o); have na1 := fun o : Obj => keepC hna.cells.2 (bW0 w9 o); have nb0 := fun o : Obj => keepC hnb.cells.1 (bW0 w9 o); have nb1 := fun o : Obj => keepC hnb.cells.2 (bW0 w9 o); have nand0 := fun o : Obj => keepC hnand.cells.1 (bW0 w9 o); have nand1 := fun o : Obj => keepC hnand.cells.2 (bW0 w9 o); have nor0 := fun o : Obj => keepC hnor.cells.1 (bW0 w9 o); have nor1 := fun o : Obj => keepC hnor.cells.2 (bW0 w9 o); have x0 := fun o : Obj => keepC hx.cells.1 (bW0 w9 o); have x1 := fun o : Obj => keepC hx.cells.2 (bW0 w9 o)) | (go_at_call 10; with_reducible refine (d9' _ _).mono ?_; rintro e w10 ⟨rfl, hb10⟩; replace hB := (hB.alloc hB.size _).trans (hb10.mono (hB.alloc hB.size _).size); clear a0 a1 b0 b1 and0 and1 or0 or1 na0 na1 nb0 nb1 nand0 nand1 nor0 nor1 x0 x1; replace ha := (ha.alloc _).grow hb10; replace hb := (hb.alloc _).grow hb10; replace hand := (hand.alloc _).grow hb10; replace hor := (hor.alloc _).grow hb10; replace hna := (hna.alloc _).grow hb10; replace hnb := (hnb.alloc _).grow hb10; replace hnand := (hnand.alloc _).grow hb10; replace hnor := (hnor.alloc _).grow hb10; replace hx := (hx.alloc _).grow hb10; have hy := (vlNew w9 D).grow hb10; have a0 := fun o : Obj => keepC ha.cells.1 (bW0 w10 o); have a1 := fun o : Obj => keepC ha.cells.2 (bW0 w10 o); have b0 := fun o : Obj => keepC hb.cells.1 (bW0 w10 o); have b1 := fun o : Obj => keepC hb.cells.2 (bW0 w10 o); have and0 := fun o : Obj => keepC hand.cells.1 (bW0 w10 o); have and1 := fun o : Obj => keepC hand.cells.2 (bW0 w10 o); have or0 := fun o : Obj => keepC hor.cells.1 (bW0 w10 o); have or1 := fun o : Obj => keepC hor.cells.2 (bW0 w10 o); have na0 := fun o : Obj => keepC hna.cells.1 (bW0 w10 o); have na1 := fun o : Obj => keepC hna.cells.2 (bW0 w10 o); have nb0 := fun o : Obj => keepC hnb.cells.1 (bW0 w10 o); have nb1 := fun o : Obj => keepC hnb.cells.2 (bW0 w10 o); have nand0 := fun o : Obj => keepC hnand.cells.1 (bW0 w10 o); have nand1 := fun o : Obj => keepC hnand.cells.2 (bW0 w10 o); have nor0 := fun o : Obj => keepC hnor.cells.1 (bW0 w10 o); have nor1 := fun o : Obj => keepC hnor.cells.2 (bW0 w10 o); have x0 := fun o : Obj => keepC hx.cells.1 (bW0 w10 o); have x1 := fun o : Obj => keepC hx.cells.2 (bW0 w10 o); have y0 := fun o : Obj => keepC hy.cells.1 (bW0 w10 o); have y1 := fun o : Obj => keepC hy.cells.2 (bW0 w10 o)))
      have krr : VlAt (w10.alloc (.cells #[.int .i64 R.kind, .int .i64 R.n] 25)) w10.heap.size R := vlNew w10 R
      have ka := ha.alloc (.cells #[.int .i64 R.kind, .int .i64 R.n] 25)
      have knand := hnand.alloc (.cells #[.int .i64 R.kind, .int .i64 R.n] 25)
      have knor := hnor.alloc (.cells #[.int .i64 R.kind, .int .i64 R.n] 25)
      have kx := hx.alloc (.cells #[.int .i64 R.kind, .int .i64 R.n] 25)
      have ky := hy.alloc (.cells #[.int .i64 R.kind, .int .i64 R.n] 25)
      have hO2 := hO.trans ((hB.alloc hB.size (.cells #[.int .i64 R.kind, .int .i64 R.n] 25)).mono hO.size)
      clear a0 a1 b0 b1 and0 and1 or0 or1 na0 na1 nb0 nb1 nand0 nand1 nor0 nor1 x0 x1 y0 y1 hB d1 d2' d3' d4' d5' d6' d7' d8' d9'
      generalize w10.alloc (.cells #[.int .i64 R.kind, .int .i64 R.n] 25) = U at krr ka knand knor kx ky hO2 ⊢
      have hB : Below U.heap.size U U.drew := (Below.refl _ _).drew
      obtain ⟨a0, a1⟩ := (ka.grow hB).cells
      obtain ⟨nand0, nand1⟩ := (knand.grow hB).cells
      obtain ⟨nor0, nor1⟩ := (knor.grow hB).cells
      obtain ⟨x0, x1⟩ := (kx.grow hB).cells
      obtain ⟨y0, y1⟩ := (ky.grow hB).cells
      obtain ⟨rr0, rr1⟩ := (krr.grow hB).cells
      obtain rfl : R = a := hR.out
      have u : ∀ q v, U.drew.cell? q = some v → U.cell? q = some v := fun q v h => h
      replace a0 := u _ _ a0
      replace a1 := u _ _ a1
      replace nand0 := u _ _ nand0
      replace nand1 := u _ _ nand1
      replace nor0 := u _ _ nor0
      replace nor1 := u _ _ nor1
      replace x0 := u _ _ x0
      replace x1 := u _ _ x1
      replace y0 := u _ _ y0
      replace y1 := u _ _ y1
      replace rr0 := u _ _ rr0
      replace rr1 := u _ _ rr1
      clear u
      go_region_with (first | fail)
      all_goals
        go_wp2_with (first | (go_at_call 9; with_reducible refine (hlv _ (hO2.trans (hB.mono hO2.size))).mono ?_; rintro e wz ⟨rfl, hbz⟩; replace hB := hB.trans (hbz.mono hB.size); obtain ⟨a0, a1⟩ := (ka.grow hB).cells; obtain ⟨nand0, nand1⟩ := (knand.grow hB).cells; obtain ⟨nor0, nor1⟩ := (knor.grow hB).cells; obtain ⟨x0, x1⟩ := (kx.grow hB).cells; obtain ⟨y0, y1⟩ := (ky.grow hB).cells; obtain ⟨rr0, rr1⟩ := (krr.grow hB).cells))
        go_ret
        exact ⟨rfl, hO2.trans (hB.mono hO2.size)⟩
    · have hk1 : (a.kind != 2) = true := by simpa using hk
      have hk2 : (a.kind == 2) = false := by simpa using hk
      have hR : Hid (R = tru T) := hN.out.trans (if_neg hk)
      clear hk hN
      go_enter Tryz.func8, Tryz.ntmps8
      go_wp2_with (first | (go_at_call 17; refine (hrc).mono ?_; rintro e w1 ⟨rfl, hb1⟩; replace hB := hB.trans (hb1.mono hB.size); replace ha := ha.grow hb1; replace hb := hb.grow hb1; obtain ⟨a0, a1⟩ := ha.cells; obtain ⟨b0, b1⟩ := hb.cells) | (go_at_call 10; with_reducible refine (d1 _).mono ?_; rintro e w2 ⟨rfl, hb2⟩; replace hB := hB.trans (hb2.mono hB.size); clear a0 a1 b0 b1; replace ha := ha.grow hb2; replace hb := hb.grow hb2; have a0 := fun o : Obj => keepC ha.cells.1 (bW0 w2 o); have a1 := fun o : Obj => keepC ha.cells.2 (bW0 w2 o); have b0 := fun o : Obj => keepC hb.cells.1 (bW0 w2 o); have b1 := fun o : Obj => keepC hb.cells.2 (bW0 w2 o)) | (go_at_call 10; with_reducible refine (d2' _ _).mono ?_; rintro e w3 ⟨rfl, hb3⟩; replace hB := (hB.alloc hB.size _).trans (hb3.mono (hB.alloc hB.size _).size); clear a0 a1 b0 b1; replace ha := (ha.alloc _).grow hb3; replace hb := (hb.alloc _).grow hb3; have hand := (vlNew w2 A).grow hb3; have a0 := fun o : Obj => keepC ha.cells.1 (bW0 w3 o); have a1 := fun o : Obj => keepC ha.cells.2 (bW0 w3 o); have b0 := fun o : Obj => keepC hb.cells.1 (bW0 w3 o); have b1 := fun o : Obj => keepC hb.cells.2 (bW0 w3 o); have and0 := fun o : Obj => keepC hand.cells.1 (bW0 w3 o); have and1 := fun o : Obj => keepC hand.cells.2 (bW0 w3 o)) | (go_at_call 10; with_reducible refine (d3' _ _).mono ?_; rintro e w4 ⟨rfl, hb4⟩; replace hB := (hB.alloc hB.size _).trans (hb4.mono (hB.alloc hB.size _).size); clear a0 a1 b0 b1 and0 and1; replace ha := (ha.alloc _).grow hb4; replace hb := (hb.alloc _).grow hb4; replace hand := (hand.alloc _).grow hb4; have hor := (vlNew w3 O).grow hb4; have a0 := fun o : Obj => keepC ha.cells.1 (bW0 w4 o); have a1 := fun o : Obj => keepC ha.cells.2 (bW0 w4 o); have b0 := fun o : Obj => keepC hb.cells.1 (bW0 w4 o); have b1 := fun o : Obj => keepC hb.cells.2 (bW0 w4 o); have and0 := fun o : Obj => keepC hand.cells.1 (bW0 w4 o); have and1 := fun o : Obj => keepC hand.cells.2 (bW0 w4 o); have or0 := fun o : Obj => keepC hor.cells.1 (bW0 w4 o); have or1 := fun o : Obj => keepC hor.cells.2 (bW0 w4 o)) | (go_at_call 10; with_reducible refine (d4' _ _).mono ?_; rintro e w5 ⟨rfl, hb5⟩; replace hB := (hB.alloc hB.size _).trans (hb5.mono (hB.alloc hB.size _).size); clear a0 a1 b0 b1 and0 and1 or0 or1; replace ha := (ha.alloc _).grow hb5; replace hb := (hb.alloc _).grow hb5; replace hand := (hand.alloc _).grow hb5; replace hor := (hor.alloc _).grow hb5; have hna := (vlNew w4 P).grow hb5; have a0 := fun o : Obj => keepC ha.cells.1 (bW0 w5 o); have a1 := fun o : Obj => keepC ha.cells.2 (bW0 w5 o); have b0 := fun o : Obj => keepC hb.cells.1 (bW0 w5 o); have b1 := fun o : Obj => keepC hb.cells.2 (bW0 w5 o); have and0 := fun o : Obj => keepC hand.cells.1 (bW0 w5 o); have and1 := fun o : Obj => keepC hand.cells.2 (bW0 w5 o); have or0 := fun o : Obj => keepC hor.cells.1 (bW0 w5 o); have or1 := fun o : Obj => keepC hor.cells.2 (bW0 w5 o); have na0 := fun o : Obj => keepC hna.cells.1 (bW0 w5 o); have na1 := fun o : Obj => keepC hna.cells.2 (bW0 w5 o)) | (go_at_call 10; with_reducible refine (d5' _ _).mono ?_; rintro e w6 ⟨rfl, hb6⟩; replace hB := (hB.alloc hB.size _).trans (hb6.mono (hB.alloc hB.size _).size); clear a0 a1 b0 b1 and0 and1 or0 or1 na0 na1; replace ha := (ha.alloc _).grow hb6; replace hb := (hb.alloc _).grow hb6; replace hand := (hand.alloc _).grow hb6; replace hor := (hor.alloc _).grow hb6; replace hna := (hna.alloc _).grow hb6; have hnb := (vlNew w5 Q).grow hb6; have a0 := fun o : Obj => keepC ha.cells.1 (bW0 w6 o); have a1 := fun o : Obj => keepC ha.cells.2 (bW0 w6 o); have b0 := fun o : Obj => keepC hb.cells.1 (bW0 w6 o); have b1 := fun o : Obj => keepC hb.cells.2 (bW0 w6 o); have and0 := fun o : Obj => keepC hand.cells.1 (bW0 w6 o); have and1 := fun o : Obj => keepC hand.cells.2 (bW0 w6 o); have or0 := fun o : Obj => keepC hor.cells.1 (bW0 w6 o); have or1 := fun o : Obj => keepC hor.cells.2 (bW0 w6 o); have na0 := fun o : Obj => keepC hna.cells.1 (bW0 w6 o); have na1 := fun o : Obj => keepC hna.cells.2 (bW0 w6 o); have nb0 := fun o : Obj => keepC hnb.cells.1 (bW0 w6 o); have nb1 := fun o : Obj => keepC hnb.cells.2 (bW0 w6 o)) | (go_at_call 10; with_reducible refine (d6' _ _).mono ?_; rintro e w7 ⟨rfl, hb7⟩; replace hB := (hB.alloc hB.size _).trans (hb7.mono (hB.alloc hB.size _).size); clear a0 a1 b0 b1 and0 and1 or0 or1 na0 na1 nb0 nb1; replace ha := (ha.alloc _).grow hb7; replace hb := (hb.alloc _).grow hb7; replace hand := (hand.alloc _).grow hb7; replace hor := (hor.alloc _).grow hb7; replace hna := (hna.alloc _).grow hb7; replace hnb := (hnb.alloc _).grow hb7; have hnand := (vlNew w6 C).grow hb7; have a0 := fun o : Obj => keepC ha.cells.1 (bW0 w7 o); have a1 := fun o : Obj => keepC ha.cells.2 (bW0 w7 o); have b0 := fun o : Obj => keepC hb.cells.1 (bW0 w7 o); have b1 := fun o : Obj => keepC hb.cells.2 (bW0 w7 o); have and0 := fun o : Obj => keepC hand.cells.1 (bW0 w7 o); have and1 := fun o : Obj => keepC hand.cells.2 (bW0 w7 o); have or0 := fun o : Obj => keepC hor.cells.1 (bW0 w7 o); have or1 := fun o : Obj => keepC hor.cells.2 (bW0 w7 o); have na0 := fun o : Obj => keepC hna.cells.1 (bW0 w7 o); have na1 := fun o : Obj => keepC hna.cells.2 (bW0 w7 o); have nb0 := fun o : Obj => keepC hnb.cells.1 (bW0 w7 o); have nb1 := fun o : Obj => keepC hnb.cells.2 (bW0 w7 o); have nand0 := fun o : Obj => keepC hnand.cells.1 (bW0 w7 o); have nand1 := fun o : Obj => keepC hnand.cells.2 (bW0 w7 o)) | (go_at_call 10; with_reducible refine (d7' _ _).mono ?_; rintro e w8 ⟨rfl, hb8⟩; replace hB := (hB.alloc hB.size _).trans (hb8.mono (hB.alloc hB.size _).size); clear a0 a1 b0 b1 and0 and1 or0 or1 na0 na1 nb0 nb1 nand0 nand1; replace ha := (ha.alloc _).grow hb8; replace hb := (hb.alloc _).grow hb8; replace hand := (hand.alloc _).grow hb8; replace hor := (hor.alloc _).grow hb8; replace hna := (hna.alloc _).grow hb8; replace hnb := (hnb.alloc _).grow hb8; replace hnand := (hnand.alloc _).grow hb8; have hnor := (vlNew w7 D).grow hb8; have a0 := fun o : Obj => keepC ha.cells.1 (bW0 w8 o); have a1 := fun o : Obj => keepC ha.cells.2 (bW0 w8 o); have b0 := fun o : Obj => keepC hb.cells.1 (bW0 w8 o); have b1 := fun o : Obj => keepC hb.cells.2 (bW0 w8 o); have and0 := fun o : Obj => keepC hand.cells.1 (bW0 w8 o); have and1 := fun o : Obj => keepC hand.cells.2 (bW0 w8 o); have or0 := fun o : Obj => keepC hor.cells.1 (bW0 w8 o); have or1 := fun o : Obj => keepC hor.cells.2 (bW0 w8 o); have na0 := fun o : Obj => keepC hna.cells.1 (bW0 w8 o); have na1 := fun o : Obj => keepC hna.cells.2 (bW0 w8 o); have nb0 := fun o : Obj => keepC hnb.cells.1 (bW0 w8 o); have nb1 := fun o : Obj => keepC hnb.cells.2 (bW0 w8 o); have nand0 := fun o : Obj => keepC hnand.cells.1 (bW0 w8 o); have nand1 := fun o : Obj => keepC hnand.cells.2 (bW0 w8 o); have nor0 := fun o : Obj => keepC hnor.cells.1 (bW0 w8 o); have nor1 := fun o : Obj => keepC hnor.cells.2 (bW0 w8 o)) | (go_at_call 10; with_reducible refine (d8' _ _).mono ?_; rintro e w9 ⟨rfl, hb9⟩; replace hB := (hB.alloc hB.size _).trans (hb9.mono (hB.alloc hB.size _).size); clear a0 a1 b0 b1 and0 and1 or0 or1 na0 na1 nb0 nb1 nand0 nand1 nor0 nor1; replace ha := (ha.alloc _).grow hb9; replace hb := (hb.alloc _).grow hb9; replace hand := (hand.alloc _).grow hb9; replace hor := (hor.alloc _).grow hb9; replace hna := (hna.alloc _).grow hb9; replace hnb := (hnb.alloc _).grow hb9; replace hnand := (hnand.alloc _).grow hb9; replace hnor := (hnor.alloc _).grow hb9; have hx := (vlNew w8 C).grow hb9; have a0 := fun o : Obj => keepC ha.cells.1 (bW0 w9 o); have a1 := fun o : Obj => keepC ha.cells.2 (bW0 w9 o); have b0 := fun o : Obj => keepC hb.cells.1 (bW0 w9 o); have b1 := fun o : Obj => keepC hb.cells.2 (bW0 w9 o); have and0 := fun o : Obj => keepC hand.cells.1 (bW0 w9 o); have and1 := fun o : Obj => keepC hand.cells.2 (bW0 w9 o); have or0 := fun o : Obj => keepC hor.cells.1 (bW0 w9 o); have or1 := fun o : Obj => keepC hor.cells.2 (bW0 w9 o); have na0 := fun o : Obj => keepC hna.cells.1 (bW0 w9 o); have na1 := fun o : Obj => keepC hna.cells.2 (bW0 w9 o); have nb0 := fun o : Obj => keepC hnb.cells.1 (bW0 w9 o); have nb1 := fun o : Obj => keepC hnb.cells.2 (bW0 w9 o); have nand0 := fun o : Obj => keepC hnand.cells.1 (bW0 w9 o); have nand1 := fun o : Obj => keepC hnand.cells.2 (bW0 w9 o); have nor0 := fun o : Obj => keepC hnor.cells.1 (bW0 w9 o); have nor1 := fun o : Obj => keepC hnor.cells.2 (bW0 w9 o); have x0 := fun o : Obj => keepC hx.cells.1 (bW0 w9 o); have x1 := fun o : Obj => keepC hx.cells.2 (bW0 w9 o)) | (go_at_call 10; with_reducible refine (d9' _ _).mono ?_; rintro e w10 ⟨rfl, hb10⟩; replace hB := (hB.alloc hB.size _).trans (hb10.mono (hB.alloc hB.size _).size); clear a0 a1 b0 b1 and0 and1 or0 or1 na0 na1 nb0 nb1 nand0 nand1 nor0 nor1 x0 x1; replace ha := (ha.alloc _).grow hb10; replace hb := (hb.alloc _).grow hb10; replace hand := (hand.alloc _).grow hb10; replace hor := (hor.alloc _).grow hb10; replace hna := (hna.alloc _).grow hb10; replace hnb := (hnb.alloc _).grow hb10; replace hnand := (hnand.alloc _).grow hb10; replace hnor := (hnor.alloc _).grow hb10; replace hx := (hx.alloc _).grow hb10; have hy := (vlNew w9 D).grow hb10; have a0 := fun o : Obj => keepC ha.cells.1 (bW0 w10 o); have a1 := fun o : Obj => keepC ha.cells.2 (bW0 w10 o); have b0 := fun o : Obj => keepC hb.cells.1 (bW0 w10 o); have b1 := fun o : Obj => keepC hb.cells.2 (bW0 w10 o); have and0 := fun o : Obj => keepC hand.cells.1 (bW0 w10 o); have and1 := fun o : Obj => keepC hand.cells.2 (bW0 w10 o); have or0 := fun o : Obj => keepC hor.cells.1 (bW0 w10 o); have or1 := fun o : Obj => keepC hor.cells.2 (bW0 w10 o); have na0 := fun o : Obj => keepC hna.cells.1 (bW0 w10 o); have na1 := fun o : Obj => keepC hna.cells.2 (bW0 w10 o); have nb0 := fun o : Obj => keepC hnb.cells.1 (bW0 w10 o); have nb1 := fun o : Obj => keepC hnb.cells.2 (bW0 w10 o); have nand0 := fun o : Obj => keepC hnand.cells.1 (bW0 w10 o); have nand1 := fun o : Obj => keepC hnand.cells.2 (bW0 w10 o); have nor0 := fun o : Obj => keepC hnor.cells.1 (bW0 w10 o); have nor1 := fun o : Obj => keepC hnor.cells.2 (bW0 w10 o); have x0 := fun o : Obj => keepC hx.cells.1 (bW0 w10 o); have x1 := fun o : Obj => keepC hx.cells.2 (bW0 w10 o); have y0 := fun o : Obj => keepC hy.cells.1 (bW0 w10 o); have y1 := fun o : Obj => keepC hy.cells.2 (bW0 w10 o)))
      have krr : VlAt (w10.alloc (.cells #[.int .i64 R.kind, .int .i64 R.n] 25)) w10.heap.size R := vlNew w10 R
      have ka := ha.alloc (.cells #[.int .i64 R.kind, .int .i64 R.n] 25)
      have knand := hnand.alloc (.cells #[.int .i64 R.kind, .int .i64 R.n] 25)
      have knor := hnor.alloc (.cells #[.int .i64 R.kind, .int .i64 R.n] 25)
      have kx := hx.alloc (.cells #[.int .i64 R.kind, .int .i64 R.n] 25)
      have ky := hy.alloc (.cells #[.int .i64 R.kind, .int .i64 R.n] 25)
      have hO2 := hO.trans ((hB.alloc hB.size (.cells #[.int .i64 R.kind, .int .i64 R.n] 25)).mono hO.size)
      clear a0 a1 b0 b1 and0 and1 or0 or1 na0 na1 nb0 nb1 nand0 nand1 nor0 nor1 x0 x1 y0 y1 hB d1 d2' d3' d4' d5' d6' d7' d8' d9'
      generalize w10.alloc (.cells #[.int .i64 R.kind, .int .i64 R.n] 25) = U at krr ka knand knor kx ky hO2 ⊢
      have hB : Below U.heap.size U U.drew := (Below.refl _ _).drew
      obtain ⟨a0, a1⟩ := (ka.grow hB).cells
      obtain ⟨nand0, nand1⟩ := (knand.grow hB).cells
      obtain ⟨nor0, nor1⟩ := (knor.grow hB).cells
      obtain ⟨x0, x1⟩ := (kx.grow hB).cells
      obtain ⟨y0, y1⟩ := (ky.grow hB).cells
      obtain ⟨rr0, rr1⟩ := (krr.grow hB).cells
      obtain rfl : R = tru T := hR.out
      have u : ∀ q v, U.drew.cell? q = some v → U.cell? q = some v := fun q v h => h
      replace a0 := u _ _ a0
      replace a1 := u _ _ a1
      replace nand0 := u _ _ nand0
      replace nand1 := u _ _ nand1
      replace nor0 := u _ _ nor0
      replace nor1 := u _ _ nor1
      replace x0 := u _ _ x0
      replace x1 := u _ _ x1
      replace y0 := u _ _ y0
      replace y1 := u _ _ y1
      replace rr0 := u _ _ rr0
      replace rr1 := u _ _ rr1
      clear u
      go_region_with (first | (go_at_call 13; with_reducible refine (htr _).mono ?_; rintro e wz ⟨rfl, hbz⟩; replace hB := hB.trans (hbz.mono hB.size); obtain ⟨a0, a1⟩ := (ka.grow hB).cells; obtain ⟨nand0, nand1⟩ := (knand.grow hB).cells; obtain ⟨nor0, nor1⟩ := (knor.grow hB).cells; obtain ⟨x0, x1⟩ := (kx.grow hB).cells; obtain ⟨y0, y1⟩ := (ky.grow hB).cells; obtain ⟨rr0, rr1⟩ := (krr.grow hB).cells) | (go_at_call 20; with_reducible refine (hth _).mono ?_; rintro e wz ⟨rfl, hbz⟩; replace hB := hB.trans (hbz.mono hB.size); obtain ⟨a0, a1⟩ := (ka.grow hB).cells; obtain ⟨nand0, nand1⟩ := (knand.grow hB).cells; obtain ⟨nor0, nor1⟩ := (knor.grow hB).cells; obtain ⟨x0, x1⟩ := (kx.grow hB).cells; obtain ⟨y0, y1⟩ := (ky.grow hB).cells; obtain ⟨rr0, rr1⟩ := (krr.grow hB).cells))
      all_goals
        go_wp2_with (first | (go_at_call 9; with_reducible refine (hlv _ (hO2.trans (hB.mono hO2.size))).mono ?_; rintro e wz ⟨rfl, hbz⟩; replace hB := hB.trans (hbz.mono hB.size); obtain ⟨a0, a1⟩ := (ka.grow hB).cells; obtain ⟨nand0, nand1⟩ := (knand.grow hB).cells; obtain ⟨nor0, nor1⟩ := (knor.grow hB).cells; obtain ⟨x0, x1⟩ := (kx.grow hB).cells; obtain ⟨y0, y1⟩ := (ky.grow hB).cells; obtain ⟨rr0, rr1⟩ := (krr.grow hB).cells))
        go_ret
        exact ⟨rfl, hO2.trans (hB.mono hO2.size)⟩
  · rw [hz] at hrc
    unfold vlV
    go_enter Tryz.func8, Tryz.ntmps8
    go_wp2_with (first | (go_at_call 17; refine hrc.mono ?_; rintro e w1 ⟨rfl, hb1⟩; replace hB := hB.trans (hb1.mono hB.size)) | (go_at_call 9; refine (hlv _ (hO.trans (hB.mono hO.size))).mono ?_; rintro e wz ⟨rfl, hbz⟩))
    go_ret
    exact ⟨rfl, (hO.trans (hB.mono hO.size)).trans (hbz.mono (hO.trans (hB.mono hO.size)).size)⟩
/-! ### THE ROW's STEP -/
set_option maxRecDepth 100000 in
theorem lifted (os : Os) (started : os.Started) (H : Type) (enc : TypeId × Value → H) :
    ReturnsInHanded {} Tryz.checked os 8 .any (fun w args => (Rows.valueTruthsSpec.pre enc Tryz.prog Tryz.f8 [] false w args ∧ laidMetH Tryz.prog laidV w) ∧ sizedMet enc Tryz.prog Tryz.f8 (OpenSpec.ofChange Rows.valueTruthsSpec) false w args)
      (Rows.valueTruthsSpec.post enc Tryz.prog Tryz.f8 false true false false) := by
  refine wrap (C := Tryz.checked) (X := fun w _ => laidMetH Tryz.prog laidV w) (fun _ _ _ hh h => h.of_heap hh) own started (by kernel_rfl) Tryz.func8
    (ChangeSpec.witness_shaped (enc := enc) (C := Tryz.checked) (os := os) (X := fun w _ => laidMetH Tryz.prog laidV w) false (World.laidAll Tryz.prog os laidV) #[.agg #[.int .i64 0, .int .i64 0], .agg #[.int .i64 0, .int .i64 0]] 8 (World.laidAll_os _ _ _)
      (World.shaped_of_ZipB (by kernel_rfl) (by kernel_rfl)) (by kernel_rfl) (by kernel_rfl) (by kernel_rfl) (laidV_ok os _)) ?_
  intro W base args ds gs before hval0 hW _ hsz0 hL hsh
  have hG := G_of hL hsh
  have hval : ∀ (j : Nat) t v, Tryz.f8.params[j]? = some t → args[j]? = some v → Value.okWide Tryz.prog W .any base t v := hval0
  have hW' := hW
  obtain ⟨p, q, hA0, hV, rfl, _, _⟩ := hW
  have hA : DataW.TrodAll enc Tryz.prog W 0 (fun _ => true) true Tryz.f8.params.toList args.toList ds p := hA0
  rw [Tryz.params8] at hA hval
  obtain ⟨v0, vs0, d0, ds0, p0, q0, hargs, rfl, rfl, h0, r0⟩ := trodAll_cons hA
  obtain ⟨v1, vs1, d1, ds1, p1, q1, rfl, rfl, rfl, h1, r1⟩ := trodAll_cons r0
  obtain ⟨rfl, rfl, rfl⟩ := trodAll_nil r1
  obtain rfl : args = #[v0, v1] := by cases args; simp_all
  obtain ⟨rfl, rfl⟩ := trodVars_none hV
  have k0 := h0
  have lt0 : ∀ x ∈ p0, x.block < W.heap.size := by obtain ⟨m, hm⟩ := k0; exact DataW.trod_lt m _ _ _ hm
  obtain ⟨u0, rfl⟩ := vl_arg (hval 0 25 v0 rfl rfl) h0
  have k1 := h1
  have lt1 : ∀ x ∈ p1, x.block < W.heap.size := by obtain ⟨m, hm⟩ := k1; exact DataW.trod_lt m _ _ _ hm
  obtain ⟨u1, rfl⟩ := vl_arg (hval 1 25 v1 rfl rfl) h1
  clear hA0 hval0 hL hsz0 hsh
  refine (walk u0 u1 W hG ).mono fun e W' ⟨he, bel⟩ => ?_
  subst he
  exact ⟨_, rfl, _, _, _, [], _, [], hW', trodAll_mk1 (shut_bool Tryz.underlying4 _), (trodAll_cons_mk (Below.trod laidOut (by kernel_rfl) (of_decide_eq_true (by kernel_rfl)) k0 bel lt0) (trodAll_cons_mk (Below.trod laidOut (by kernel_rfl) (of_decide_eq_true (by kernel_rfl)) k1 bel lt1) trodAll_mk0)), rfl, bel.frame _, fun h => by cases h⟩

theorem over : Rows.ValueTruthsSaid :=
  OpenClaim.holds_of_wide 8 Tryz.f8 rfl rfl rfl rfl rfl rfl rfl ⟨rfl, rfl, rfl, rfl, rfl⟩ rfl rfl rfl rfl rfl (by kernel_rfl) Tryz.func8 (by kernel_rfl)
    (of_decide_eq_true (by kernel_rfl)) (by unfold Func.isWrapper; first | (rw [if_pos (by decide +kernel)]; kernel_rfl) | (rw [if_neg (by decide +kernel)]; exact ⟨rfl, rfl⟩))
    (fun os started H enc _ => lifted os started H enc)
end Go.Proofs.YtfbiaffdfolbgaaGreatDoor.valueTruths
namespace Go.Proofs.YtfbiaffdfolbgaaGreatDoor
open Go
/-- The card. -/
theorem valueTruths_card : Rows.ValueTruthsCardSaid :=
  Claim7.holds_tied_plain_at .later [] [.data, .data, .data, .data, .sentinel, .sentinel, .pinned] true (true, "fa61cd251fadc37448c3489831ed32965a94f864c56d0be9077b6351e5f678b1") true valueTruths.over (fun _ h => by cases h) (by kernel_rfl) (fun _ h => by cases h) valueTruths_row_tie rfl ⟨rfl, rfl⟩ (by kernel_rfl) rfl
    (fun f fn hf hfn => by
      obtain rfl : f = 8 := Option.some.inj ((show Tryz.prog.funcNamed "klaxon/klaxonlaw08.ValueTruths" = some 8 by kernel_rfl).symm.trans hf) |>.symm
      obtain rfl : fn = Tryz.f8 := (Option.some.inj (Tryz.func8.symm.trans hfn)).symm
      exact ⟨by kernel_rfl, fun j t ht => by
        rw [Tryz.params8] at ht
        have hm : t ∈ [25, 25] := by simpa using Array.mem_of_getElem? ht
        have hall : ([25, 25].all fun u => !Tryz.prog.wantsStandIn u) = true := by kernel_rfl
        exact (show Tryz.prog.wantsStandIn t = false by simpa using List.all_eq_true.1 hall t hm)⟩)
    (by kernel_rfl)
#print axioms valueTruths_card
end Go.Proofs.YtfbiaffdfolbgaaGreatDoor
