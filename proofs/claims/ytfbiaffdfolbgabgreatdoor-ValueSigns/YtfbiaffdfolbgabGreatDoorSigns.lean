/- ValueSigns: turned round twice is the same; abs is not below 0; floor is at most the value and not 1000 less; times 1 and over 1 are the same. Conditions: none beyond the row's. -/
import Derived.Test.YtfbiaffdfolbgabGreatDoorGs
import Derived.Test.YtfbiaffdfolbgabGreatDoorTie
import Derived.Test.YtfbiaffdfolbgabGreatDoorCards
import Derived.SevenTiedAt
import Derived.OpenShut
namespace Go.Proofs.YtfbiaffdfolbgabGreatDoor.valueSigns
open Go.ChangeShapes Go.WideShapes Go.ChangeAt Go.RowKit Go.Maps Go.ChangeMaps Go.MapKept
set_option linter.unusedVariables false
attribute [local go_sem ↓] Go.wp_at_zero Go.wp_at_succ
set_option maxRecDepth 100000 in
set_option maxHeartbeats 60000000 in
theorem walk (a : Vl) (w : World) (hG : G w) : Calls Tryz.prog 3 #[vlV a] w fun e w' => e = .returned (.bool true) ∧ Below w.heap.size w w' := by
  have hlv : ∀ W, Below w.heap.size w W → Calls Tryz.prog 5 #[] W fun e w' => e = .returned (.bool true) ∧ Below W.heap.size W w' := fun W h => live_any W (hG.grow h)
  have ha : VlAt (w.alloc (.cells #[.int .i64 a.kind, .int .i64 a.n] 23)) w.heap.size a := vlNew w a
  have hO : Below w.heap.size w (w.alloc (.cells #[.int .i64 a.kind, .int .i64 a.n] 23)) := bW0 w _
  have hB : Below (w.alloc (.cells #[.int .i64 a.kind, .int .i64 a.n] 23)).heap.size (w.alloc (.cells #[.int .i64 a.kind, .int .i64 a.n] 23)) (w.alloc (.cells #[.int .i64 a.kind, .int .i64 a.n] 23)) := Below.refl _ _
  have hrc := rc1' a w (.cells #[.int .i64 a.kind, .int .i64 a.n] 23)
  clear hG
  rcases chk_in [a] with hz | hz
  · rw [hz] at hrc
    have hva := chk1 hz
    obtain ⟨M, eM⟩ : ∃ x, Hid (x = negV a) := ⟨_, rfl⟩
    obtain ⟨S, eS⟩ : ∃ x, Hid (x = absV a) := ⟨_, rfl⟩
    obtain ⟨F, eF⟩ : ∃ x, Hid (x = floorV a) := ⟨_, rfl⟩
    obtain ⟨K, eK⟩ : ∃ x, Hid (x = (⟨1, 1000⟩ : Vl)) := ⟨_, rfl⟩
    have hvM : IsV M := by rw [eM.out]; exact neg_isV hva
    have hvK : IsV K := by rw [eK.out]; have := num_isV 1000; rw [num_in (by omega) (by omega)] at this; exact this
    have hMa : Hid (negV M = a) := by rw [eM.out]; exact neg_neg hva
    have hmK : Hid (mulV a K = a) := by rw [eK.out]; exact mul_1000 hva
    have hdK : Hid (divV a K = a) := by rw [eK.out]; exact div_1000 hva
    have d1 : ∀ W : World, Calls Tryz.prog 6 #[.string ⟨#[45]⟩, .slice (some ⟨W.heap.size, 0, none⟩) 1 1] (W.alloc (.cells #[.int .i64 a.kind, .int .i64 a.n] 23)) fun e w' => e = .returned (.tuple #[.agg #[.int .i64 M.kind, .int .i64 M.n], .int .i64 0]) ∧ Below W.heap.size W w' := fun W => by
      have h := do1 ⟨#[45]⟩ a W
      rw [(do_neg hva).1, (do_neg hva).2, ← eM.out] at h
      exact h
    have d1' : ∀ (W : World) (o : Obj), Calls Tryz.prog 6 #[.string ⟨#[45]⟩, .slice (some ⟨W.heap.size + 1, 0, none⟩) 1 1] ((W.alloc o).alloc (.cells #[.int .i64 a.kind, .int .i64 a.n] 23)) fun e w' => e = .returned (.tuple #[.agg #[.int .i64 M.kind, .int .i64 M.n], .int .i64 0]) ∧ Below (W.alloc o).heap.size (W.alloc o) w' := fun W o => by
      have hsz : (W.alloc o).heap.size = W.heap.size + 1 := World.size_alloc W o
      have h := d1 (W.alloc o)
      rw [hsz] at h ⊢
      exact h
    have d2 : ∀ W : World, Calls Tryz.prog 6 #[.string ⟨#[45]⟩, .slice (some ⟨W.heap.size, 0, none⟩) 1 1] (W.alloc (.cells #[.int .i64 M.kind, .int .i64 M.n] 23)) fun e w' => e = .returned (.tuple #[.agg #[.int .i64 a.kind, .int .i64 a.n], .int .i64 0]) ∧ Below W.heap.size W w' := fun W => by
      have h := do1 ⟨#[45]⟩ M W
      rw [(do_neg hvM).1, (do_neg hvM).2, hMa.out] at h
      exact h
    have d2' : ∀ (W : World) (o : Obj), Calls Tryz.prog 6 #[.string ⟨#[45]⟩, .slice (some ⟨W.heap.size + 1, 0, none⟩) 1 1] ((W.alloc o).alloc (.cells #[.int .i64 M.kind, .int .i64 M.n] 23)) fun e w' => e = .returned (.tuple #[.agg #[.int .i64 a.kind, .int .i64 a.n], .int .i64 0]) ∧ Below (W.alloc o).heap.size (W.alloc o) w' := fun W o => by
      have hsz : (W.alloc o).heap.size = W.heap.size + 1 := World.size_alloc W o
      have h := d2 (W.alloc o)
      rw [hsz] at h ⊢
      exact h
    have d3 : ∀ W : World, Calls Tryz.prog 6 #[.string ⟨#[97, 98, 115]⟩, .slice (some ⟨W.heap.size, 0, none⟩) 1 1] (W.alloc (.cells #[.int .i64 a.kind, .int .i64 a.n] 23)) fun e w' => e = .returned (.tuple #[.agg #[.int .i64 S.kind, .int .i64 S.n], .int .i64 0]) ∧ Below W.heap.size W w' := fun W => by
      have h := do1 ⟨#[97, 98, 115]⟩ a W
      rw [(do_abs hva).1, (do_abs hva).2, ← eS.out] at h
      exact h
    have d3' : ∀ (W : World) (o : Obj), Calls Tryz.prog 6 #[.string ⟨#[97, 98, 115]⟩, .slice (some ⟨W.heap.size + 1, 0, none⟩) 1 1] ((W.alloc o).alloc (.cells #[.int .i64 a.kind, .int .i64 a.n] 23)) fun e w' => e = .returned (.tuple #[.agg #[.int .i64 S.kind, .int .i64 S.n], .int .i64 0]) ∧ Below (W.alloc o).heap.size (W.alloc o) w' := fun W o => by
      have hsz : (W.alloc o).heap.size = W.heap.size + 1 := World.size_alloc W o
      have h := d3 (W.alloc o)
      rw [hsz] at h ⊢
      exact h
    have d4 : ∀ W : World, Calls Tryz.prog 6 #[.string ⟨#[102, 108, 111, 111, 114]⟩, .slice (some ⟨W.heap.size, 0, none⟩) 1 1] (W.alloc (.cells #[.int .i64 a.kind, .int .i64 a.n] 23)) fun e w' => e = .returned (.tuple #[.agg #[.int .i64 F.kind, .int .i64 F.n], .int .i64 0]) ∧ Below W.heap.size W w' := fun W => by
      have h := do1 ⟨#[102, 108, 111, 111, 114]⟩ a W
      rw [(do_floor hva).1, (do_floor hva).2, ← eF.out] at h
      exact h
    have d4' : ∀ (W : World) (o : Obj), Calls Tryz.prog 6 #[.string ⟨#[102, 108, 111, 111, 114]⟩, .slice (some ⟨W.heap.size + 1, 0, none⟩) 1 1] ((W.alloc o).alloc (.cells #[.int .i64 a.kind, .int .i64 a.n] 23)) fun e w' => e = .returned (.tuple #[.agg #[.int .i64 F.kind, .int .i64 F.n], .int .i64 0]) ∧ Below (W.alloc o).heap.size (W.alloc o) w' := fun W o => by
      have hsz : (W.alloc o).heap.size = W.heap.size + 1 := World.size_alloc W o
      have h := d4 (W.alloc o)
      rw [hsz] at h ⊢
      exact h
    have d5 : ∀ u W, Row2 a K u W → Calls Tryz.prog 6 #[.string ⟨#[42]⟩, u] W fun e w' => e = .returned (.tuple #[.agg #[.int .i64 a.kind, .int .i64 a.n], .int .i64 0]) ∧ Below W.heap.size W w' := fun u W h => by
      have h := do_any ⟨#[42]⟩ u [a, K] W h.vls (by simp)
      rw [(do_mul hva hvK).1, (do_mul hva hvK).2, hmK.out] at h
      exact h
    have d6 : ∀ u W, Row2 a K u W → Calls Tryz.prog 6 #[.string ⟨#[47]⟩, u] W fun e w' => e = .returned (.tuple #[.agg #[.int .i64 a.kind, .int .i64 a.n], .int .i64 0]) ∧ Below W.heap.size W w' := fun u W h => by
      have h := do_any ⟨#[47]⟩ u [a, K] W h.vls (by simp)
      rw [(do_div hva hvK).1, (do_div hva hvK).2, hdK.out] at h
      exact h
    have h7 : ∀ W, Calls Tryz.prog 7 #[.int .i64 1000] W fun e w' => e = .returned (.agg #[.int .i64 K.kind, .int .i64 K.n]) ∧ Below W.heap.size W w' := fun W => by
      have h := rnum_any 1000 W
      rw [num_in (by omega) (by omega), ← eK.out] at h
      exact h
    have hend : Hid _ := ends hva eM.out eS.out eF.out
    clear eM eS eF eK hz hva hvM hvK hMa hmK hdK d2 d3 d4 d1'
    unfold vlV
    go_enter Tryz.func3, Tryz.ntmps3
    go_wp2_with (first | (go_at_call 4; refine (hrc).mono ?_; rintro e w1 ⟨rfl, hb1⟩; replace hB := hB.trans (hb1.mono hB.size); replace ha := ha.grow hb1; obtain ⟨a0, a1⟩ := ha.cells) | (go_at_call 6; with_reducible refine (d1 _).mono ?_; rintro e w2 ⟨rfl, hb2⟩; replace hB := hB.trans (hb2.mono hB.size); clear a0 a1; replace ha := ha.grow hb2; have a0 := fun o : Obj => keepC ha.cells.1 (bW0 w2 o); have a1 := fun o : Obj => keepC ha.cells.2 (bW0 w2 o)) | (go_at_call 6; with_reducible refine (d2' _ _).mono ?_; rintro e w3 ⟨rfl, hb3⟩; replace hB := (hB.alloc hB.size _).trans (hb3.mono (hB.alloc hB.size _).size); clear a0 a1; replace ha := (ha.alloc _).grow hb3; have hn := (vlNew w2 M).grow hb3; have a0 := fun o : Obj => keepC ha.cells.1 (bW0 w3 o); have a1 := fun o : Obj => keepC ha.cells.2 (bW0 w3 o); have n0 := fun o : Obj => keepC hn.cells.1 (bW0 w3 o); have n1 := fun o : Obj => keepC hn.cells.2 (bW0 w3 o)) | (go_at_call 6; with_reducible refine (d3' _ _).mono ?_; rintro e w4 ⟨rfl, hb4⟩; replace hB := (hB.alloc hB.size _).trans (hb4.mono (hB.alloc hB.size _).size); clear a0 a1 n0 n1; replace ha := (ha.alloc _).grow hb4; replace hn := (hn.alloc _).grow hb4; have hm := (vlNew w3 a).grow hb4; have a0 := fun o : Obj => keepC ha.cells.1 (bW0 w4 o); have a1 := fun o : Obj => keepC ha.cells.2 (bW0 w4 o); have n0 := fun o : Obj => keepC hn.cells.1 (bW0 w4 o); have n1 := fun o : Obj => keepC hn.cells.2 (bW0 w4 o); have m0 := fun o : Obj => keepC hm.cells.1 (bW0 w4 o); have m1 := fun o : Obj => keepC hm.cells.2 (bW0 w4 o)) | (go_at_call 6; with_reducible refine (d4' _ _).mono ?_; rintro e w5 ⟨rfl, hb5⟩; replace hB := (hB.alloc hB.size _).trans (hb5.mono (hB.alloc hB.size _).size); clear a0 a1 n0 n1 m0 m1; replace ha := (ha.alloc _).grow hb5; replace hn := (hn.alloc _).grow hb5; replace hm := (hm.alloc _).grow hb5; have hs := (vlNew w4 S).grow hb5; have a0 := fun o : Obj => keepC ha.cells.1 (bW0 w5 o); have a1 := fun o : Obj => keepC ha.cells.2 (bW0 w5 o); have n0 := fun o : Obj => keepC hn.cells.1 (bW0 w5 o); have n1 := fun o : Obj => keepC hn.cells.2 (bW0 w5 o); have m0 := fun o : Obj => keepC hm.cells.1 (bW0 w5 o); have m1 := fun o : Obj => keepC hm.cells.2 (bW0 w5 o); have s0 := fun o : Obj => keepC hs.cells.1 (bW0 w5 o); have s1 := fun o : Obj => keepC hs.cells.2 (bW0 w5 o)))
    have ka := ha.alloc (.cells #[.int .i64 F.kind, .int .i64 F.n] 23)
    have kn := hn.alloc (.cells #[.int .i64 F.kind, .int .i64 F.n] 23)
    have km := hm.alloc (.cells #[.int .i64 F.kind, .int .i64 F.n] 23)
    have ks := hs.alloc (.cells #[.int .i64 F.kind, .int .i64 F.n] 23)
    have kf : VlAt (w5.alloc (.cells #[.int .i64 F.kind, .int .i64 F.n] 23)) w5.heap.size F := vlNew w5 F
    have hO2 := hO.trans ((hB.alloc hB.size (.cells #[.int .i64 F.kind, .int .i64 F.n] 23)).mono hO.size)
    clear a0 a1 n0 n1 m0 m1 s0 s1
    clear hB d1 d2' d3' d4'
    generalize w5.alloc (.cells #[.int .i64 F.kind, .int .i64 F.n] 23) = U at ka kn km ks kf hO2 ⊢
    generalize w5.heap.size = bf at kf ⊢
    refine wp_region_grow (growS U.heap.size a) (growS_of (Nat.le_refl _) (Below.refl _ _).drew) (fun i => match i with | 1 => some (fun _ u _ => u = .agg #[.int .i64 K.kind, .int .i64 K.n]) | 2 => some (fun _ u W => Row2 a K u W) | 3 => some (fun _ u _ => u = .tuple #[.agg #[.int .i64 a.kind, .int .i64 a.n], .int .i64 0]) | 7 => some (fun _ u W => BoxS U.heap.size a u W) | 8 => some (fun vs _ W => DoneS U.heap.size a vs W) | _ => none) ?_ (by kernel_rfl) (by kernel_rfl) ?_
    · intro i s hs vs v W W' h g
      dsimp only at hs; split at hs <;> cases hs <;> first | exact h | exact Row2.keep h g | exact BoxS.keep h g | exact DoneS.keep h g
    have pa0 : ∀ p : Out (growS U.heap.size a) U, p.W.cell? ⟨w.heap.size, 0, none⟩ = some (.int .i64 a.kind) := fun p => (ka.grow p.h.1).cells.1
    have pa1 : ∀ p : Out (growS U.heap.size a) U, p.W.cell? ⟨w.heap.size, 1, none⟩ = some (.int .i64 a.n) := fun p => (ka.grow p.h.1).cells.2
    refine wpG_pure rfl rfl rfl rfl ?_; intro KK hK; go_big_quiet_op; go_big_quiet_on
    refine wpG_call (.agg #[.int .i64 K.kind, .int .i64 K.n]) rfl rfl rfl (fun W hW => ?_) ?_
    · refine tell_fn #[.int .i64 1000] rfl (by simp [Act.eval]) Tryz.func7 (by kernel_rfl) (by kernel_rfl) ?_
      refine (h7 W).mono ?_
      rintro e w' ⟨h1, h2⟩
      exact ⟨_, h1, growS_of (growS_size (Nat.le_refl _) hW.1.gw) h2, rfl⟩
    intro KK hK; go_big_quiet_op; go_big_quiet_on
    refine wpG_tell _ rfl rfl rfl rfl (fun W hW => ?_) ?_
    · exact tell_run (.slice (some ⟨W.heap.size, 0, none⟩) 2 2) (W.alloc (.cells #[.int .i64 a.kind, .int .i64 a.n, .int .i64 K.kind, .int .i64 K.n] 23)) (by go_simp) (growS_of (growS_size (Nat.le_refl _) hW.1.gw) ((Below.refl _ _).alloc (Nat.le_refl _) _)) (row2_new W a K)
    intro x2 hx2 KK hK; go_big_quiet_op; go_big_quiet_on
    refine wpG_call (.tuple #[.agg #[.int .i64 a.kind, .int .i64 a.n], .int .i64 0]) rfl rfl rfl (fun W hW => ?_) ?_
    · refine tell_fn #[.string ⟨#[42]⟩, x2] rfl (by simp [Act.eval]) Tryz.func6 (by kernel_rfl) (by kernel_rfl) ?_
      refine (d5 x2 W ((hW.2 2 _ rfl (by kernel_rfl)).2 rfl)).mono ?_
      rintro e w' ⟨h1, h2⟩
      exact ⟨_, h1, growS_of (growS_size (Nat.le_refl _) hW.1.gw) h2, rfl⟩
    intro KK hK; go_big_quiet_op; go_big_quiet_on
    refine wpG_pure rfl rfl rfl rfl ?_; intro KK hK; go_big_quiet_op; go_big_quiet_on
    refine wpG_pure rfl rfl rfl rfl ?_; intro KK hK; go_big_quiet_op; go_big_quiet_on
    refine wpG_pure rfl rfl rfl rfl ?_; intro KK hK; go_big_quiet_op; go_big_quiet_on
    refine wpG_tell _ rfl rfl rfl rfl (fun W hW => ?_) ?_
    · exact tell_run (.pointer (some ⟨W.heap.size, 0, none⟩)) (W.alloc (.cells #[.int .i64 0, .int .i64 0] 23)) (by go_simp) (growS_of (growS_size (Nat.le_refl _) hW.1.gw) ((Below.refl _ _).alloc (Nat.le_refl _) _)) (box_new W (growS_size (Nat.le_refl _) hW.1.gw) a)
    intro x7 hx7 KK hK; go_big_quiet_op; go_big_quiet_on
    refine wpG_tell #[x7, .agg #[.int .i64 a.kind, .int .i64 a.n]] rfl rfl rfl (by simp [Op.operands, Act.eval]) (fun W hW => ?_) ?_
    · obtain ⟨y, hy, rfl, hv⟩ := (hW.2 7 _ rfl (by kernel_rfl)).2 rfl
      refine tell_skip ((W.setCell ⟨y, 0, none⟩ (.int .i64 a.kind)).setCell ⟨y, 1, none⟩ (.int .i64 a.n)) ?_ (store_R hy hv) (store_done _ hy rfl hv)
      rcases hv with hv | hv
      · obtain ⟨v0, v1⟩ := hv.cells
        obtain ⟨v2, v3⟩ := hv.frozen
        go_simp
      · obtain ⟨v0, v1⟩ := hv.cells
        obtain ⟨v2, v3⟩ := hv.frozen
        go_simp
    intro x8 hx8 KK hK; go_big_quiet_op; go_big_quiet_on
    refine wpG_pure rfl rfl rfl rfl ?_; intro KK hK; go_big_quiet_op; go_big_quiet_on
    refine wpG_nil ?_
    intro U1 hW hF
    obtain ⟨bt, hbt, he, kt⟩ := (hF 8).2 rfl
    have he := Option.some.inj he
    subst he
    have hb2 : Below U.heap.size U U1 := hW.gw.1
    replace ka := ka.grow hb2
    replace kn := kn.grow hb2
    replace km := km.grow hb2
    replace ks := ks.grow hb2
    replace kf := kf.grow hb2
    replace hO2 := hO2.trans (hb2.mono hO2.size)
    clear hF hW hb2 hbt hx2 hx7 hx8 pa0 pa1
    go_wp2
    refine wp_region_grow (growS U1.heap.size a) (growS_of (Nat.le_refl _) (Below.refl _ _).drew) (fun i => match i with | 1 => some (fun _ u _ => u = .agg #[.int .i64 K.kind, .int .i64 K.n]) | 2 => some (fun _ u W => Row2 a K u W) | 3 => some (fun _ u _ => u = .tuple #[.agg #[.int .i64 a.kind, .int .i64 a.n], .int .i64 0]) | 7 => some (fun _ u W => BoxS U1.heap.size a u W) | 8 => some (fun vs _ W => DoneS U1.heap.size a vs W) | _ => none) ?_ (by kernel_rfl) (by kernel_rfl) ?_
    · intro i s hs vs v W W' h g
      dsimp only at hs; split at hs <;> cases hs <;> first | exact h | exact Row2.keep h g | exact BoxS.keep h g | exact DoneS.keep h g
    have pa0 : ∀ p : Out (growS U1.heap.size a) U1, p.W.cell? ⟨w.heap.size, 0, none⟩ = some (.int .i64 a.kind) := fun p => (ka.grow p.h.1).cells.1
    have pa1 : ∀ p : Out (growS U1.heap.size a) U1, p.W.cell? ⟨w.heap.size, 1, none⟩ = some (.int .i64 a.n) := fun p => (ka.grow p.h.1).cells.2
    refine wpG_pure rfl rfl rfl rfl ?_; intro KK hK; go_big_quiet_op; go_big_quiet_on
    refine wpG_call (.agg #[.int .i64 K.kind, .int .i64 K.n]) rfl rfl rfl (fun W hW => ?_) ?_
    · refine tell_fn #[.int .i64 1000] rfl (by simp [Act.eval]) Tryz.func7 (by kernel_rfl) (by kernel_rfl) ?_
      refine (h7 W).mono ?_
      rintro e w' ⟨h1, h2⟩
      exact ⟨_, h1, growS_of (growS_size (Nat.le_refl _) hW.1.gw) h2, rfl⟩
    intro KK hK; go_big_quiet_op; go_big_quiet_on
    refine wpG_tell _ rfl rfl rfl rfl (fun W hW => ?_) ?_
    · exact tell_run (.slice (some ⟨W.heap.size, 0, none⟩) 2 2) (W.alloc (.cells #[.int .i64 a.kind, .int .i64 a.n, .int .i64 K.kind, .int .i64 K.n] 23)) (by go_simp) (growS_of (growS_size (Nat.le_refl _) hW.1.gw) ((Below.refl _ _).alloc (Nat.le_refl _) _)) (row2_new W a K)
    intro x2 hx2 KK hK; go_big_quiet_op; go_big_quiet_on
    refine wpG_call (.tuple #[.agg #[.int .i64 a.kind, .int .i64 a.n], .int .i64 0]) rfl rfl rfl (fun W hW => ?_) ?_
    · refine tell_fn #[.string ⟨#[47]⟩, x2] rfl (by simp [Act.eval]) Tryz.func6 (by kernel_rfl) (by kernel_rfl) ?_
      refine (d6 x2 W ((hW.2 2 _ rfl (by kernel_rfl)).2 rfl)).mono ?_
      rintro e w' ⟨h1, h2⟩
      exact ⟨_, h1, growS_of (growS_size (Nat.le_refl _) hW.1.gw) h2, rfl⟩
    intro KK hK; go_big_quiet_op; go_big_quiet_on
    refine wpG_pure rfl rfl rfl rfl ?_; intro KK hK; go_big_quiet_op; go_big_quiet_on
    refine wpG_pure rfl rfl rfl rfl ?_; intro KK hK; go_big_quiet_op; go_big_quiet_on
    refine wpG_pure rfl rfl rfl rfl ?_; intro KK hK; go_big_quiet_op; go_big_quiet_on
    refine wpG_tell _ rfl rfl rfl rfl (fun W hW => ?_) ?_
    · exact tell_run (.pointer (some ⟨W.heap.size, 0, none⟩)) (W.alloc (.cells #[.int .i64 0, .int .i64 0] 23)) (by go_simp) (growS_of (growS_size (Nat.le_refl _) hW.1.gw) ((Below.refl _ _).alloc (Nat.le_refl _) _)) (box_new W (growS_size (Nat.le_refl _) hW.1.gw) a)
    intro x7 hx7 KK hK; go_big_quiet_op; go_big_quiet_on
    refine wpG_tell #[x7, .agg #[.int .i64 a.kind, .int .i64 a.n]] rfl rfl rfl (by simp [Op.operands, Act.eval]) (fun W hW => ?_) ?_
    · obtain ⟨y, hy, rfl, hv⟩ := (hW.2 7 _ rfl (by kernel_rfl)).2 rfl
      refine tell_skip ((W.setCell ⟨y, 0, none⟩ (.int .i64 a.kind)).setCell ⟨y, 1, none⟩ (.int .i64 a.n)) ?_ (store_R hy hv) (store_done _ hy rfl hv)
      rcases hv with hv | hv
      · obtain ⟨v0, v1⟩ := hv.cells
        obtain ⟨v2, v3⟩ := hv.frozen
        go_simp
      · obtain ⟨v0, v1⟩ := hv.cells
        obtain ⟨v2, v3⟩ := hv.frozen
        go_simp
    intro x8 hx8 KK hK; go_big_quiet_op; go_big_quiet_on
    refine wpG_pure rfl rfl rfl rfl ?_; intro KK hK; go_big_quiet_op; go_big_quiet_on
    refine wpG_nil ?_
    intro U2 hW hF
    obtain ⟨bq, hbt, he, kq⟩ := (hF 8).2 rfl
    have he := Option.some.inj he
    subst he
    have hb2 : Below U1.heap.size U1 U2 := hW.gw.1
    replace ka := ka.grow hb2
    replace kn := kn.grow hb2
    replace km := km.grow hb2
    replace ks := ks.grow hb2
    replace kf := kf.grow hb2
    replace kt := kt.grow hb2
    replace hO2 := hO2.trans (hb2.mono hO2.size)
    clear hF hW hb2 hbt hx2 hx7 hx8 pa0 pa1
    clear d5 d6 h7
    obtain ⟨a0, a1⟩ := ka.cells
    obtain ⟨n0, n1⟩ := kn.cells
    obtain ⟨m0, m1⟩ := km.cells
    obtain ⟨s0, s1⟩ := ks.cells
    obtain ⟨f0, f1⟩ := kf.cells
    obtain ⟨t0, t1⟩ := kt.cells
    obtain ⟨q0, q1⟩ := kq.cells
    rcases hend.out with ⟨g1, ⟨g2, g3, g4, g5⟩, hS⟩ | ⟨g1, g0, hS⟩
    · clear hend
      rcases hS with ⟨g0, g6⟩ | ⟨g0, g6, g7, g8⟩
      · subst g0
        go_wp2_with (first | (go_at_call 5; with_reducible refine (hlv _ hO2).mono ?_; rintro e wy ⟨rfl, hby⟩))
        go_ret
        exact ⟨rfl, hO2.trans (hby.mono hO2.size)⟩
      · subst g0
        go_wp2_with (first | (go_at_call 5; with_reducible refine (hlv _ hO2).mono ?_; rintro e wy ⟨rfl, hby⟩))
        go_ret
        exact ⟨rfl, hO2.trans (hby.mono hO2.size)⟩
    · clear hend
      subst g0
      rcases hS with g6 | ⟨g6, g7, g8⟩
      · subst g6
        go_wp2
        refine wp_region_quiet_below (by kernel_rfl) (by kernel_rfl) ?_
        have pa0 := fun (p : Regrown) => cell_regrown a0 p.d p.os
        have pa1 := fun (p : Regrown) => cell_regrown a1 p.d p.os
        have ps0 := fun (p : Regrown) => cell_regrown s0 p.d p.os
        have ps1 := fun (p : Regrown) => cell_regrown s1 p.d p.os
        have pf0 := fun (p : Regrown) => cell_regrown f0 p.d p.os
        have pf1 := fun (p : Regrown) => cell_regrown f1 p.d p.os
        have hl2 := fun (p : Regrown) => hlv _ (hO2.trans ((below_regrown U2 p.d p.os).mono hO2.size))
        repeat (go_big_quiet_step (exact Calls.regrown_of (hl2 _)))
        refine wpQuiet_nil ?_
        rintro W ⟨p, rfl⟩
        go_wp2
        go_ret
        exact ⟨rfl, hO2.trans ((below_regrown U2 p.d p.os).mono hO2.size)⟩
      · subst g6
        subst g7
        unfold mns pls at *
        have r8 : ∀ W, Calls Tryz.prog 8 #[] W fun e w' => e = .returned (.agg #[.int .i64 5, .int .i64 0]) ∧ Below W.heap.size W w' := fun W => rminus_b W
        have r9 : ∀ W, Calls Tryz.prog 9 #[] W fun e w' => e = .returned (.agg #[.int .i64 4, .int .i64 0]) ∧ Below W.heap.size W w' := fun W => rplus_b W
        go_wp2
        refine wp_region_grow growB ((Below.refl _ _).drew) (fun i => match i with | 9 => some (fun _ u _ => u = .agg #[.int .i64 5, .int .i64 0]) | 13 => some (fun _ u _ => u = .agg #[.int .i64 4, .int .i64 0]) | 19 => some (fun _ u _ => u = .bool true) | _ => none) ?_ (by kernel_rfl) (by kernel_rfl) ?_
        · intro i s hs vs v W W' h g
          dsimp only at hs; split at hs <;> cases hs <;> exact h
        have pa0 := fun p : Out growB U2 => (ka.grow p.h).cells.1
        have pa1 := fun p : Out growB U2 => (ka.grow p.h).cells.2
        have ps0 := fun p : Out growB U2 => (ks.grow p.h).cells.1
        have ps1 := fun p : Out growB U2 => (ks.grow p.h).cells.2
        have pf0 := fun p : Out growB U2 => (kf.grow p.h).cells.1
        have pf1 := fun p : Out growB U2 => (kf.grow p.h).cells.2
        refine wpG_pure rfl rfl rfl rfl ?_; intro KK hK; go_big_quiet_op; go_big_quiet_on
        refine wpG_pure rfl rfl rfl rfl ?_; intro KK hK; go_big_quiet_op; go_big_quiet_on
        refine wpG_pure rfl rfl rfl rfl ?_; intro KK hK; go_big_quiet_op; go_big_quiet_on
        refine wpG_pure rfl rfl rfl rfl ?_; intro KK hK; go_big_quiet_op; go_big_quiet_on
        refine wpG_pure rfl rfl rfl rfl ?_; intro KK hK; go_big_quiet_op; go_big_quiet_on
        refine wpG_pure rfl rfl rfl rfl ?_; intro KK hK; go_big_quiet_op; go_big_quiet_on
        refine wpG_pure rfl rfl rfl rfl ?_; intro KK hK; go_big_quiet_op; go_big_quiet_on
        refine wpG_pure rfl rfl rfl rfl ?_; intro KK hK; go_big_quiet_op; go_big_quiet_on
        refine wpG_pure rfl rfl rfl rfl ?_; intro KK hK; go_big_quiet_op; go_big_quiet_on
        refine wpG_call (.agg #[.int .i64 5, .int .i64 0]) rfl rfl rfl (fun W hW => ?_) ?_
        · refine tell_fn #[] rfl (by simp) Tryz.func8 (by kernel_rfl) (by kernel_rfl) ?_
          refine (r8 W).mono ?_
          rintro e w' ⟨h1, h2⟩
          exact ⟨_, h1, h2, rfl⟩
        intro KK hK; go_big_quiet_op; go_big_quiet_on
        refine wpG_pure rfl rfl rfl rfl ?_; intro KK hK; go_big_quiet_op; go_big_quiet_on
        refine wpG_pure rfl rfl rfl rfl ?_; intro KK hK; go_big_quiet_op; go_big_quiet_on
        refine wpG_pure rfl rfl rfl rfl ?_; intro KK hK; go_big_quiet_op; go_big_quiet_on
        refine wpG_call (.agg #[.int .i64 4, .int .i64 0]) rfl rfl rfl (fun W hW => ?_) ?_
        · refine tell_fn #[] rfl (by simp) Tryz.func9 (by kernel_rfl) (by kernel_rfl) ?_
          refine (r9 W).mono ?_
          rintro e w' ⟨h1, h2⟩
          exact ⟨_, h1, h2, rfl⟩
        intro KK hK; go_big_quiet_op; go_big_quiet_on
        refine wpG_pure rfl rfl rfl rfl ?_; intro KK hK; go_big_quiet_op; go_big_quiet_on
        refine wpG_pure rfl rfl rfl rfl ?_; intro KK hK; go_big_quiet_op; go_big_quiet_on
        refine wpG_pure rfl rfl rfl rfl ?_; intro KK hK; go_big_quiet_op; go_big_quiet_on
        refine wpG_pure rfl rfl rfl rfl ?_; intro KK hK; go_big_quiet_op; go_big_quiet_on
        refine wpG_pure rfl rfl rfl rfl ?_; intro KK hK; go_big_quiet_op; go_big_quiet_on
        refine wpG_call (.bool true) rfl rfl rfl (fun W hW => ?_) ?_
        · refine tell_fn #[] rfl (by simp) Tryz.func5 (by kernel_rfl) (by kernel_rfl) ?_
          refine (hlv W (hO2.trans (hW.1.gw.mono hO2.size))).mono ?_
          rintro e w' ⟨h1, h2⟩
          exact ⟨_, h1, h2, rfl⟩
        intro KK hK; go_big_quiet_op; go_big_quiet_on
        refine wpG_pure rfl rfl rfl rfl ?_; intro KK hK; go_big_quiet_op; go_big_quiet_on
        refine wpG_pure rfl rfl rfl rfl ?_; intro KK hK; go_big_quiet_op; go_big_quiet_on
        refine wpG_nil ?_
        intro W hW _
        go_wp2
        go_ret
        exact ⟨rfl, hO2.trans (hW.gw.mono hO2.size)⟩
  · rw [hz] at hrc
    unfold vlV
    go_enter Tryz.func3, Tryz.ntmps3
    go_wp2_with (first | (go_at_call 4; refine hrc.mono ?_; rintro e w1 ⟨rfl, hb1⟩; replace hB := hB.trans (hb1.mono hB.size)) | (go_at_call 5; refine (hlv _ (hO.trans (hB.mono hO.size))).mono ?_; rintro e wz ⟨rfl, hbz⟩))
    go_ret
    exact ⟨rfl, (hO.trans (hB.mono hO.size)).trans (hbz.mono (hO.trans (hB.mono hO.size)).size)⟩
/-! ### THE ROW's STEP -/
set_option maxRecDepth 100000 in
theorem lifted (os : Os) (started : os.Started) (H : Type) (enc : TypeId × Value → H) :
    ReturnsInHanded {} Tryz.checked os 3 .any (fun w args => (Rows.valueSignsSpec.pre enc Tryz.prog Tryz.f3 [] false w args ∧ laidMetH Tryz.prog laidV w) ∧ sizedMet enc Tryz.prog Tryz.f3 (OpenSpec.ofChange Rows.valueSignsSpec) false w args)
      (Rows.valueSignsSpec.post enc Tryz.prog Tryz.f3 false true false false) := by
  refine wrap (C := Tryz.checked) (X := fun w _ => laidMetH Tryz.prog laidV w) (fun _ _ _ hh h => h.of_heap hh) own started (by kernel_rfl) Tryz.func3
    (ChangeSpec.witness_shaped (enc := enc) (C := Tryz.checked) (os := os) (X := fun w _ => laidMetH Tryz.prog laidV w) false (World.laidAll Tryz.prog os laidV) #[.agg #[.int .i64 0, .int .i64 0]] 8 (World.laidAll_os _ _ _)
      (World.shaped_of_ZipB (by kernel_rfl) (by kernel_rfl)) (by kernel_rfl) (by kernel_rfl) (by kernel_rfl) (laidV_ok os _)) ?_
  intro W base args ds gs before hval0 hW _ hsz0 hL hsh
  have hG := G_of hL hsh
  have hval : ∀ (j : Nat) t v, Tryz.f3.params[j]? = some t → args[j]? = some v → Value.okWide Tryz.prog W .any base t v := hval0
  have hW' := hW
  obtain ⟨p, q, hA0, hV, rfl, _, _⟩ := hW
  have hA : DataW.TrodAll enc Tryz.prog W 0 (fun _ => true) true Tryz.f3.params.toList args.toList ds p := hA0
  rw [Tryz.params3] at hA hval
  obtain ⟨v0, vs0, d0, ds0, p0, q0, hargs, rfl, rfl, h0, r0⟩ := trodAll_cons hA
  obtain ⟨rfl, rfl, rfl⟩ := trodAll_nil r0
  obtain rfl : args = #[v0] := by cases args; simp_all
  obtain ⟨rfl, rfl⟩ := trodVars_none hV
  have k0 := h0
  have lt0 : ∀ x ∈ p0, x.block < W.heap.size := by obtain ⟨m, hm⟩ := k0; exact DataW.trod_lt m _ _ _ hm
  obtain ⟨u0, rfl⟩ := vl_arg (hval 0 23 v0 rfl rfl) h0
  clear hA0 hval0 hL hsz0 hsh
  refine (walk u0 W hG ).mono fun e W' ⟨he, bel⟩ => ?_
  subst he
  exact ⟨_, rfl, _, _, _, [], _, [], hW', trodAll_mk1 (shut_bool Tryz.underlying4 _), (trodAll_cons_mk (Below.trod laidOut (by kernel_rfl) (of_decide_eq_true (by kernel_rfl)) k0 bel lt0) trodAll_mk0), rfl, bel.frame _, fun h => by cases h⟩

theorem over : Rows.ValueSignsSaid :=
  OpenClaim.holds_of_wide 3 Tryz.f3 rfl rfl rfl rfl rfl rfl rfl ⟨rfl, rfl, rfl, rfl, rfl⟩ rfl rfl rfl rfl rfl (by kernel_rfl) Tryz.func3 (by kernel_rfl)
    (of_decide_eq_true (by kernel_rfl)) (by unfold Func.isWrapper; first | (rw [if_pos (by decide +kernel)]; kernel_rfl) | (rw [if_neg (by decide +kernel)]; exact ⟨rfl, rfl⟩))
    (fun os started H enc _ => lifted os started H enc)
end Go.Proofs.YtfbiaffdfolbgabGreatDoor.valueSigns
namespace Go.Proofs.YtfbiaffdfolbgabGreatDoor
open Go
/-- The card. -/
theorem valueSigns_card : Rows.ValueSignsCardSaid :=
  Claim7.holds_tied_plain_at .later [] [.data, .data, .data, .data, .sentinel, .sentinel, .pinned] true (true, "c5451c3181964eecc5ddb1b3a07f70e9afc139d70a371dd24ac976c31c8bb903") true valueSigns.over (fun _ h => by cases h) (by kernel_rfl) (fun _ h => by cases h) valueSigns_row_tie rfl ⟨rfl, rfl⟩ (by kernel_rfl) rfl
    (fun f fn hf hfn => by
      obtain rfl : f = 3 := Option.some.inj ((show Tryz.prog.funcNamed "klaxon/klaxonlaw08.ValueSigns" = some 3 by kernel_rfl).symm.trans hf) |>.symm
      obtain rfl : fn = Tryz.f3 := (Option.some.inj (Tryz.func3.symm.trans hfn)).symm
      exact ⟨by kernel_rfl, fun j t ht => by
        rw [Tryz.params3] at ht
        have hm : t ∈ [23] := by simpa using Array.mem_of_getElem? ht
        have hall : ([23].all fun u => !Tryz.prog.wantsStandIn u) = true := by kernel_rfl
        exact (show Tryz.prog.wantsStandIn t = false by simpa using List.all_eq_true.1 hall t hm)⟩)
    (by kernel_rfl)
#print axioms valueSigns_card
end Go.Proofs.YtfbiaffdfolbgabGreatDoor
