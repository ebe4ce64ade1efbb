/- Og; Oh; Oi. -/
import Derived.Test.YtaffplmfnincfaaGreatDoorVpVw
import Derived.Test.YtaffplmfnincfaaGreatDoorGq
import Derived.Test.YtaffplmfnincfaaGreatDoorNmQb
import Derived.Lib.SliceRun
import Derived.Test.YtaffplmfnincfaaGreatDoorDaDd
/- isBound. -/
namespace Go.Proofs.YtaffplmfnincfaaGreatDoor
set_option linter.unusedVariables false
open Go.RowKit Go.MapKept
open Gq
theorem vls_one (W : World) (v : Vl) : Vls (W.alloc (.cells #[.int .i64 v.kind, .int .i64 v.n] 34)) (.slice (some ⟨W.heap.size, 0, none⟩) 1 1) [v] := by
  refine ⟨_, 1, rfl, .inr ⟨W.heap.size, 0, rfl, fun t ht => ?_⟩⟩
  have : t = 0 := by simpa using ht
  subst this
  exact (vlNew W v).cells
open Classical in
/-- May a value be a threshold's? -/
noncomputable def bndB (v : Vl) : Bool := decide (IsV v ∧ v.kind ≠ 2 ∧ v.kind ≠ 3)
theorem bnd_cases (v : Vl) : (¬ IsV v ∧ bndB v = false) ∨ (v = ⟨2, 0⟩ ∧ bndB v = false) ∨ (v = ⟨3, 0⟩ ∧ bndB v = false) ∨ (IsV v ∧ (v.kind == 2) = false ∧ (v.kind == 3) = false ∧ bndB v = true) := by
  by_cases h : IsV v
  · by_cases h2 : v.kind = 2
    · refine .inr (.inl ⟨?_, by simp [bndB, h2]⟩)
      obtain ⟨k, n⟩ := v
      rcases h with h | h
      · simp at h h2; omega
      · simp at h h2; simp [h2, h.2.2]
    · by_cases h3 : v.kind = 3
      · refine .inr (.inr (.inl ⟨?_, by simp [bndB, h3]⟩))
        obtain ⟨k, n⟩ := v
        rcases h with h | h
        · simp at h h3; omega
        · simp at h h3; simp [h3, h.2.2]
      · refine .inr (.inr (.inr ⟨h, ?_, ?_, by simp [bndB, h, h2, h3]⟩))
        · simpa using h2
        · simpa using h3
  · exact .inl ⟨h, by simp [bndB, h]⟩
set_option maxRecDepth 100000 in
set_option maxHeartbeats 4000000 in
/-- isBound. -/
theorem bound119 (v : Vl) (w : World) : Calls Tryz.prog 119 #[vlV v] w fun e w' => e = .returned (.bool (bndB v)) ∧ Below w.heap.size w w' := by
  have hat : Hid (VlAt (w.alloc (vlO v)) w.heap.size v) := vlNew w v
  have hb0 : Hid (Below w.heap.size w (w.alloc (vlO v))) := bW0 w _
  have hc : Hid (∀ x W, Vls W x [v] → Calls Tryz.prog 142 #[x] W fun e w' => e = .returned (.int .i64 (chkE [v])) ∧ Below W.heap.size W w') := fun x W h => check_any x [v] W h (by simp)
  have hnul : ∀ W, Calls Tryz.prog 135 #[] W fun e w' => e = .returned (.agg #[.int .i64 2, .int .i64 0]) ∧ Below W.heap.size W w' := fun W => null_b W
  have hnan : ∀ W, Calls Tryz.prog 136 #[] W fun e w' => e = .returned (.agg #[.int .i64 3, .int .i64 0]) ∧ Below W.heap.size W w' := fun W => nan_b W
  obtain ⟨R, hR⟩ : ∃ R, Hid (R = bndB v) := ⟨_, rfl⟩
  rw [← hR.out]
  rcases bnd_cases v with ⟨h, e⟩ | ⟨h, e⟩ | ⟨h, e⟩ | ⟨h, e2, e3, e⟩
  · have hE : chkE [v] = 80 := by unfold chkE; rw [if_neg (by simpa using h)]
    rw [hE] at hc
    replace hR : Hid (R = false) := hR.out.trans e
    clear h e hE
    obtain ⟨vk, vn⟩ := v
    · (skip)
      show Calls Tryz.prog 119 #[.agg #[.int .i64 vk, .int .i64 vn]] w fun e w' => e = .returned (.bool R) ∧ Below w.heap.size w w'
      replace hat : Hid (VlAt (w.alloc (.cells #[.int .i64 vk, .int .i64 vn] 34)) w.heap.size ⟨vk, vn⟩) := hat
      replace hb0 : Hid (Below w.heap.size w (w.alloc (.cells #[.int .i64 vk, .int .i64 vn] 34))) := hb0
      go_enter Tryz.func119, Tryz.ntmps119
      go_wp2
      generalize w.alloc (.cells #[.int .i64 vk, .int .i64 vn] 34) = U at *
      refine wp_region_grow growB ((Below.refl _ _).drew) (fun i => match i with | 1 => some (fun _ u W => Vls W u [⟨vk, vn⟩]) | 2 => some (fun _ u _ => u = .int .i64 80) | _ => none) ?_ (by kernel_rfl) (by kernel_rfl) ?_
      · intro i s hs vs v W W' h g
        dsimp only at hs; split at hs <;> cases hs <;> first | exact Vls.grow h g | exact h
      have p0 : ∀ p : Out growB U, p.W.cell? ⟨w.heap.size, 0, none⟩ = some (.int .i64 vk) := fun p => (hat.out.grow p.h).cells.1
      have p1 : ∀ p : Out growB U, p.W.cell? ⟨w.heap.size, 1, none⟩ = some (.int .i64 vn) := fun p => (hat.out.grow p.h).cells.2
      refine wpG_pure rfl rfl rfl rfl (fun K hK => ?_); go_big_quiet_op; refine hK _ ?_; clear hK K
      refine wpG_tell _ rfl rfl rfl rfl (fun W hW => ?_) (fun x1 hx1 K hK => ?_)
      · exact tell_run (.slice (some ⟨W.heap.size, 0, none⟩) 1 1) (W.alloc (.cells #[.int .i64 vk, .int .i64 vn] 34)) (by go_simp) ((Below.refl _ _).alloc (Nat.le_refl _) _) (vls_one W ⟨vk, vn⟩)
      go_big_quiet_op; refine hK _ ?_; clear hK K
      refine wpG_call (.int .i64 80) rfl rfl rfl (fun W hW => ?_) (fun K hK => ?_)
      · refine tell_fn #[x1] rfl (by simp [Act.eval]) Tryz.func142 (by kernel_rfl) (by kernel_rfl) ?_
        refine (hc.out x1 W ((hW.2 1 _ rfl (by kernel_rfl)).2 rfl)).mono ?_
        rintro e w' ⟨h1, h2⟩
        exact ⟨_, h1, h2, rfl⟩
      go_big_quiet_op; refine hK _ ?_; clear hK K
      refine wpG_pure rfl rfl rfl rfl (fun K hK => ?_); go_big_quiet_op; refine hK _ ?_; clear hK K
      refine wpG_pure rfl rfl rfl rfl (fun K hK => ?_); go_big_quiet_op; refine hK _ ?_; clear hK K
      refine wpG_skip rfl rfl (fun K hK => ?_); go_big_quiet_op; refine hK _ ?_; clear hK K
      refine wpG_skip rfl rfl (fun K hK => ?_); go_big_quiet_op; refine hK _ ?_; clear hK K
      refine wpG_skip rfl rfl (fun K hK => ?_); go_big_quiet_op; refine hK _ ?_; clear hK K
      refine wpG_pure rfl rfl rfl rfl (fun K hK => ?_); go_big_quiet_op; refine hK _ ?_; clear hK K
      refine wpG_pure rfl rfl rfl rfl (fun K hK => ?_); go_big_quiet_op; refine hK _ ?_; clear hK K
      refine wpG_skip rfl rfl (fun K hK => ?_); go_big_quiet_op; refine hK _ ?_; clear hK K
      refine wpG_skip rfl rfl (fun K hK => ?_); go_big_quiet_op; refine hK _ ?_; clear hK K
      refine wpG_skip rfl rfl (fun K hK => ?_); go_big_quiet_op; refine hK _ ?_; clear hK K
      refine wpG_pure rfl rfl rfl rfl (fun K hK => ?_); go_big_quiet_op; refine hK _ ?_; clear hK K
      refine wpG_pure rfl rfl rfl rfl (fun K hK => ?_); go_big_quiet_op; refine hK _ ?_; clear hK K
      refine wpG_nil ?_
      intro W hW _
      go_wp2
      go_ret
      exact ⟨by rw [hR.out]; rfl, hb0.out.trans (hW.gw.mono hb0.out.size)⟩
  · subst h
    have hE : chkE [⟨2, 0⟩] = 0 := by unfold chkE; rw [if_pos (by simp [IsV])]
    rw [hE] at hc
    replace hR : Hid (R = false) := hR.out.trans e
    clear e hE
    · (skip)
      show Calls Tryz.prog 119 #[.agg #[.int .i64 2, .int .i64 0]] w fun e w' => e = .returned (.bool R) ∧ Below w.heap.size w w'
      replace hat : Hid (VlAt (w.alloc (.cells #[.int .i64 2, .int .i64 0] 34)) w.heap.size ⟨2, 0⟩) := hat
      replace hb0 : Hid (Below w.heap.size w (w.alloc (.cells #[.int .i64 2, .int .i64 0] 34))) := hb0
      go_enter Tryz.func119, Tryz.ntmps119
      go_wp2
      generalize w.alloc (.cells #[.int .i64 2, .int .i64 0] 34) = U at *
      refine wp_region_grow growB ((Below.refl _ _).drew) (fun i => match i with | 1 => some (fun _ u W => Vls W u [⟨2, 0⟩]) | 2 => some (fun _ u _ => u = .int .i64 0) | 6 => some (fun _ u _ => u = .agg #[.int .i64 2, .int .i64 0]) | 11 => some (fun _ u _ => u = .agg #[.int .i64 3, .int .i64 0]) | _ => none) ?_ (by kernel_rfl) (by kernel_rfl) ?_
      · intro i s hs vs v W W' h g
        dsimp only at hs; split at hs <;> cases hs <;> first | exact Vls.grow h g | exact h
      have p0 : ∀ p : Out growB U, p.W.cell? ⟨w.heap.size, 0, none⟩ = some (.int .i64 2) := fun p => (hat.out.grow p.h).cells.1
      have p1 : ∀ p : Out growB U, p.W.cell? ⟨w.heap.size, 1, none⟩ = some (.int .i64 0) := fun p => (hat.out.grow p.h).cells.2
      refine wpG_pure rfl rfl rfl rfl (fun K hK => ?_); go_big_quiet_op; refine hK _ ?_; clear hK K
      refine wpG_tell _ rfl rfl rfl rfl (fun W hW => ?_) (fun x1 hx1 K hK => ?_)
      · exact tell_run (.slice (some ⟨W.heap.size, 0, none⟩) 1 1) (W.alloc (.cells #[.int .i64 2, .int .i64 0] 34)) (by go_simp) ((Below.refl _ _).alloc (Nat.le_refl _) _) (vls_one W ⟨2, 0⟩)
      go_big_quiet_op; refine hK _ ?_; clear hK K
      refine wpG_call (.int .i64 0) rfl rfl rfl (fun W hW => ?_) (fun K hK => ?_)
      · refine tell_fn #[x1] rfl (by simp [Act.eval]) Tryz.func142 (by kernel_rfl) (by kernel_rfl) ?_
        refine (hc.out x1 W ((hW.2 1 _ rfl (by kernel_rfl)).2 rfl)).mono ?_
        rintro e w' ⟨h1, h2⟩
        exact ⟨_, h1, h2, rfl⟩
      go_big_quiet_op; refine hK _ ?_; clear hK K
      refine wpG_pure rfl rfl rfl rfl (fun K hK => ?_); go_big_quiet_op; refine hK _ ?_; clear hK K
      refine wpG_pure rfl rfl rfl rfl (fun K hK => ?_); go_big_quiet_op; refine hK _ ?_; clear hK K
      refine wpG_pure rfl rfl rfl rfl (fun K hK => ?_); go_big_quiet_op; refine hK _ ?_; clear hK K
      refine wpG_call (.agg #[.int .i64 2, .int .i64 0]) rfl rfl rfl (fun W hW => ?_) (fun K hK => ?_)
      · refine tell_fn #[] rfl (by simp) Tryz.func135 (by kernel_rfl) (by kernel_rfl) ?_
        refine (hnul W).mono ?_
        rintro e w' ⟨h1, h2⟩
        exact ⟨_, h1, h2, rfl⟩
      go_big_quiet_op; refine hK _ ?_; clear hK K
      refine wpG_pure rfl rfl rfl rfl (fun K hK => ?_); go_big_quiet_op; refine hK _ ?_; clear hK K
      refine wpG_pure rfl rfl rfl rfl (fun K hK => ?_); go_big_quiet_op; refine hK _ ?_; clear hK K
      refine wpG_pure rfl rfl rfl rfl (fun K hK => ?_); go_big_quiet_op; refine hK _ ?_; clear hK K
      refine wpG_skip rfl rfl (fun K hK => ?_); go_big_quiet_op; refine hK _ ?_; clear hK K
      refine wpG_skip rfl rfl (fun K hK => ?_); go_big_quiet_op; refine hK _ ?_; clear hK K
      refine wpG_skip rfl rfl (fun K hK => ?_); go_big_quiet_op; refine hK _ ?_; clear hK K
      refine wpG_pure rfl rfl rfl rfl (fun K hK => ?_); go_big_quiet_op; refine hK _ ?_; clear hK K
      refine wpG_pure rfl rfl rfl rfl (fun K hK => ?_); go_big_quiet_op; refine hK _ ?_; clear hK K
      refine wpG_nil ?_
      intro W hW _
      go_wp2
      go_ret
      exact ⟨by rw [hR.out]; rfl, hb0.out.trans (hW.gw.mono hb0.out.size)⟩
  · subst h
    have hE : chkE [⟨3, 0⟩] = 0 := by unfold chkE; rw [if_pos (by simp [IsV])]
    rw [hE] at hc
    replace hR : Hid (R = false) := hR.out.trans e
    clear e hE
    · (skip)
      show Calls Tryz.prog 119 #[.agg #[.int .i64 3, .int .i64 0]] w fun e w' => e = .returned (.bool R) ∧ Below w.heap.size w w'
      replace hat : Hid (VlAt (w.alloc (.cells #[.int .i64 3, .int .i64 0] 34)) w.heap.size ⟨3, 0⟩) := hat
      replace hb0 : Hid (Below w.heap.size w (w.alloc (.cells #[.int .i64 3, .int .i64 0] 34))) := hb0
      go_enter Tryz.func119, Tryz.ntmps119
      go_wp2
      generalize w.alloc (.cells #[.int .i64 3, .int .i64 0] 34) = U at *
      refine wp_region_grow growB ((Below.refl _ _).drew) (fun i => match i with | 1 => some (fun _ u W => Vls W u [⟨3, 0⟩]) | 2 => some (fun _ u _ => u = .int .i64 0) | 6 => some (fun _ u _ => u = .agg #[.int .i64 2, .int .i64 0]) | 11 => some (fun _ u _ => u = .agg #[.int .i64 3, .int .i64 0]) | _ => none) ?_ (by kernel_rfl) (by kernel_rfl) ?_
      · intro i s hs vs v W W' h g
        dsimp only at hs; split at hs <;> cases hs <;> first | exact Vls.grow h g | exact h
      have p0 : ∀ p : Out growB U, p.W.cell? ⟨w.heap.size, 0, none⟩ = some (.int .i64 3) := fun p => (hat.out.grow p.h).cells.1
      have p1 : ∀ p : Out growB U, p.W.cell? ⟨w.heap.size, 1, none⟩ = some (.int .i64 0) := fun p => (hat.out.grow p.h).cells.2
      refine wpG_pure rfl rfl rfl rfl (fun K hK => ?_); go_big_quiet_op; refine hK _ ?_; clear hK K
      refine wpG_tell _ rfl rfl rfl rfl (fun W hW => ?_) (fun x1 hx1 K hK => ?_)
      · exact tell_run (.slice (some ⟨W.heap.size, 0, none⟩) 1 1) (W.alloc (.cells #[.int .i64 3, .int .i64 0] 34)) (by go_simp) ((Below.refl _ _).alloc (Nat.le_refl _) _) (vls_one W ⟨3, 0⟩)
      go_big_quiet_op; refine hK _ ?_; clear hK K
      refine wpG_call (.int .i64 0) rfl rfl rfl (fun W hW => ?_) (fun K hK => ?_)
      · refine tell_fn #[x1] rfl (by simp [Act.eval]) Tryz.func142 (by kernel_rfl) (by kernel_rfl) ?_
        refine (hc.out x1 W ((hW.2 1 _ rfl (by kernel_rfl)).2 rfl)).mono ?_
        rintro e w' ⟨h1, h2⟩
        exact ⟨_, h1, h2, rfl⟩
      go_big_quiet_op; refine hK _ ?_; clear hK K
      refine wpG_pure rfl rfl rfl rfl (fun K hK => ?_); go_big_quiet_op; refine hK _ ?_; clear hK K
      refine wpG_pure rfl rfl rfl rfl (fun K hK => ?_); go_big_quiet_op; refine hK _ ?_; clear hK K
      refine wpG_pure rfl rfl rfl rfl (fun K hK => ?_); go_big_quiet_op; refine hK _ ?_; clear hK K
      refine wpG_call (.agg #[.int .i64 2, .int .i64 0]) rfl rfl rfl (fun W hW => ?_) (fun K hK => ?_)
      · refine tell_fn #[] rfl (by simp) Tryz.func135 (by kernel_rfl) (by kernel_rfl) ?_
        refine (hnul W).mono ?_
        rintro e w' ⟨h1, h2⟩
        exact ⟨_, h1, h2, rfl⟩
      go_big_quiet_op; refine hK _ ?_; clear hK K
      refine wpG_pure rfl rfl rfl rfl (fun K hK => ?_); go_big_quiet_op; refine hK _ ?_; clear hK K
      refine wpG_pure rfl rfl rfl rfl (fun K hK => ?_); go_big_quiet_op; refine hK _ ?_; clear hK K
      refine wpG_pure rfl rfl rfl rfl (fun K hK => ?_); go_big_quiet_op; refine hK _ ?_; clear hK K
      refine wpG_pure rfl rfl rfl rfl (fun K hK => ?_); go_big_quiet_op; refine hK _ ?_; clear hK K
      refine wpG_call (.agg #[.int .i64 3, .int .i64 0]) rfl rfl rfl (fun W hW => ?_) (fun K hK => ?_)
      · refine tell_fn #[] rfl (by simp) Tryz.func136 (by kernel_rfl) (by kernel_rfl) ?_
        refine (hnan W).mono ?_
        rintro e w' ⟨h1, h2⟩
        exact ⟨_, h1, h2, rfl⟩
      go_big_quiet_op; refine hK _ ?_; clear hK K
      refine wpG_pure rfl rfl rfl rfl (fun K hK => ?_); go_big_quiet_op; refine hK _ ?_; clear hK K
      refine wpG_pure rfl rfl rfl rfl (fun K hK => ?_); go_big_quiet_op; refine hK _ ?_; clear hK K
      refine wpG_pure rfl rfl rfl rfl (fun K hK => ?_); go_big_quiet_op; refine hK _ ?_; clear hK K
      refine wpG_nil ?_
      intro W hW _
      go_wp2
      go_ret
      exact ⟨by rw [hR.out]; rfl, hb0.out.trans (hW.gw.mono hb0.out.size)⟩
  · have hE : chkE [v] = 0 := by unfold chkE; rw [if_pos (by simpa using h)]
    rw [hE] at hc
    replace hR : Hid (R = true) := hR.out.trans e
    clear h e hE
    obtain ⟨vk, vn⟩ := v
    simp only at e2 e3
    · (skip)
      show Calls Tryz.prog 119 #[.agg #[.int .i64 vk, .int .i64 vn]] w fun e w' => e = .returned (.bool R) ∧ Below w.heap.size w w'
      replace hat : Hid (VlAt (w.alloc (.cells #[.int .i64 vk, .int .i64 vn] 34)) w.heap.size ⟨vk, vn⟩) := hat
      replace hb0 : Hid (Below w.heap.size w (w.alloc (.cells #[.int .i64 vk, .int .i64 vn] 34))) := hb0
      go_enter Tryz.func119, Tryz.ntmps119
      go_wp2
      generalize w.alloc (.cells #[.int .i64 vk, .int .i64 vn] 34) = U at *
      refine wp_region_grow growB ((Below.refl _ _).drew) (fun i => match i with | 1 => some (fun _ u W => Vls W u [⟨vk, vn⟩]) | 2 => some (fun _ u _ => u = .int .i64 0) | 6 => some (fun _ u _ => u = .agg #[.int .i64 2, .int .i64 0]) | 11 => some (fun _ u _ => u = .agg #[.int .i64 3, .int .i64 0]) | _ => none) ?_ (by kernel_rfl) (by kernel_rfl) ?_
      · intro i s hs vs v W W' h g
        dsimp only at hs; split at hs <;> cases hs <;> first | exact Vls.grow h g | exact h
      have p0 : ∀ p : Out growB U, p.W.cell? ⟨w.heap.size, 0, none⟩ = some (.int .i64 vk) := fun p => (hat.out.grow p.h).cells.1
      have p1 : ∀ p : Out growB U, p.W.cell? ⟨w.heap.size, 1, none⟩ = some (.int .i64 vn) := fun p => (hat.out.grow p.h).cells.2
      refine wpG_pure rfl rfl rfl rfl (fun K hK => ?_); go_big_quiet_op; refine hK _ ?_; clear hK K
      refine wpG_tell _ rfl rfl rfl rfl (fun W hW => ?_) (fun x1 hx1 K hK => ?_)
      · exact tell_run (.slice (some ⟨W.heap.size, 0, none⟩) 1 1) (W.alloc (.cells #[.int .i64 vk, .int .i64 vn] 34)) (by go_simp) ((Below.refl _ _).alloc (Nat.le_refl _) _) (vls_one W ⟨vk, vn⟩)
      go_big_quiet_op; refine hK _ ?_; clear hK K
      refine wpG_call (.int .i64 0) rfl rfl rfl (fun W hW => ?_) (fun K hK => ?_)
      · refine tell_fn #[x1] rfl (by simp [Act.eval]) Tryz.func142 (by kernel_rfl) (by kernel_rfl) ?_
        refine (hc.out x1 W ((hW.2 1 _ rfl (by kernel_rfl)).2 rfl)).mono ?_
        rintro e w' ⟨h1, h2⟩
        exact ⟨_, h1, h2, rfl⟩
      go_big_quiet_op; refine hK _ ?_; clear hK K
      refine wpG_pure rfl rfl rfl rfl (fun K hK => ?_); go_big_quiet_op; refine hK _ ?_; clear hK K
      refine wpG_pure rfl rfl rfl rfl (fun K hK => ?_); go_big_quiet_op; refine hK _ ?_; clear hK K
      refine wpG_pure rfl rfl rfl rfl (fun K hK => ?_); go_big_quiet_op; refine hK _ ?_; clear hK K
      refine wpG_call (.agg #[.int .i64 2, .int .i64 0]) rfl rfl rfl (fun W hW => ?_) (fun K hK => ?_)
      · refine tell_fn #[] rfl (by simp) Tryz.func135 (by kernel_rfl) (by kernel_rfl) ?_
        refine (hnul W).mono ?_
        rintro e w' ⟨h1, h2⟩
        exact ⟨_, h1, h2, rfl⟩
      go_big_quiet_op; refine hK _ ?_; clear hK K
      refine wpG_pure rfl rfl rfl rfl (fun K hK => ?_); go_big_quiet_op; refine hK _ ?_; clear hK K
      refine wpG_pure rfl rfl rfl rfl (fun K hK => ?_); go_big_quiet_op; refine hK _ ?_; clear hK K
      refine wpG_pure rfl rfl rfl rfl (fun K hK => ?_); go_big_quiet_op; refine hK _ ?_; clear hK K
      refine wpG_pure rfl rfl rfl rfl (fun K hK => ?_); go_big_quiet_op; refine hK _ ?_; clear hK K
      refine wpG_call (.agg #[.int .i64 3, .int .i64 0]) rfl rfl rfl (fun W hW => ?_) (fun K hK => ?_)
      · refine tell_fn #[] rfl (by simp) Tryz.func136 (by kernel_rfl) (by kernel_rfl) ?_
        refine (hnan W).mono ?_
        rintro e w' ⟨h1, h2⟩
        exact ⟨_, h1, h2, rfl⟩
      go_big_quiet_op; refine hK _ ?_; clear hK K
      refine wpG_pure rfl rfl rfl rfl (fun K hK => ?_); go_big_quiet_op; refine hK _ ?_; clear hK K
      refine wpG_pure rfl rfl rfl rfl (fun K hK => ?_); go_big_quiet_op; refine hK _ ?_; clear hK K
      refine wpG_pure rfl rfl rfl rfl (fun K hK => ?_); go_big_quiet_op; refine hK _ ?_; clear hK K
      refine wpG_nil ?_
      intro W hW _
      go_wp2
      go_ret
      exact ⟨by rw [hR.out]; rfl, hb0.out.trans (hW.gw.mono hb0.out.size)⟩
end Go.Proofs.YtaffplmfnincfaaGreatDoor
/- reduces: series.Reduce of no points. -/
namespace Go.Proofs.YtaffplmfnincfaaGreatDoor
set_option linter.unusedVariables false
open Go.RowKit Go.MapKept
/-- It is a way to reduce. -/
def howB (s : ByteArray) : Bool := (s.toList == [108, 97, 115, 116]) || (s.toList == [109, 105, 110]) || (s.toList == [109, 97, 120]) || (s.toList == [115, 117, 109]) || (s.toList == [109, 101, 97, 110]) || (s.toList == [99, 111, 117, 110, 116])
set_option maxRecDepth 100000 in
set_option maxHeartbeats 2000000 in
/-- series.isHow. -/
theorem how141 (s : ByteArray) (w : World) : Calls Tryz.prog 141 #[.string s] w fun e w' => e = .returned (.bool (howB s)) ∧ w' = w := by
  unfold howB
  go_enter Tryz.func141, Tryz.ntmps141
  cases h1 : s.toList == [108, 97, 115, 116] <;> cases h2 : s.toList == [109, 105, 110] <;> cases h3 : s.toList == [109, 97, 120] <;> cases h4 : s.toList == [115, 117, 109] <;> cases h5 : s.toList == [109, 101, 97, 110] <;> cases h6 : s.toList == [99, 111, 117, 110, 116]
  all_goals
    go_wp2
    go_ret
    exact ⟨rfl, rfl⟩
set_option maxRecDepth 100000 in
set_option maxHeartbeats 1000000 in
theorem clone162 (w : World) : Calls Tryz.prog 162 #[.slice none 0 0] w fun e w' => e = .returned (.slice none 0 0) ∧ w' = w := by
  have q22 : ∀ (w : World) (a : Option Addr) (n c n' c' : Nat), (binOp .eql 113 (.slice a n c) (.slice none n' c')).run Tryz.prog w = .ok (.bool a.isNone) w := fun w a n c n' c' => Lib.run_eql_slice_nil w _ _ a n c n' c' Tryz.underlying113
  go_enter Tryz.func162, Tryz.ntmps162
  go_wp2
  go_ret
  exact ⟨rfl, rfl⟩
set_option maxRecDepth 100000 in
set_option maxHeartbeats 1000000 in
theorem idx186 (f : Value) (w : World) : Calls Tryz.prog 186 #[.slice none 0 0, f] w fun e w' => e = .returned (.int .i64 (-1)) ∧ w' = w := by
  go_enter Tryz.func186, Tryz.ntmps186
  go_wp2
  refine wp_loop_rounds 1 ?_
  rw [rounds_succ]
  go_wp2
  go_ret
  exact ⟨rfl, rfl⟩
set_option maxRecDepth 100000 in
set_option maxHeartbeats 1000000 in
theorem delf161 (f : Value) (w : World) : Calls Tryz.prog 161 #[.slice none 0 0, f] w fun e w' => e = .returned (.slice none 0 0) ∧ w' = w := by
  have h := fun W => idx186 f W
  go_enter Tryz.func161, Tryz.ntmps161
  go_wp2_with (first | (go_at_call 186; refine (h _).mono ?_; rintro e wx ⟨rfl, hwx⟩; subst wx))
  go_ret
  exact ⟨rfl, rfl⟩
set_option maxRecDepth 100000 in
set_option maxHeartbeats 1000000 in
theorem known144 (w : World) : Calls Tryz.prog 144 #[.slice none 0 0] w fun e w' => e = .returned (.slice none 0 0) ∧ w' = w := by
  have h1 := fun W => clone162 W
  have h2 := fun f W => delf161 f W
  go_enter Tryz.func144, Tryz.ntmps144
  go_wp2_with (first | (go_at_call 162; refine (h1 _).mono ?_; rintro e wx ⟨rfl, hwx⟩; subst wx) | (go_at_call 161; refine (h2 _ _).mono ?_; rintro e wx ⟨rfl, hwx⟩; subst wx))
  go_ret
  exact ⟨rfl, rfl⟩
theorem mk150 (W : World) : (Instr.makeSlice 150 (.int .i64 0) (.int .i64 0)).run Tryz.prog W = .ok (.slice (some ⟨W.heap.size, 0, none⟩) 0 0) (W.alloc (.cells #[] 34)) := by
  obtain ⟨i0, hi, hz0, hz1, hz2⟩ := info_parts (show (Tryz.prog.info? 34).map (fun i => (i.zero, i.size, i.bytes)) = some (some (.agg #[.int .i64 0, .int .i64 0]), 2, 16) by kernel_rfl)
  have := run_make (P := Tryz.prog) W 150 34 i0 _ Tryz.underlying150 hi hz0 .i64 .i64 0 0 (by omega) (Int.le_refl _) (by rw [hz2]; decide) (by omega)
  rw [hz1, show madeCells (Value.agg #[.int .i64 0, .int .i64 0]).cells (Int.toNat 0 * 2) = #[] from Array.eq_empty_of_size_eq_zero (by rw [size_madeCells]; rfl)] at this
  exact this
set_option maxRecDepth 100000 in
set_option maxHeartbeats 1000000 in
theorem vals143 (w : World) : Calls Tryz.prog 143 #[.slice none 0 0] w fun e w' => e = .returned (.slice (some ⟨w.heap.size, 0, none⟩) 0 0) ∧ Below w.heap.size w w' := by
  have hmk := mk150
  have hb := bW0 w (.cells #[] 34)
  go_enter Tryz.func143, Tryz.ntmps143
  go_wp2
  refine wp_loop_rounds 1 ?_
  rw [rounds_succ]
  go_wp2
  go_ret
  exact ⟨rfl, hb⟩
set_option maxRecDepth 100000 in
set_option maxHeartbeats 1000000 in
theorem count164 (w : World) : Calls Tryz.prog 164 #[.slice none 0 0] w fun e w' => e = .returned (vlV (num 0)) ∧ Below w.heap.size w w' := by
  have hO : Below w.heap.size w (w.alloc (vlO zer)) := (Below.refl _ _).alloc (Nat.le_refl _) _
  have hd := num_any 0 (w.alloc (vlO zer))
  have h4 : VlAt (w.alloc (vlO zer)) w.heap.size zer := vlNew w zer
  generalize num 0 = R at *
  unfold vlO zer vlV at *
  simp only at hd hO h4
  go_enter Tryz.func164, Tryz.ntmps164
  go_wp2_with (first
    | (go_at_call 155; refine hd.mono ?_; rintro e w1 ⟨rfl, hb1⟩; have hB1 := hO.trans (hb1.mono hO.size); have k4 := h4.grow hb1; obtain ⟨c0, c1⟩ := k4.cells; obtain ⟨f0, f1⟩ := k4.frozen))
  exact ret_cell (v := R) Tryz.results164 rfl (vlSet k4) ⟨rfl, belTwo _ _ hB1 (Nat.le_refl _)⟩
set_option maxRecDepth 100000 in
set_option maxHeartbeats 1000000 in
/-- series.reduced of no points. -/
theorem red145 (s : ByteArray) (w : World) : Calls Tryz.prog 145 #[.string s, .slice none 0 0] w fun e w' => ∃ v, e = .returned (vlV v) ∧ Below w.heap.size w w' := by
  have hO : Below w.heap.size w (w.alloc (vlO zer)) := (Below.refl _ _).alloc (Nat.le_refl _) _
  have hd := count164 (w.alloc (vlO zer))
  have hn := null_b (w.alloc (vlO zer))
  have h4 : VlAt (w.alloc (vlO zer)) w.heap.size zer := vlNew w zer
  cases h6 : s.toList == [99, 111, 117, 110, 116]
  · generalize nul = R at *
    unfold vlO zer vlV at *
    simp only at hn hO h4
    go_enter Tryz.func145, Tryz.ntmps145
    go_wp2_with (first
      | (go_at_call 135; refine hn.mono ?_; rintro e w1 ⟨rfl, hb1⟩; have hB1 := hO.trans (hb1.mono hO.size); have k4 := h4.grow hb1; obtain ⟨c0, c1⟩ := k4.cells; obtain ⟨f0, f1⟩ := k4.frozen))
    exact ret_cell (v := R) Tryz.results145 rfl (vlSet k4) ⟨R, rfl, belTwo _ _ hB1 (Nat.le_refl _)⟩
  · generalize num 0 = R at *
    unfold vlO zer vlV at *
    simp only at hd hO h4
    go_enter Tryz.func145, Tryz.ntmps145
    go_wp2_with (first
      | (go_at_call 164; refine hd.mono ?_; rintro e w1 ⟨rfl, hb1⟩; have hB1 := hO.trans (hb1.mono hO.size); have k4 := h4.grow hb1; obtain ⟨c0, c1⟩ := k4.cells; obtain ⟨f0, f1⟩ := k4.frozen))
    exact ret_cell (v := R) Tryz.results145 rfl (vlSet k4) ⟨R, rfl, belTwo _ _ hB1 (Nat.le_refl _)⟩
set_option maxRecDepth 100000 in
set_option maxHeartbeats 2000000 in
/-- series.Reduce of no points. -/
theorem reduce118 (s : ByteArray) (w : World) : Calls Tryz.prog 118 #[.string s, .bool false, .slice none 0 0] w fun e w' => ∃ v, e = .returned (.tuple #[vlV v, .int .i64 (if howB s = true then 0 else 100)]) ∧ Below w.heap.size w w' := by
  have hO : Below w.heap.size w (w.alloc (vlO zer)) := (Below.refl _ _).alloc (Nat.le_refl _) _
  have hh := fun W => how141 s W
  have h4 : VlAt (w.alloc (vlO zer)) w.heap.size zer := vlNew w zer
  cases hB : howB s
  · rw [hB] at hh
    rw [if_neg (by decide)]
    unfold vlO zer at *
    simp only at hO h4
    obtain ⟨c0, c1⟩ := h4.cells
    obtain ⟨f0, f1⟩ := h4.frozen
    go_enter Tryz.func118, Tryz.ntmps118
    go_wp2_with (first | (go_at_call 141; refine (hh _).mono ?_; rintro e wx ⟨rfl, hwx⟩; subst wx))
    exact ret_cell2 (v := ⟨0, 0⟩) Tryz.results118 rfl h4 rfl ⟨_, rfl, hO⟩
  · rw [hB] at hh
    rw [if_pos rfl]
    have hva := fun W => vals143 W
    have hck : ∀ (W : World) (q : Nat), Calls Tryz.prog 142 #[.slice (some ⟨q, 0, none⟩) 0 0] W fun e w' => e = .returned (.int .i64 0) ∧ Below W.heap.size W w' := fun W q => by
      have := check_any (.slice (some ⟨q, 0, none⟩) 0 0) [] W ⟨_, 0, rfl, .inl rfl⟩ (by simp)
      rwa [show chkE [] = 0 by simp [chkE]] at this
    have hkn := fun W => known144 W
    have hre := fun W => red145 s W
    unfold vlO zer vlV at *
    simp only at hO h4
    go_enter Tryz.func118, Tryz.ntmps118
    go_wp2_with (first
      | (go_at_call 141; refine (hh _).mono ?_; rintro e wx ⟨rfl, hwx⟩; subst wx)
      | (go_at_call 143; refine (hva _).mono ?_; rintro e w1 ⟨rfl, hb1⟩; have hB1 := hO.trans (hb1.mono hO.size); have k1 := h4.grow hb1)
      | (go_at_call 142; refine (hck _ _).mono ?_; rintro e w2 ⟨rfl, hb2⟩; have hB2 := hB1.trans (hb2.mono hB1.size); have k2 := k1.grow hb2)
      | (go_at_call 144; refine (hkn _).mono ?_; rintro e wx ⟨rfl, hwx⟩; subst wx)
      | (go_at_call 145; refine (hre _).mono ?_; rintro e w3 ⟨R, rfl, hb3⟩; have hB3 := hB2.trans (hb3.mono hB2.size); have k3 := k2.grow hb3; obtain ⟨c0, c1⟩ := k3.cells; obtain ⟨f0, f1⟩ := k3.frozen))
    exact ret_cell2 (v := R) Tryz.results118 rfl (vlSet k3) rfl ⟨R, rfl, belTwo _ _ hB3 (Nat.le_refl _)⟩
set_option maxRecDepth 100000 in
set_option maxHeartbeats 2000000 in
/-- reduces. -/
theorem reduces75 (s : ByteArray) (w : World) : Calls Tryz.prog 75 #[.string s] w fun e w' => e = .returned (.bool (howB s)) ∧ Below w.heap.size w w' := by
  have h := reduce118 s w
  cases hB : howB s
  · rw [hB, if_neg (by decide)] at h
    unfold vlV at h
    go_enter Tryz.func75, Tryz.ntmps75
    go_wp2_with (first | (go_at_call 118; refine h.mono ?_; rintro e w1 ⟨R, rfl, hb1⟩))
    go_ret
    exact ⟨rfl, hb1.trans ((bW0 _ _).mono hb1.size)⟩
  · rw [hB, if_pos rfl] at h
    unfold vlV at h
    go_enter Tryz.func75, Tryz.ntmps75
    go_wp2_with (first | (go_at_call 118; refine h.mono ?_; rintro e w1 ⟨R, rfl, hb1⟩))
    go_ret
    exact ⟨rfl, hb1.trans ((bW0 _ _).mono hb1.size)⟩
end Go.Proofs.YtaffplmfnincfaaGreatDoor
/- hasBounds; withItsParts. -/
namespace Go.Proofs.YtaffplmfnincfaaGreatDoor
set_option linter.unusedVariables false
open Go.RowKit Go.MapKept
/-- A node's box is kept. -/
theorem nd_kept {w W : World} (x : Nd) (h : Below (w.alloc (.cells (ndC x) 36)).heap.size (w.alloc (.cells (ndC x) 36)) W) : W.cell? ⟨w.heap.size, 0, none⟩ = some (.string x.ref) ∧ W.cell? ⟨w.heap.size, 1, none⟩ = some (.int .i64 x.kind) ∧ W.cell? ⟨w.heap.size, 2, none⟩ = some (.string x.source) ∧ W.cell? ⟨w.heap.size, 3, none⟩ = some (.string x.input) ∧ W.cell? ⟨w.heap.size, 4, none⟩ = some (.string x.how) ∧ W.cell? ⟨w.heap.size, 5, none⟩ = some (.bool x.strict) ∧ W.cell? ⟨w.heap.size, 6, none⟩ = some (.int .i64 x.low.kind) ∧ W.cell? ⟨w.heap.size, 7, none⟩ = some (.int .i64 x.low.n) ∧ W.cell? ⟨w.heap.size, 8, none⟩ = some (.int .i64 x.high.kind) ∧ W.cell? ⟨w.heap.size, 9, none⟩ = some (.int .i64 x.high.n) ∧ W.cell? ⟨w.heap.size, 10, none⟩ = some (.string x.text) := by
  have e : W.heap[w.heap.size]? = some (.cells (ndC x) 36) := (h.block w.heap.size (by simp)).trans (heap_alloc_new w _)
  refine ⟨?_, ?_, ?_, ?_, ?_, ?_, ?_, ?_, ?_, ?_, ?_⟩ <;> (unfold World.cell?; rw [e]; rfl)
/-- The bounds of a threshold. -/
noncomputable def hbB (x : Nd) : Bool := if (x.how.toList == [103, 116] || x.how.toList == [108, 116]) = true then bndB x.low else if (x.how.toList == [105, 110] || x.how.toList == [111, 117, 116]) = true then (bndB x.low && bndB x.high) else false
set_option maxRecDepth 100000 in
set_option maxHeartbeats 4000000 in
/-- hasBounds. -/
theorem bounds76 (x : Nd) (w : World) : Calls Tryz.prog 76 #[ndV x] w fun e w' => e = .returned (.bool (hbB x)) ∧ Below w.heap.size w w' := by
  obtain ⟨ref, kind, source, input, how, strict, ⟨lk, ln⟩, ⟨hk, hn⟩, text⟩ := x
  have hb0 := bW0 w (.cells #[.string ref, .int .i64 kind, .string source, .string input, .string how, .bool strict, .int .i64 lk, .int .i64 ln, .int .i64 hk, .int .i64 hn, .string text] 36)
  have hl : ∀ W, Calls Tryz.prog 119 #[.agg #[.int .i64 lk, .int .i64 ln]] W fun e w' => e = .returned (.bool (bndB ⟨lk, ln⟩)) ∧ Below W.heap.size W w' := fun W => bound119 ⟨lk, ln⟩ W
  have hh : ∀ W, Calls Tryz.prog 119 #[.agg #[.int .i64 hk, .int .i64 hn]] W fun e w' => e = .returned (.bool (bndB ⟨hk, hn⟩)) ∧ Below W.heap.size W w' := fun W => bound119 ⟨hk, hn⟩ W
  show Calls Tryz.prog 76 #[.agg #[.string ref, .int .i64 kind, .string source, .string input, .string how, .bool strict, .int .i64 lk, .int .i64 ln, .int .i64 hk, .int .i64 hn, .string text]] w _
  unfold hbB
  simp only
  generalize bndB ⟨lk, ln⟩ = L at *
  generalize bndB ⟨hk, hn⟩ = H at *
  cases h1 : how.toList == [103, 116]
  · cases h2 : how.toList == [108, 116]
    · cases h3 : how.toList == [105, 110]
      · cases h4 : how.toList == [111, 117, 116]
        · go_enter Tryz.func76, Tryz.ntmps76
          go_wp2
          go_ret
          exact ⟨rfl, hb0⟩
        · cases L
          · go_enter Tryz.func76, Tryz.ntmps76
            go_wp2_with (first | (go_at_call 119; refine (hl _).mono ?_; rintro e w1 ⟨rfl, hb1⟩; have hB1 := hb0.trans (hb1.mono hb0.size)))
            go_ret
            exact ⟨rfl, hB1⟩
          · go_enter Tryz.func76, Tryz.ntmps76
            have _t := hl
            go_wp2_with (first | (go_at_call 119; clear _t; refine (hl _).mono ?_; rintro e w1 ⟨rfl, hb1⟩; have hB1 := hb0.trans (hb1.mono hb0.size); obtain ⟨-, -, -, -, -, -, -, -, c8, c9, -⟩ := nd_kept ⟨ref, kind, source, input, how, strict, ⟨lk, ln⟩, ⟨hk, hn⟩, text⟩ hb1; simp only at c8 c9; clear hl) | (go_at_call 119; refine (hh _).mono ?_; rintro e w2 ⟨rfl, hb2⟩; have hB2 := hB1.trans (hb2.mono hB1.size)))
            go_ret
            exact ⟨rfl, hB2⟩
      · cases L
        · go_enter Tryz.func76, Tryz.ntmps76
          go_wp2_with (first | (go_at_call 119; refine (hl _).mono ?_; rintro e w1 ⟨rfl, hb1⟩; have hB1 := hb0.trans (hb1.mono hb0.size)))
          go_ret
          exact ⟨rfl, hB1⟩
        · go_enter Tryz.func76, Tryz.ntmps76
          have _t := hl
          go_wp2_with (first | (go_at_call 119; clear _t; refine (hl _).mono ?_; rintro e w1 ⟨rfl, hb1⟩; have hB1 := hb0.trans (hb1.mono hb0.size); obtain ⟨-, -, -, -, -, -, -, -, c8, c9, -⟩ := nd_kept ⟨ref, kind, source, input, how, strict, ⟨lk, ln⟩, ⟨hk, hn⟩, text⟩ hb1; simp only at c8 c9; clear hl) | (go_at_call 119; refine (hh _).mono ?_; rintro e w2 ⟨rfl, hb2⟩; have hB2 := hB1.trans (hb2.mono hB1.size)))
          go_ret
          exact ⟨rfl, hB2⟩
    · go_enter Tryz.func76, Tryz.ntmps76
      go_wp2_with (first | (go_at_call 119; refine (hl _).mono ?_; rintro e w1 ⟨rfl, hb1⟩; have hB1 := hb0.trans (hb1.mono hb0.size)))
      go_ret
      exact ⟨rfl, hB1⟩
  · go_enter Tryz.func76, Tryz.ntmps76
    go_wp2_with (first | (go_at_call 119; refine (hl _).mono ?_; rintro e w1 ⟨rfl, hb1⟩; have hB1 := hb0.trans (hb1.mono hb0.size)))
    go_ret
    exact ⟨rfl, hB1⟩
end Go.Proofs.YtaffplmfnincfaaGreatDoor
