/-
  Proved here: 'klaxonlaw09.LabelsAsk' (P9.7), called with any list of labels, any matcher and any list of matchers, in any memory, returns true, and its arguments read afterwards as they read before: = and != are each other's opposite, the sign of beginnings and its denial too; the empty beginning is everybody's; more matchers match less. No condition beyond the row's own (each slice and string within the reach that every row states).
-/
import Derived.Test.YtckchabcnmkbeaaRows
import Derived.WalkKit
import Derived.ProofKit
import Derived.OpenShut
import Derived.ShutString
import Derived.ChangeOld
import Derived.Below
import Derived.SizedLaws
import Derived.Test.YtckchabcnmkbeaaMg
import Derived.Test.YtckchabcnmkbeaaRk
import Derived.Test.YtckchabcnmkbeaaGr
namespace Go.Proofs.Ytckchabcnmkbeaa.labelsAsk
open Go.ChangeShapes Go.WideShapes Go.ChangeAt Go.RowKit
open Go.ChangeMaps (open_string shut_string)
set_option linter.unusedVariables false
theorem own : ownKnob Try.prog.godebug = none := by kernel_rfl
theorem laidOut : laidOutB Try.prog = true := by kernel_rfl
theorem cell3 {w : World} {b o : Nat} {v : Value} (hz : b < w.heap.size) (h : w.cell? ⟨b, o, none⟩ = some v) (o1 o2 o3 : Obj) : (((w.alloc o1).alloc o2).alloc o3).cell? ⟨b, o, none⟩ = some v :=
  ((((Below.refl w.heap.size w).alloc (Nat.le_refl _) o1).alloc (by simp) o2).alloc (by simp; omega) o3).cell (p := ⟨b, o, none⟩) hz |>.trans h
theorem eq_pre {v val : ByteArray} (h : (v.toList == val.toList) = true) : preB v val = true := by
  have e : v = val := by
    have h' : v.toList = val.toList := by simpa using h
    rw [Lib.toList_data, Lib.toList_data] at h'
    exact ByteArray.ext (Array.toList_inj.1 h')
  subst e
  unfold preB
  simp
theorem pre_nil (v : ByteArray) : preB v ⟨#[]⟩ = true := by
  unfold preB
  have h : (⟨#[]⟩ : ByteArray).size = 0 := rfl
  rw [h]
  simp
theorem one_mt (W : World) (n p v : ByteArray) : Mts (W.alloc (.cells #[.string n, .string p, .string v] 46)) (.slice (some ⟨W.heap.size, 0, none⟩) 1 1) [(⟨n, p, v⟩ : Mt)] := sls_one W (⟨n, p, v⟩ : Mt) _ 46 rfl
set_option maxRecDepth 100000 in
set_option maxHeartbeats 8000000 in
theorem walk (v : Value) (l : List Lb) (m : Mt) (u : Value) (ms : List Mt) (w : World) (hv : Lbs w v l) (hr : LbsR l) (hL : l.length ≤ reachBytes) (hmr : MtR m) (hu : Mts w u ms) (hm : MtsR ms) (hM : ms.length ≤ reachBytes) :
    Calls Try.prog 8 #[v, mtV m, u] w fun e w' => e = .returned (.bool true) ∧ Below w.heap.size w w' := by
  have hr1 := hmr.1
  have hr2 := hmr.2.1
  have hr3 := hmr.2.2
  unfold reachBytes at hL hM hr1 hr2 hr3
  have hlive := fun W => live_ok W
  obtain ⟨a, c, rfl⟩ := hv.shape
  obtain ⟨a2, c2, rfl⟩ := hu.shape
  have hset : ∀ W, Below w.heap.size w W → Calls Try.prog 16 #[.slice a l.length c] W fun e w' => e = .returned (.bool (setB l)) ∧ Below W.heap.size W w' := fun W h => set_any _ l W (hv.grow h) hr (by omega)
  have hvk : Hid (∀ W, Below w.heap.size w W → Lbs W (.slice a l.length c) l) := fun W h => hv.grow h
  have huk : Hid (∀ W, Below w.heap.size w W → Mts W (.slice a2 ms.length c2) ms) := fun W h => hu.grow h
  replace hr : Hid (LbsR l) := hr
  replace hm : Hid (MtsR ms) := hm
  replace hmr : Hid (MtR m) := hmr
  clear hv hu
  obtain ⟨mn, mo, mv⟩ := m
  unfold mtV
  simp only at hr1 hr2 hr3 ⊢
  have hB0 : Below w.heap.size w (w.alloc (.cells #[.string mn, .string mo, .string mv] 46)) := (Below.refl _ _).alloc (Nat.le_refl _) _
  have hst := hset _ hB0
  cases hsb : setB l with
  | false =>
    rw [hsb] at hst
    go_enter Try.func8, Try.ntmps8
    go_wp2_with (first
      | (go_at_call 16; refine hst.mono ?_; rintro e w1 ⟨rfl, hb1⟩)
      | (go_at_call 10; refine (hlive _).mono ?_; rintro e w2 ⟨rfl, hb2⟩))
    go_ret
    exact ⟨rfl, (hB0.trans (hb1.mono hB0.size)).trans (hb2.mono (hB0.trans (hb1.mono hB0.size)).size)⟩
  | true =>
    have his : IsSet l := setB_iff.1 hsb
    have hl16 := his.2.2
    rw [hsb] at hst
    by_cases h60 : ms.length ≤ 60
    · have h60i : ¬ (60 : Int) < (ms.length : Int) := by omega
      by_cases hT : mn.size + mv.size ≤ 20000
      · have hTi : ¬ (20000 : Int) < (mn.size : Int) + (mv.size : Int) := by omega
        have hm1 := fun x (q : List Mt) (hq : MtsR q) (hq2 : q.length ≤ 100) U (h1 : Lbs U (.slice a l.length c) l) (h2 : Mts U x q) => match_any _ x l q U h1 h2 (by omega) (by omega) hr.out hq
        go_enter Try.func8, Try.ntmps8
        go_wp2_with (first
          | (go_at_call 16; refine hst.mono ?_; rintro e w1 ⟨rfl, hb1⟩; have hB1 := hB0.trans (hb1.mono hB0.size); have hz1 : w.heap.size < w1.heap.size := Nat.lt_of_lt_of_le (by simp) hb1.size; have hc0 : w1.cell? ⟨w.heap.size, 0, none⟩ = some (.string mn) := (hb1.cell (p := ⟨w.heap.size, 0, none⟩) (by simp)).trans (by simp [go_sem]); have hc2 : w1.cell? ⟨w.heap.size, 2, none⟩ = some (.string mv) := (hb1.cell (p := ⟨w.heap.size, 2, none⟩) (by simp)).trans (by simp [go_sem]); have hd0 : ∀ o1 o2 o3, (((w1.alloc o1).alloc o2).alloc o3).cell? ⟨w.heap.size, 0, none⟩ = some (.string mn) := fun o1 o2 o3 => cell3 hz1 hc0 o1 o2 o3; have hd2 : ∀ o1 o2 o3, (((w1.alloc o1).alloc o2).alloc o3).cell? ⟨w.heap.size, 2, none⟩ = some (.string mv) := fun o1 o2 o3 => cell3 hz1 hc2 o1 o2 o3))
        generalize hW : ((((w1.alloc (.cells #[.string mn, .string ⟨#[61]⟩, .string mv] 46)).alloc (.cells #[.string mn, .string ⟨#[33, 61]⟩, .string mv] 46)).alloc (.cells #[.string mn, .string ⟨#[94, 61]⟩, .string mv] 46)).alloc (.cells #[.string mn, .string ⟨#[33, 94]⟩, .string mv] 46)) = W7
        --R7
        have c00 : W7.cell? ⟨w1.heap.size, 0, none⟩ = some (.string mn) := by rw [← hW]; simp [go_sem]
        have f00 : ∀ p : Bel W7, p.W.cell? ⟨w1.heap.size, 0, none⟩ = some (.string mn) := fun p => p.cell c00
        have c01 : W7.cell? ⟨w1.heap.size, 1, none⟩ = some (.string ⟨#[61]⟩) := by rw [← hW]; simp [go_sem]
        have f01 : ∀ p : Bel W7, p.W.cell? ⟨w1.heap.size, 1, none⟩ = some (.string ⟨#[61]⟩) := fun p => p.cell c01
        have c02 : W7.cell? ⟨w1.heap.size, 2, none⟩ = some (.string mv) := by rw [← hW]; simp [go_sem]
        have f02 : ∀ p : Bel W7, p.W.cell? ⟨w1.heap.size, 2, none⟩ = some (.string mv) := fun p => p.cell c02
        have c10 : W7.cell? ⟨w1.heap.size + 1, 0, none⟩ = some (.string mn) := by rw [← hW]; simp [go_sem]
        have f10 : ∀ p : Bel W7, p.W.cell? ⟨w1.heap.size + 1, 0, none⟩ = some (.string mn) := fun p => p.cell c10
        have c11 : W7.cell? ⟨w1.heap.size + 1, 1, none⟩ = some (.string ⟨#[33, 61]⟩) := by rw [← hW]; simp [go_sem]
        have f11 : ∀ p : Bel W7, p.W.cell? ⟨w1.heap.size + 1, 1, none⟩ = some (.string ⟨#[33, 61]⟩) := fun p => p.cell c11
        have c12 : W7.cell? ⟨w1.heap.size + 1, 2, none⟩ = some (.string mv) := by rw [← hW]; simp [go_sem]
        have f12 : ∀ p : Bel W7, p.W.cell? ⟨w1.heap.size + 1, 2, none⟩ = some (.string mv) := fun p => p.cell c12
        have c20 : W7.cell? ⟨w1.heap.size + 1 + 1, 0, none⟩ = some (.string mn) := by rw [← hW]; simp [go_sem]
        have f20 : ∀ p : Bel W7, p.W.cell? ⟨w1.heap.size + 1 + 1, 0, none⟩ = some (.string mn) := fun p => p.cell c20
        have c21 : W7.cell? ⟨w1.heap.size + 1 + 1, 1, none⟩ = some (.string ⟨#[94, 61]⟩) := by rw [← hW]; simp [go_sem]
        have f21 : ∀ p : Bel W7, p.W.cell? ⟨w1.heap.size + 1 + 1, 1, none⟩ = some (.string ⟨#[94, 61]⟩) := fun p => p.cell c21
        have c22 : W7.cell? ⟨w1.heap.size + 1 + 1, 2, none⟩ = some (.string mv) := by rw [← hW]; simp [go_sem]
        have f22 : ∀ p : Bel W7, p.W.cell? ⟨w1.heap.size + 1 + 1, 2, none⟩ = some (.string mv) := fun p => p.cell c22
        have c30 : W7.cell? ⟨w1.heap.size + 1 + 1 + 1, 0, none⟩ = some (.string mn) := by rw [← hW]; simp [go_sem]
        have f30 : ∀ p : Bel W7, p.W.cell? ⟨w1.heap.size + 1 + 1 + 1, 0, none⟩ = some (.string mn) := fun p => p.cell c30
        have c31 : W7.cell? ⟨w1.heap.size + 1 + 1 + 1, 1, none⟩ = some (.string ⟨#[33, 94]⟩) := by rw [← hW]; simp [go_sem]
        have f31 : ∀ p : Bel W7, p.W.cell? ⟨w1.heap.size + 1 + 1 + 1, 1, none⟩ = some (.string ⟨#[33, 94]⟩) := fun p => p.cell c31
        have c32 : W7.cell? ⟨w1.heap.size + 1 + 1 + 1, 2, none⟩ = some (.string mv) := by rw [← hW]; simp [go_sem]
        have f32 : ∀ p : Bel W7, p.W.cell? ⟨w1.heap.size + 1 + 1 + 1, 2, none⟩ = some (.string mv) := fun p => p.cell c32
        have hB7 : Below w.heap.size w W7 := by rw [← hW]; exact (((hB1.alloc hB1.size _).alloc (by simp; have := hB1.size; omega) _).alloc (by simp; have := hB1.size; omega) _).alloc (by simp; have := hB1.size; omega) _
        have c40 : W7.cell? ⟨w.heap.size, 0, none⟩ = some (.string mn) := by rw [← hW]; exact ((Below.refl _ _).alloc (Nat.le_refl _) _).cell (p := ⟨w.heap.size, 0, none⟩) (by simp; omega) |>.trans (hd0 _ _ _)
        have r0 : MtsR [⟨mn, ⟨#[61]⟩, mv⟩] := by intro x hx; cases List.mem_singleton.1 hx; exact ⟨hmr.out.1, (show (⟨#[61]⟩ : ByteArray).size ≤ reachBytes by decide), hmr.out.2.2⟩
        have r1 : MtsR [⟨mn, ⟨#[33, 61]⟩, mv⟩] := by intro x hx; cases List.mem_singleton.1 hx; exact ⟨hmr.out.1, (show (⟨#[33, 61]⟩ : ByteArray).size ≤ reachBytes by decide), hmr.out.2.2⟩
        have r2 : MtsR [⟨mn, ⟨#[94, 61]⟩, mv⟩] := by intro x hx; cases List.mem_singleton.1 hx; exact ⟨hmr.out.1, (show (⟨#[94, 61]⟩ : ByteArray).size ≤ reachBytes by decide), hmr.out.2.2⟩
        have r3 : MtsR [⟨mn, ⟨#[33, 94]⟩, mv⟩] := by intro x hx; cases List.mem_singleton.1 hx; exact ⟨hmr.out.1, (show (⟨#[33, 94]⟩ : ByteArray).size ≤ reachBytes by decide), hmr.out.2.2⟩
        have hgq : ∀ W q, Cw W7 W → Mts W7 q [] → True := fun _ _ _ _ => trivial
        clear hgq hd0 hd2 hW hset hst
        have hE : matchB l [⟨mn, ⟨#[33, 61]⟩, mv⟩] = !matchB l [⟨mn, ⟨#[61]⟩, mv⟩] := by rw [matchB_one, matchB_one, sign_ne, sign_eq]
        have hP : matchB l [⟨mn, ⟨#[33, 94]⟩, mv⟩] = !matchB l [⟨mn, ⟨#[94, 61]⟩, mv⟩] := by rw [matchB_one, matchB_one, sign_npre, sign_pre]
        have hEP : matchB l [⟨mn, ⟨#[61]⟩, mv⟩] = true → matchB l [⟨mn, ⟨#[94, 61]⟩, mv⟩] = true := by rw [matchB_one, matchB_one, sign_eq, sign_pre]; exact eq_pre
        have hcq := fun x U (h1 : Cw W7 U) (h2 : Mts U x [⟨mn, ⟨#[61]⟩, mv⟩]) => hm1 x _ r0 (by simp) U (hvk.out _ (hB7.trans (h1.gw.mono hB7.size))) h2
        have hcn := fun x U (h1 : Cw W7 U) (h2 : Mts U x [⟨mn, ⟨#[33, 61]⟩, mv⟩]) => hm1 x _ r1 (by simp) U (hvk.out _ (hB7.trans (h1.gw.mono hB7.size))) h2
        have hce := fun x U (h1 : Cw W7 U) (h2 : Mts U x [⟨mn, ⟨#[94, 61]⟩, mv⟩]) => hm1 x _ r2 (by simp) U (hvk.out _ (hB7.trans (h1.gw.mono hB7.size))) h2
        have hcb := fun x U (h1 : Cw W7 U) (h2 : Mts U x [⟨mn, ⟨#[33, 94]⟩, mv⟩]) => hm1 x _ r3 (by simp) U (hvk.out _ (hB7.trans (h1.gw.mono hB7.size))) h2
        have hn0 := fun U (h1 : Lbs U (.slice a l.length c) l) => hm1 (.slice none 0 0) [] (by intro x hx; cases hx) (by simp) U h1 (sls_nil U)
        rw [matchB_nil] at hn0
        have hn1 := fun U (h1 : Lbs (U.alloc (.cells #[.string mn, .string ⟨#[94, 61]⟩, .string ⟨#[]⟩] 46)) (.slice a l.length c) l) => hm1 (.slice (some ⟨U.heap.size, 0, none⟩) 1 1) [⟨mn, ⟨#[94, 61]⟩, ⟨#[]⟩⟩] (by intro x hx; cases List.mem_singleton.1 hx; exact ⟨hmr.out.1, (show (⟨#[94, 61]⟩ : ByteArray).size ≤ reachBytes by decide), (show (⟨#[]⟩ : ByteArray).size ≤ reachBytes by decide)⟩) (by simp) _ h1 (one_mt U _ _ _)
        rw [show matchB l [⟨mn, ⟨#[94, 61]⟩, ⟨#[]⟩⟩] = true by rw [matchB_one, sign_pre]; exact pre_nil _] at hn1
        have hmM := fun U (h1 : Lbs U (.slice a l.length c) l) (h2 : Mts U (.slice a2 ms.length c2) ms) => hm1 _ ms hm.out (by omega) U h1 h2
        have hmA := fun x U (h1 : Lbs U (.slice a l.length c) l) (h2 : Mts U x (ms ++ [⟨mn, ⟨#[61]⟩, mv⟩])) => hm1 x _ (by intro y hy; rcases List.mem_append.1 hy with hy | hy; exact hm.out y hy; exact r0 y hy) (by simp; omega) U h1 h2
        rw [matchB_more] at hmA
        generalize matchB l ms = MS at *
        clear hm1
        rw [hE] at hcn
        rw [hP] at hcb
        generalize matchB l [⟨mn, ⟨#[61]⟩, mv⟩] = E at *
        generalize matchB l [⟨mn, ⟨#[94, 61]⟩, mv⟩] = P at *
        cases E with
          | true =>
            obtain rfl := hEP rfl
            refine wp_region_grow (w := W7) (fun i => match i with | 2 => some (fun u W => Mts W u [⟨mn, ⟨#[61]⟩, mv⟩]) | 3 => some (fun u _ => u = .bool true) | 6 => some (fun u W => Mts W u [⟨mn, ⟨#[33, 61]⟩, mv⟩]) | 7 => some (fun u _ => u = .bool false) | 12 => some (fun u W => Mts W u [⟨mn, ⟨#[94, 61]⟩, mv⟩]) | 13 => some (fun u _ => u = .bool true) | 16 => some (fun u W => Mts W u [⟨mn, ⟨#[33, 94]⟩, mv⟩]) | 17 => some (fun u _ => u = .bool false) | 23 => some (fun u W => Mts W u [⟨mn, ⟨#[61]⟩, mv⟩]) | 24 => some (fun u _ => u = .bool true) | 28 => some (fun u W => Mts W u [⟨mn, ⟨#[94, 61]⟩, mv⟩]) | 29 => some (fun u _ => u = .bool true) | _ => none) ?_ (by kernel_rfl) (by kernel_rfl) ?_
            · intro i s hs v W W' h g
              dsimp only at hs; split at hs <;> cases hs <;> first | exact Sls.grow h g | exact h
            refine wpG_pure rfl rfl rfl rfl (fun K hK => ?_); go_big_quiet_op; refine hK _ ?_; clear hK K
            refine wpG_pure rfl rfl rfl rfl (fun K hK => ?_); go_big_quiet_op; refine hK _ ?_; clear hK K
            refine wpG_tell rfl rfl rfl (fun W hW => ?_) (fun x2 hx2 K hK => ?_)
            · exact tell_run (.slice (some ⟨W.heap.size, 0, none⟩) 1 1) (W.alloc (.cells #[.string mn, .string ⟨#[61]⟩, .string mv] 46)) (by go_simp) ((Below.refl _ _).alloc (Nat.le_refl _) _) (one_mt W _ _ _)
            go_big_quiet_op; refine hK _ ?_; clear hK K
            refine wpG_call (.bool true) rfl rfl rfl (fun W hW => ?_) (fun K hK => ?_)
            · refine tell_fn #[.slice a l.length c, x2] rfl (by simp [Act.eval]) Try.func33 (by kernel_rfl) (by kernel_rfl) ?_
              refine (hcq x2 W hW.1 ((hW.2 2 _ rfl (by kernel_rfl)).2 rfl)).mono ?_
              rintro e w' ⟨h1, h2⟩
              exact ⟨_, h1, h2, rfl⟩
            go_big_quiet_op; refine hK _ ?_; clear hK K
            refine wpG_pure rfl rfl rfl rfl (fun K hK => ?_); go_big_quiet_op; refine hK _ ?_; clear hK K
            refine wpG_pure rfl rfl rfl rfl (fun K hK => ?_); go_big_quiet_op; refine hK _ ?_; clear hK K
            refine wpG_tell rfl rfl rfl (fun W hW => ?_) (fun x6 hx6 K hK => ?_)
            · exact tell_run (.slice (some ⟨W.heap.size, 0, none⟩) 1 1) (W.alloc (.cells #[.string mn, .string ⟨#[33, 61]⟩, .string mv] 46)) (by go_simp) ((Below.refl _ _).alloc (Nat.le_refl _) _) (one_mt W _ _ _)
            go_big_quiet_op; refine hK _ ?_; clear hK K
            refine wpG_call (.bool false) rfl rfl rfl (fun W hW => ?_) (fun K hK => ?_)
            · refine tell_fn #[.slice a l.length c, x6] rfl (by simp [Act.eval]) Try.func33 (by kernel_rfl) (by kernel_rfl) ?_
              refine (hcn x6 W hW.1 ((hW.2 6 _ rfl (by kernel_rfl)).2 rfl)).mono ?_
              rintro e w' ⟨h1, h2⟩
              exact ⟨_, h1, h2, rfl⟩
            go_big_quiet_op; refine hK _ ?_; clear hK K
            refine wpG_pure rfl rfl rfl rfl (fun K hK => ?_); go_big_quiet_op; refine hK _ ?_; clear hK K
            refine wpG_pure rfl rfl rfl rfl (fun K hK => ?_); go_big_quiet_op; refine hK _ ?_; clear hK K
            refine wpG_pure rfl rfl rfl rfl (fun K hK => ?_); go_big_quiet_op; refine hK _ ?_; clear hK K
            refine wpG_pure rfl rfl rfl rfl (fun K hK => ?_); go_big_quiet_op; refine hK _ ?_; clear hK K
            refine wpG_tell rfl rfl rfl (fun W hW => ?_) (fun x12 hx12 K hK => ?_)
            · exact tell_run (.slice (some ⟨W.heap.size, 0, none⟩) 1 1) (W.alloc (.cells #[.string mn, .string ⟨#[94, 61]⟩, .string mv] 46)) (by go_simp) ((Below.refl _ _).alloc (Nat.le_refl _) _) (one_mt W _ _ _)
            go_big_quiet_op; refine hK _ ?_; clear hK K
            refine wpG_call (.bool true) rfl rfl rfl (fun W hW => ?_) (fun K hK => ?_)
            · refine tell_fn #[.slice a l.length c, x12] rfl (by simp [Act.eval]) Try.func33 (by kernel_rfl) (by kernel_rfl) ?_
              refine (hce x12 W hW.1 ((hW.2 12 _ rfl (by kernel_rfl)).2 rfl)).mono ?_
              rintro e w' ⟨h1, h2⟩
              exact ⟨_, h1, h2, rfl⟩
            go_big_quiet_op; refine hK _ ?_; clear hK K
            refine wpG_pure rfl rfl rfl rfl (fun K hK => ?_); go_big_quiet_op; refine hK _ ?_; clear hK K
            refine wpG_pure rfl rfl rfl rfl (fun K hK => ?_); go_big_quiet_op; refine hK _ ?_; clear hK K
            refine wpG_tell rfl rfl rfl (fun W hW => ?_) (fun x16 hx16 K hK => ?_)
            · exact tell_run (.slice (some ⟨W.heap.size, 0, none⟩) 1 1) (W.alloc (.cells #[.string mn, .string ⟨#[33, 94]⟩, .string mv] 46)) (by go_simp) ((Below.refl _ _).alloc (Nat.le_refl _) _) (one_mt W _ _ _)
            go_big_quiet_op; refine hK _ ?_; clear hK K
            refine wpG_call (.bool false) rfl rfl rfl (fun W hW => ?_) (fun K hK => ?_)
            · refine tell_fn #[.slice a l.length c, x16] rfl (by simp [Act.eval]) Try.func33 (by kernel_rfl) (by kernel_rfl) ?_
              refine (hcb x16 W hW.1 ((hW.2 16 _ rfl (by kernel_rfl)).2 rfl)).mono ?_
              rintro e w' ⟨h1, h2⟩
              exact ⟨_, h1, h2, rfl⟩
            go_big_quiet_op; refine hK _ ?_; clear hK K
            refine wpG_pure rfl rfl rfl rfl (fun K hK => ?_); go_big_quiet_op; refine hK _ ?_; clear hK K
            refine wpG_pure rfl rfl rfl rfl (fun K hK => ?_); go_big_quiet_op; refine hK _ ?_; clear hK K
            refine wpG_pure rfl rfl rfl rfl (fun K hK => ?_); go_big_quiet_op; refine hK _ ?_; clear hK K
            refine wpG_pure rfl rfl rfl rfl (fun K hK => ?_); go_big_quiet_op; refine hK _ ?_; clear hK K
            refine wpG_pure rfl rfl rfl rfl (fun K hK => ?_); go_big_quiet_op; refine hK _ ?_; clear hK K
            refine wpG_tell rfl rfl rfl (fun W hW => ?_) (fun x23 hx23 K hK => ?_)
            · exact tell_run (.slice (some ⟨W.heap.size, 0, none⟩) 1 1) (W.alloc (.cells #[.string mn, .string ⟨#[61]⟩, .string mv] 46)) (by go_simp) ((Below.refl _ _).alloc (Nat.le_refl _) _) (one_mt W _ _ _)
            go_big_quiet_op; refine hK _ ?_; clear hK K
            refine wpG_call (.bool true) rfl rfl rfl (fun W hW => ?_) (fun K hK => ?_)
            · refine tell_fn #[.slice a l.length c, x23] rfl (by simp [Act.eval]) Try.func33 (by kernel_rfl) (by kernel_rfl) ?_
              refine (hcq x23 W hW.1 ((hW.2 23 _ rfl (by kernel_rfl)).2 rfl)).mono ?_
              rintro e w' ⟨h1, h2⟩
              exact ⟨_, h1, h2, rfl⟩
            go_big_quiet_op; refine hK _ ?_; clear hK K
            refine wpG_pure rfl rfl rfl rfl (fun K hK => ?_); go_big_quiet_op; refine hK _ ?_; clear hK K
            refine wpG_pure rfl rfl rfl rfl (fun K hK => ?_); go_big_quiet_op; refine hK _ ?_; clear hK K
            refine wpG_pure rfl rfl rfl rfl (fun K hK => ?_); go_big_quiet_op; refine hK _ ?_; clear hK K
            refine wpG_tell rfl rfl rfl (fun W hW => ?_) (fun x28 hx28 K hK => ?_)
            · exact tell_run (.slice (some ⟨W.heap.size, 0, none⟩) 1 1) (W.alloc (.cells #[.string mn, .string ⟨#[94, 61]⟩, .string mv] 46)) (by go_simp) ((Below.refl _ _).alloc (Nat.le_refl _) _) (one_mt W _ _ _)
            go_big_quiet_op; refine hK _ ?_; clear hK K
            refine wpG_call (.bool true) rfl rfl rfl (fun W hW => ?_) (fun K hK => ?_)
            · refine tell_fn #[.slice a l.length c, x28] rfl (by simp [Act.eval]) Try.func33 (by kernel_rfl) (by kernel_rfl) ?_
              refine (hce x28 W hW.1 ((hW.2 28 _ rfl (by kernel_rfl)).2 rfl)).mono ?_
              rintro e w' ⟨h1, h2⟩
              exact ⟨_, h1, h2, rfl⟩
            go_big_quiet_op; refine hK _ ?_; clear hK K
            refine wpG_pure rfl rfl rfl rfl (fun K hK => ?_); go_big_quiet_op; refine hK _ ?_; clear hK K
            refine wpG_pure rfl rfl rfl rfl (fun K hK => ?_); go_big_quiet_op; refine hK _ ?_; clear hK K
            refine wpG_pure rfl rfl rfl rfl (fun K hK => ?_); go_big_quiet_op; refine hK _ ?_; clear hK K
            refine wpG_nil ?_
            intro W hW _
            have hG8 : Below W7.heap.size W7 W := hW.gw
            have hB8 := hB7.trans (hG8.mono hB7.size)
            have e0 := Bel.cell ⟨W, hG8⟩ c40
            clear f00 f01 f02 f10 f11 f12 f20 f21 f22 f30 f31 f32
            go_wp2_with (first
              | (go_at_call 33; with_reducible refine (hn0 W (hvk.out _ hB8)).mono ?_; rintro e w9 ⟨rfl, hb9⟩; have hG9 := hG8.trans (hb9.mono hG8.size); have hB9 := hB8.trans (hb9.mono hB8.size); have e9 := Bel.cell ⟨w9, hG9⟩ c40)
              | (go_at_call 33; with_reducible refine (hn1 w9 (hvk.out _ (hB9.alloc hB9.size _))).mono ?_; rintro e w10 ⟨rfl, hb10⟩; have hG10 := (hG9.alloc hG9.size _).trans (hb10.mono (hG9.alloc hG9.size _).size); have hB10 := (hB9.alloc hB9.size _).trans (hb10.mono (hB9.alloc hB9.size _).size)))
            have hS : ∀ X, Below w10.heap.size w10 X → X.cell? ⟨w1.heap.size, 0, none⟩ = some (.string mn) ∧ X.cell? ⟨w1.heap.size, 1, none⟩ = some (.string ⟨#[61]⟩) ∧ X.cell? ⟨w1.heap.size, 2, none⟩ = some (.string mv) := fun X h => ⟨Bel.cell ⟨X, hG10.trans (h.mono hG10.size)⟩ c00, Bel.cell ⟨X, hG10.trans (h.mono hG10.size)⟩ c01, Bel.cell ⟨X, hG10.trans (h.mono hG10.size)⟩ c02⟩
            have hS0 := hS _ (Below.refl _ _)
            have hqq : ∀ X, Below w10.heap.size w10 X → Cw W7 X := fun X h => Gw.cw (hG10.trans (h.mono hG10.size))
            have hu10 := huk.out _ hB10
            clear hn0 hn1 e9 e0 hb9 hb10
            have bA : Below w10.heap.size w10 (w10.alloc (.cells #[] 46)).drew := ((Below.refl _ _).alloc (Nat.le_refl _) _).drew
            have bB : Below w10.heap.size w10 ((w10.alloc (.cells #[] 46)).alloc (.cells #[.string mn, .string ⟨#[61]⟩, .string mv] 46)).drew := (((Below.refl _ _).alloc (Nat.le_refl _) _).alloc (by simp) _).drew
            have bC : Below w10.heap.size w10 ((w10.alloc (.cells #[.string mn, .string ⟨#[61]⟩, .string mv] 46)).alloc (.cells #[] 46)).drew := (((Below.refl _ _).alloc (Nat.le_refl _) _).alloc (by simp) _).drew
            have oA : OwnM (w10.alloc (.cells #[] 46)).drew w10.heap.size (.slice (some ⟨w10.heap.size, 0, none⟩) 0 0) [] := own_empty (T := TM) w10 w10.heap.size (Nat.le_refl _)
            have oB : OwnM ((w10.alloc (.cells #[] 46)).alloc (.cells #[.string mn, .string ⟨#[61]⟩, .string mv] 46)).drew w10.heap.size (.slice (some ⟨w10.heap.size, 0, none⟩) 0 0) [] := OwnS.alloc (own_empty (T := TM) w10 w10.heap.size (Nat.le_refl _)) _
            have oC : OwnM ((w10.alloc (.cells #[.string mn, .string ⟨#[61]⟩, .string mv] 46)).alloc (.cells #[] 46)).drew w10.heap.size (.slice (some ⟨w10.heap.size + 1, 0, none⟩) 0 0) [] := by
              have := own_empty (T := TM) (w10.alloc (.cells #[.string mn, .string ⟨#[61]⟩, .string mv] 46)) w10.heap.size (by simp)
              rw [World.size_alloc] at this
              exact this
            have xB : Mts ((w10.alloc (.cells #[] 46)).alloc (.cells #[.string mn, .string ⟨#[61]⟩, .string mv] 46)).drew (.slice (some ⟨w10.heap.size + 1, 0, none⟩) 1 1) [⟨mn, ⟨#[61]⟩, mv⟩] := by
              have := one_mt (w10.alloc (.cells #[] 46)) mn ⟨#[61]⟩ mv
              rw [World.size_alloc] at this
              exact this
            have xC : Mts ((w10.alloc (.cells #[.string mn, .string ⟨#[61]⟩, .string mv] 46)).alloc (.cells #[] 46)).drew (.slice (some ⟨w10.heap.size, 0, none⟩) 1 1) [⟨mn, ⟨#[61]⟩, mv⟩] := (one_mt w10 mn ⟨#[61]⟩ mv).alloc _
            go_region_held3 (fun X => X.cell? ⟨w1.heap.size, 0, none⟩ = some (.string mn) ∧ X.cell? ⟨w1.heap.size, 1, none⟩ = some (.string ⟨#[61]⟩) ∧ X.cell? ⟨w1.heap.size, 2, none⟩ = some (.string mv)) (first | go_keep | exact hS _ hC3 | exact hS _ hC4 | exact hS _ hC5 | exact hS _ (hC3.alloc hC3.size _)) (first
              | (refine stepN TM rfl (.tmp 97) (.tmp 98) rfl w10.heap.size (.slice (some ⟨w10.heap.size, 0, none⟩) 0 0) (.slice a2 ms.length c2) [] ms rfl rfl oA (hu10.grow bA) bA.size (by simp; omega) ?_; intro v3 w3 ho3 hg3; rw [List.nil_append] at ho3; have hC3 : Below w10.heap.size w10 w3 := bA.grown hg3 bA.size (by intro q hq; cases hq; exact Nat.le_refl _))
              | (refine stepN TM rfl (.tmp 97) (.tmp 98) rfl w10.heap.size (.slice (some ⟨w10.heap.size, 0, none⟩) 0 0) (.slice a2 ms.length c2) [] ms rfl rfl oB (hu10.grow bB) bB.size (by simp; omega) ?_; intro v3 w3 ho3 hg3; rw [List.nil_append] at ho3; have hC3 : Below w10.heap.size w10 w3 := bB.grown hg3 bB.size (by intro q hq; cases hq; exact Nat.le_refl _); have hx3 := xB.kept hg3 (by simp [Value.ownBlock]))
              | (refine stepN TM rfl (.tmp 97) (.tmp 98) rfl w10.heap.size (.slice (some ⟨w10.heap.size + 1, 0, none⟩) 0 0) (.slice a2 ms.length c2) [] ms rfl rfl oC (hu10.grow bC) bC.size (by simp; omega) ?_; intro v3 w3 ho3 hg3; rw [List.nil_append] at ho3; have hC3 : Below w10.heap.size w10 w3 := bC.grown hg3 bC.size (by intro q hq; cases hq; exact Nat.le_succ _); have hx3 := xC.kept hg3 (by simp [Value.ownBlock]))
              | (refine stepN TM rfl (.tmp 99) (.tmp 101) rfl w10.heap.size v3 (.slice (some ⟨w3.heap.size, 0, none⟩) 1 1) ms [⟨mn, ⟨#[61]⟩, mv⟩] rfl rfl (ho3.alloc _) (one_mt w3 mn ⟨#[61]⟩ mv) (hC3.alloc hC3.size _).size (by simp; omega) ?_; intro v4 w4 ho4 hg4; have hC4 : Below w10.heap.size w10 w4 := (hC3.alloc hC3.size _).grown hg4 (hC3.alloc hC3.size _).size (fun q hq => (ho3.lt q hq).1))
              | (refine stepN TM rfl (.tmp 99) (.tmp 101) rfl w10.heap.size v3 _ ms [⟨mn, ⟨#[61]⟩, mv⟩] rfl rfl ho3 hx3 hC3.size (by simp; omega) ?_; intro v4 w4 ho4 hg4; have hC4 : Below w10.heap.size w10 w4 := hC3.grown hg4 hC3.size (fun q hq => (ho3.lt q hq).1))
              | (go_at_call 33; refine (hmA v4 w4 (hvk.out _ (hB10.trans (hC4.mono hB10.size))) ho4.sls).mono ?_; rintro e w5 ⟨rfl, hb5⟩; have hC5 := hC4.trans (hb5.mono hC4.size)))
            all_goals
              have hB11 := hB10.trans (hC5.mono hB10.size)
              have hk5 := hS _ hC5
              clear bA bB bC oA oB oC xB xC hu10
              cases hMs : MS with
              | true =>
                rw [hMs] at hmM
                go_wp2_with (first
                  | (go_at_call 33; with_reducible refine (hmM w5 (hvk.out _ hB11) (huk.out _ hB11)).mono ?_; rintro e w6 ⟨rfl, hb6⟩; have hC6 := hC5.trans (hb6.mono hC5.size); have hB12 := hB11.trans (hb6.mono hB11.size); have hk6 := hS _ hC6; have hq6 := hqq _ (hC6.alloc hC6.size (.cells #[.string mn, .string ⟨#[61]⟩, .string mv] 46)))
                  | (go_at_call 33; with_reducible refine (hcq _ _ hq6 (one_mt w6 mn ⟨#[61]⟩ mv)).mono ?_; rintro e w7 ⟨rfl, hb7⟩; have hB13 := (hB12.alloc hB12.size _).trans (hb7.mono (hB12.alloc hB12.size _).size))
                  | (go_at_call 10; refine (hlive _).mono ?_; rintro e w8 ⟨rfl, hb8⟩))
                go_ret
                exact ⟨rfl, hB13.trans (hb8.mono hB13.size)⟩
              | false =>
                rw [hMs] at hmM
                go_wp2_with (first
                  | (go_at_call 33; with_reducible refine (hmM w5 (hvk.out _ hB11) (huk.out _ hB11)).mono ?_; rintro e w6 ⟨rfl, hb6⟩; have hC6 := hC5.trans (hb6.mono hC5.size); have hB12 := hB11.trans (hb6.mono hB11.size); have hk6 := hS _ hC6; have hq6 := hqq _ (hC6.alloc hC6.size (.cells #[.string mn, .string ⟨#[61]⟩, .string mv] 46)))
                  | (go_at_call 33; with_reducible refine (hcq _ _ hq6 (one_mt w6 mn ⟨#[61]⟩ mv)).mono ?_; rintro e w7 ⟨rfl, hb7⟩; have hB13 := (hB12.alloc hB12.size _).trans (hb7.mono (hB12.alloc hB12.size _).size))
                  | (go_at_call 10; refine (hlive _).mono ?_; rintro e w8 ⟨rfl, hb8⟩))
                go_ret
                exact ⟨rfl, hB12.trans (hb8.mono hB12.size)⟩
          | false =>
            cases P with
              | true =>
                refine wp_region_grow (w := W7) (fun i => match i with | 2 => some (fun u W => Mts W u [⟨mn, ⟨#[61]⟩, mv⟩]) | 3 => some (fun u _ => u = .bool false) | 6 => some (fun u W => Mts W u [⟨mn, ⟨#[33, 61]⟩, mv⟩]) | 7 => some (fun u _ => u = .bool true) | 12 => some (fun u W => Mts W u [⟨mn, ⟨#[94, 61]⟩, mv⟩]) | 13 => some (fun u _ => u = .bool true) | 16 => some (fun u W => Mts W u [⟨mn, ⟨#[33, 94]⟩, mv⟩]) | 17 => some (fun u _ => u = .bool false) | 23 => some (fun u W => Mts W u [⟨mn, ⟨#[61]⟩, mv⟩]) | 24 => some (fun u _ => u = .bool false) | 28 => some (fun u W => Mts W u [⟨mn, ⟨#[94, 61]⟩, mv⟩]) | 29 => some (fun u _ => u = .bool true) | _ => none) ?_ (by kernel_rfl) (by kernel_rfl) ?_
                · intro i s hs v W W' h g
                  dsimp only at hs; split at hs <;> cases hs <;> first | exact Sls.grow h g | exact h
                refine wpG_pure rfl rfl rfl rfl (fun K hK => ?_); go_big_quiet_op; refine hK _ ?_; clear hK K
                refine wpG_pure rfl rfl rfl rfl (fun K hK => ?_); go_big_quiet_op; refine hK _ ?_; clear hK K
                refine wpG_tell rfl rfl rfl (fun W hW => ?_) (fun x2 hx2 K hK => ?_)
                · exact tell_run (.slice (some ⟨W.heap.size, 0, none⟩) 1 1) (W.alloc (.cells #[.string mn, .string ⟨#[61]⟩, .string mv] 46)) (by go_simp) ((Below.refl _ _).alloc (Nat.le_refl _) _) (one_mt W _ _ _)
                go_big_quiet_op; refine hK _ ?_; clear hK K
                refine wpG_call (.bool false) rfl rfl rfl (fun W hW => ?_) (fun K hK => ?_)
                · refine tell_fn #[.slice a l.length c, x2] rfl (by simp [Act.eval]) Try.func33 (by kernel_rfl) (by kernel_rfl) ?_
                  refine (hcq x2 W hW.1 ((hW.2 2 _ rfl (by kernel_rfl)).2 rfl)).mono ?_
                  rintro e w' ⟨h1, h2⟩
                  exact ⟨_, h1, h2, rfl⟩
                go_big_quiet_op; refine hK _ ?_; clear hK K
                refine wpG_pure rfl rfl rfl rfl (fun K hK => ?_); go_big_quiet_op; refine hK _ ?_; clear hK K
                refine wpG_pure rfl rfl rfl rfl (fun K hK => ?_); go_big_quiet_op; refine hK _ ?_; clear hK K
                refine wpG_tell rfl rfl rfl (fun W hW => ?_) (fun x6 hx6 K hK => ?_)
                · exact tell_run (.slice (some ⟨W.heap.size, 0, none⟩) 1 1) (W.alloc (.cells #[.string mn, .string ⟨#[33, 61]⟩, .string mv] 46)) (by go_simp) ((Below.refl _ _).alloc (Nat.le_refl _) _) (one_mt W _ _ _)
                go_big_quiet_op; refine hK _ ?_; clear hK K
                refine wpG_call (.bool true) rfl rfl rfl (fun W hW => ?_) (fun K hK => ?_)
                · refine tell_fn #[.slice a l.length c, x6] rfl (by simp [Act.eval]) Try.func33 (by kernel_rfl) (by kernel_rfl) ?_
                  refine (hcn x6 W hW.1 ((hW.2 6 _ rfl (by kernel_rfl)).2 rfl)).mono ?_
                  rintro e w' ⟨h1, h2⟩
                  exact ⟨_, h1, h2, rfl⟩
                go_big_quiet_op; refine hK _ ?_; clear hK K
                refine wpG_pure rfl rfl rfl rfl (fun K hK => ?_); go_big_quiet_op; refine hK _ ?_; clear hK K
                refine wpG_pure rfl rfl rfl rfl (fun K hK => ?_); go_big_quiet_op; refine hK _ ?_; clear hK K
                refine wpG_pure rfl rfl rfl rfl (fun K hK => ?_); go_big_quiet_op; refine hK _ ?_; clear hK K
                refine wpG_pure rfl rfl rfl rfl (fun K hK => ?_); go_big_quiet_op; refine hK _ ?_; clear hK K
                refine wpG_tell rfl rfl rfl (fun W hW => ?_) (fun x12 hx12 K hK => ?_)
                · exact tell_run (.slice (some ⟨W.heap.size, 0, none⟩) 1 1) (W.alloc (.cells #[.string mn, .string ⟨#[94, 61]⟩, .string mv] 46)) (by go_simp) ((Below.refl _ _).alloc (Nat.le_refl _) _) (one_mt W _ _ _)
                go_big_quiet_op; refine hK _ ?_; clear hK K
                refine wpG_call (.bool true) rfl rfl rfl (fun W hW => ?_) (fun K hK => ?_)
                · refine tell_fn #[.slice a l.length c, x12] rfl (by simp [Act.eval]) Try.func33 (by kernel_rfl) (by kernel_rfl) ?_
                  refine (hce x12 W hW.1 ((hW.2 12 _ rfl (by kernel_rfl)).2 rfl)).mono ?_
                  rintro e w' ⟨h1, h2⟩
                  exact ⟨_, h1, h2, rfl⟩
                go_big_quiet_op; refine hK _ ?_; clear hK K
                refine wpG_pure rfl rfl rfl rfl (fun K hK => ?_); go_big_quiet_op; refine hK _ ?_; clear hK K
                refine wpG_pure rfl rfl rfl rfl (fun K hK => ?_); go_big_quiet_op; refine hK _ ?_; clear hK K
                refine wpG_tell rfl rfl rfl (fun W hW => ?_) (fun x16 hx16 K hK => ?_)
                · exact tell_run (.slice (some ⟨W.heap.size, 0, none⟩) 1 1) (W.alloc (.cells #[.string mn, .string ⟨#[33, 94]⟩, .string mv] 46)) (by go_simp) ((Below.refl _ _).alloc (Nat.le_refl _) _) (one_mt W _ _ _)
                go_big_quiet_op; refine hK _ ?_; clear hK K
                refine wpG_call (.bool false) rfl rfl rfl (fun W hW => ?_) (fun K hK => ?_)
                · refine tell_fn #[.slice a l.length c, x16] rfl (by simp [Act.eval]) Try.func33 (by kernel_rfl) (by kernel_rfl) ?_
                  refine (hcb x16 W hW.1 ((hW.2 16 _ rfl (by kernel_rfl)).2 rfl)).mono ?_
                  rintro e w' ⟨h1, h2⟩
                  exact ⟨_, h1, h2, rfl⟩
                go_big_quiet_op; refine hK _ ?_; clear hK K
                refine wpG_pure rfl rfl rfl rfl (fun K hK => ?_); go_big_quiet_op; refine hK _ ?_; clear hK K
                refine wpG_pure rfl rfl rfl rfl (fun K hK => ?_); go_big_quiet_op; refine hK _ ?_; clear hK K
                refine wpG_pure rfl rfl rfl rfl (fun K hK => ?_); go_big_quiet_op; refine hK _ ?_; clear hK K
                refine wpG_pure rfl rfl rfl rfl (fun K hK => ?_); go_big_quiet_op; refine hK _ ?_; clear hK K
                refine wpG_pure rfl rfl rfl rfl (fun K hK => ?_); go_big_quiet_op; refine hK _ ?_; clear hK K
                refine wpG_tell rfl rfl rfl (fun W hW => ?_) (fun x23 hx23 K hK => ?_)
                · exact tell_run (.slice (some ⟨W.heap.size, 0, none⟩) 1 1) (W.alloc (.cells #[.string mn, .string ⟨#[61]⟩, .string mv] 46)) (by go_simp) ((Below.refl _ _).alloc (Nat.le_refl _) _) (one_mt W _ _ _)
                go_big_quiet_op; refine hK _ ?_; clear hK K
                refine wpG_call (.bool false) rfl rfl rfl (fun W hW => ?_) (fun K hK => ?_)
                · refine tell_fn #[.slice a l.length c, x23] rfl (by simp [Act.eval]) Try.func33 (by kernel_rfl) (by kernel_rfl) ?_
                  refine (hcq x23 W hW.1 ((hW.2 23 _ rfl (by kernel_rfl)).2 rfl)).mono ?_
                  rintro e w' ⟨h1, h2⟩
                  exact ⟨_, h1, h2, rfl⟩
                go_big_quiet_op; refine hK _ ?_; clear hK K
                refine wpG_pure rfl rfl rfl rfl (fun K hK => ?_); go_big_quiet_op; refine hK _ ?_; clear hK K
                refine wpG_skip rfl rfl (fun K hK => ?_); go_big_quiet_op; refine hK _ ?_; clear hK K
                refine wpG_skip rfl rfl (fun K hK => ?_); go_big_quiet_op; refine hK _ ?_; clear hK K
                refine wpG_skip rfl rfl (fun K hK => ?_); go_big_quiet_op; refine hK _ ?_; clear hK K
                refine wpG_skip rfl rfl (fun K hK => ?_); go_big_quiet_op; refine hK _ ?_; clear hK K
                refine wpG_skip rfl rfl (fun K hK => ?_); go_big_quiet_op; refine hK _ ?_; clear hK K
                refine wpG_pure rfl rfl rfl rfl (fun K hK => ?_); go_big_quiet_op; refine hK _ ?_; clear hK K
                refine wpG_pure rfl rfl rfl rfl (fun K hK => ?_); go_big_quiet_op; refine hK _ ?_; clear hK K
                refine wpG_nil ?_
                intro W hW _
                have hG8 : Below W7.heap.size W7 W := hW.gw
                have hB8 := hB7.trans (hG8.mono hB7.size)
                have e0 := Bel.cell ⟨W, hG8⟩ c40
                clear f00 f01 f02 f10 f11 f12 f20 f21 f22 f30 f31 f32
                go_wp2_with (first
                  | (go_at_call 33; with_reducible refine (hn0 W (hvk.out _ hB8)).mono ?_; rintro e w9 ⟨rfl, hb9⟩; have hG9 := hG8.trans (hb9.mono hG8.size); have hB9 := hB8.trans (hb9.mono hB8.size); have e9 := Bel.cell ⟨w9, hG9⟩ c40)
                  | (go_at_call 33; with_reducible refine (hn1 w9 (hvk.out _ (hB9.alloc hB9.size _))).mono ?_; rintro e w10 ⟨rfl, hb10⟩; have hG10 := (hG9.alloc hG9.size _).trans (hb10.mono (hG9.alloc hG9.size _).size); have hB10 := (hB9.alloc hB9.size _).trans (hb10.mono (hB9.alloc hB9.size _).size)))
                have hS : ∀ X, Below w10.heap.size w10 X → X.cell? ⟨w1.heap.size, 0, none⟩ = some (.string mn) ∧ X.cell? ⟨w1.heap.size, 1, none⟩ = some (.string ⟨#[61]⟩) ∧ X.cell? ⟨w1.heap.size, 2, none⟩ = some (.string mv) := fun X h => ⟨Bel.cell ⟨X, hG10.trans (h.mono hG10.size)⟩ c00, Bel.cell ⟨X, hG10.trans (h.mono hG10.size)⟩ c01, Bel.cell ⟨X, hG10.trans (h.mono hG10.size)⟩ c02⟩
                have hS0 := hS _ (Below.refl _ _)
                have hqq : ∀ X, Below w10.heap.size w10 X → Cw W7 X := fun X h => Gw.cw (hG10.trans (h.mono hG10.size))
                have hu10 := huk.out _ hB10
                clear hn0 hn1 e9 e0 hb9 hb10
                have bA : Below w10.heap.size w10 (w10.alloc (.cells #[] 46)).drew := ((Below.refl _ _).alloc (Nat.le_refl _) _).drew
                have bB : Below w10.heap.size w10 ((w10.alloc (.cells #[] 46)).alloc (.cells #[.string mn, .string ⟨#[61]⟩, .string mv] 46)).drew := (((Below.refl _ _).alloc (Nat.le_refl _) _).alloc (by simp) _).drew
                have bC : Below w10.heap.size w10 ((w10.alloc (.cells #[.string mn, .string ⟨#[61]⟩, .string mv] 46)).alloc (.cells #[] 46)).drew := (((Below.refl _ _).alloc (Nat.le_refl _) _).alloc (by simp) _).drew
                have oA : OwnM (w10.alloc (.cells #[] 46)).drew w10.heap.size (.slice (some ⟨w10.heap.size, 0, none⟩) 0 0) [] := own_empty (T := TM) w10 w10.heap.size (Nat.le_refl _)
                have oB : OwnM ((w10.alloc (.cells #[] 46)).alloc (.cells #[.string mn, .string ⟨#[61]⟩, .string mv] 46)).drew w10.heap.size (.slice (some ⟨w10.heap.size, 0, none⟩) 0 0) [] := OwnS.alloc (own_empty (T := TM) w10 w10.heap.size (Nat.le_refl _)) _
                have oC : OwnM ((w10.alloc (.cells #[.string mn, .string ⟨#[61]⟩, .string mv] 46)).alloc (.cells #[] 46)).drew w10.heap.size (.slice (some ⟨w10.heap.size + 1, 0, none⟩) 0 0) [] := by
                  have := own_empty (T := TM) (w10.alloc (.cells #[.string mn, .string ⟨#[61]⟩, .string mv] 46)) w10.heap.size (by simp)
                  rw [World.size_alloc] at this
                  exact this
                have xB : Mts ((w10.alloc (.cells #[] 46)).alloc (.cells #[.string mn, .string ⟨#[61]⟩, .string mv] 46)).drew (.slice (some ⟨w10.heap.size + 1, 0, none⟩) 1 1) [⟨mn, ⟨#[61]⟩, mv⟩] := by
                  have := one_mt (w10.alloc (.cells #[] 46)) mn ⟨#[61]⟩ mv
                  rw [World.size_alloc] at this
                  exact this
                have xC : Mts ((w10.alloc (.cells #[.string mn, .string ⟨#[61]⟩, .string mv] 46)).alloc (.cells #[] 46)).drew (.slice (some ⟨w10.heap.size, 0, none⟩) 1 1) [⟨mn, ⟨#[61]⟩, mv⟩] := (one_mt w10 mn ⟨#[61]⟩ mv).alloc _
                go_region_held3 (fun X => X.cell? ⟨w1.heap.size, 0, none⟩ = some (.string mn) ∧ X.cell? ⟨w1.heap.size, 1, none⟩ = some (.string ⟨#[61]⟩) ∧ X.cell? ⟨w1.heap.size, 2, none⟩ = some (.string mv)) (first | go_keep | exact hS _ hC3 | exact hS _ hC4 | exact hS _ hC5 | exact hS _ (hC3.alloc hC3.size _)) (first
                  | (refine stepN TM rfl (.tmp 97) (.tmp 98) rfl w10.heap.size (.slice (some ⟨w10.heap.size, 0, none⟩) 0 0) (.slice a2 ms.length c2) [] ms rfl rfl oA (hu10.grow bA) bA.size (by simp; omega) ?_; intro v3 w3 ho3 hg3; rw [List.nil_append] at ho3; have hC3 : Below w10.heap.size w10 w3 := bA.grown hg3 bA.size (by intro q hq; cases hq; exact Nat.le_refl _))
                  | (refine stepN TM rfl (.tmp 97) (.tmp 98) rfl w10.heap.size (.slice (some ⟨w10.heap.size, 0, none⟩) 0 0) (.slice a2 ms.length c2) [] ms rfl rfl oB (hu10.grow bB) bB.size (by simp; omega) ?_; intro v3 w3 ho3 hg3; rw [List.nil_append] at ho3; have hC3 : Below w10.heap.size w10 w3 := bB.grown hg3 bB.size (by intro q hq; cases hq; exact Nat.le_refl _); have hx3 := xB.kept hg3 (by simp [Value.ownBlock]))
                  | (refine stepN TM rfl (.tmp 97) (.tmp 98) rfl w10.heap.size (.slice (some ⟨w10.heap.size + 1, 0, none⟩) 0 0) (.slice a2 ms.length c2) [] ms rfl rfl oC (hu10.grow bC) bC.size (by simp; omega) ?_; intro v3 w3 ho3 hg3; rw [List.nil_append] at ho3; have hC3 : Below w10.heap.size w10 w3 := bC.grown hg3 bC.size (by intro q hq; cases hq; exact Nat.le_succ _); have hx3 := xC.kept hg3 (by simp [Value.ownBlock]))
                  | (refine stepN TM rfl (.tmp 99) (.tmp 101) rfl w10.heap.size v3 (.slice (some ⟨w3.heap.size, 0, none⟩) 1 1) ms [⟨mn, ⟨#[61]⟩, mv⟩] rfl rfl (ho3.alloc _) (one_mt w3 mn ⟨#[61]⟩ mv) (hC3.alloc hC3.size _).size (by simp; omega) ?_; intro v4 w4 ho4 hg4; have hC4 : Below w10.heap.size w10 w4 := (hC3.alloc hC3.size _).grown hg4 (hC3.alloc hC3.size _).size (fun q hq => (ho3.lt q hq).1))
                  | (refine stepN TM rfl (.tmp 99) (.tmp 101) rfl w10.heap.size v3 _ ms [⟨mn, ⟨#[61]⟩, mv⟩] rfl rfl ho3 hx3 hC3.size (by simp; omega) ?_; intro v4 w4 ho4 hg4; have hC4 : Below w10.heap.size w10 w4 := hC3.grown hg4 hC3.size (fun q hq => (ho3.lt q hq).1))
                  | (go_at_call 33; refine (hmA v4 w4 (hvk.out _ (hB10.trans (hC4.mono hB10.size))) ho4.sls).mono ?_; rintro e w5 ⟨rfl, hb5⟩; have hC5 := hC4.trans (hb5.mono hC4.size)))
                all_goals
                  have hB11 := hB10.trans (hC5.mono hB10.size)
                  have hk5 := hS _ hC5
                  clear bA bB bC oA oB oC xB xC hu10
                  cases hMs : MS with
                  | true =>
                    rw [hMs] at hmM
                    go_wp2_with (first
                      | (go_at_call 33; with_reducible refine (hmM w5 (hvk.out _ hB11) (huk.out _ hB11)).mono ?_; rintro e w6 ⟨rfl, hb6⟩; have hC6 := hC5.trans (hb6.mono hC5.size); have hB12 := hB11.trans (hb6.mono hB11.size); have hk6 := hS _ hC6; have hq6 := hqq _ (hC6.alloc hC6.size (.cells #[.string mn, .string ⟨#[61]⟩, .string mv] 46)))
                      | (go_at_call 33; with_reducible refine (hcq _ _ hq6 (one_mt w6 mn ⟨#[61]⟩ mv)).mono ?_; rintro e w7 ⟨rfl, hb7⟩; have hB13 := (hB12.alloc hB12.size _).trans (hb7.mono (hB12.alloc hB12.size _).size))
                      | (go_at_call 10; refine (hlive _).mono ?_; rintro e w8 ⟨rfl, hb8⟩))
                    go_ret
                    exact ⟨rfl, hB13.trans (hb8.mono hB13.size)⟩
                  | false =>
                    rw [hMs] at hmM
                    go_wp2_with (first
                      | (go_at_call 33; with_reducible refine (hmM w5 (hvk.out _ hB11) (huk.out _ hB11)).mono ?_; rintro e w6 ⟨rfl, hb6⟩; have hC6 := hC5.trans (hb6.mono hC5.size); have hB12 := hB11.trans (hb6.mono hB11.size); have hk6 := hS _ hC6; have hq6 := hqq _ (hC6.alloc hC6.size (.cells #[.string mn, .string ⟨#[61]⟩, .string mv] 46)))
                      | (go_at_call 33; with_reducible refine (hcq _ _ hq6 (one_mt w6 mn ⟨#[61]⟩ mv)).mono ?_; rintro e w7 ⟨rfl, hb7⟩; have hB13 := (hB12.alloc hB12.size _).trans (hb7.mono (hB12.alloc hB12.size _).size))
                      | (go_at_call 10; refine (hlive _).mono ?_; rintro e w8 ⟨rfl, hb8⟩))
                    go_ret
                    exact ⟨rfl, hB12.trans (hb8.mono hB12.size)⟩
              | false =>
                refine wp_region_grow (w := W7) (fun i => match i with | 2 => some (fun u W => Mts W u [⟨mn, ⟨#[61]⟩, mv⟩]) | 3 => some (fun u _ => u = .bool false) | 6 => some (fun u W => Mts W u [⟨mn, ⟨#[33, 61]⟩, mv⟩]) | 7 => some (fun u _ => u = .bool true) | 12 => some (fun u W => Mts W u [⟨mn, ⟨#[94, 61]⟩, mv⟩]) | 13 => some (fun u _ => u = .bool false) | 16 => some (fun u W => Mts W u [⟨mn, ⟨#[33, 94]⟩, mv⟩]) | 17 => some (fun u _ => u = .bool true) | 23 => some (fun u W => Mts W u [⟨mn, ⟨#[61]⟩, mv⟩]) | 24 => some (fun u _ => u = .bool false) | 28 => some (fun u W => Mts W u [⟨mn, ⟨#[94, 61]⟩, mv⟩]) | 29 => some (fun u _ => u = .bool false) | _ => none) ?_ (by kernel_rfl) (by kernel_rfl) ?_
                · intro i s hs v W W' h g
                  dsimp only at hs; split at hs <;> cases hs <;> first | exact Sls.grow h g | exact h
                refine wpG_pure rfl rfl rfl rfl (fun K hK => ?_); go_big_quiet_op; refine hK _ ?_; clear hK K
                refine wpG_pure rfl rfl rfl rfl (fun K hK => ?_); go_big_quiet_op; refine hK _ ?_; clear hK K
                refine wpG_tell rfl rfl rfl (fun W hW => ?_) (fun x2 hx2 K hK => ?_)
                · exact tell_run (.slice (some ⟨W.heap.size, 0, none⟩) 1 1) (W.alloc (.cells #[.string mn, .string ⟨#[61]⟩, .string mv] 46)) (by go_simp) ((Below.refl _ _).alloc (Nat.le_refl _) _) (one_mt W _ _ _)
                go_big_quiet_op; refine hK _ ?_; clear hK K
                refine wpG_call (.bool false) rfl rfl rfl (fun W hW => ?_) (fun K hK => ?_)
                · refine tell_fn #[.slice a l.length c, x2] rfl (by simp [Act.eval]) Try.func33 (by kernel_rfl) (by kernel_rfl) ?_
                  refine (hcq x2 W hW.1 ((hW.2 2 _ rfl (by kernel_rfl)).2 rfl)).mono ?_
                  rintro e w' ⟨h1, h2⟩
                  exact ⟨_, h1, h2, rfl⟩
                go_big_quiet_op; refine hK _ ?_; clear hK K
                refine wpG_pure rfl rfl rfl rfl (fun K hK => ?_); go_big_quiet_op; refine hK _ ?_; clear hK K
                refine wpG_pure rfl rfl rfl rfl (fun K hK => ?_); go_big_quiet_op; refine hK _ ?_; clear hK K
                refine wpG_tell rfl rfl rfl (fun W hW => ?_) (fun x6 hx6 K hK => ?_)
                · exact tell_run (.slice (some ⟨W.heap.size, 0, none⟩) 1 1) (W.alloc (.cells #[.string mn, .string ⟨#[33, 61]⟩, .string mv] 46)) (by go_simp) ((Below.refl _ _).alloc (Nat.le_refl _) _) (one_mt W _ _ _)
                go_big_quiet_op; refine hK _ ?_; clear hK K
                refine wpG_call (.bool true) rfl rfl rfl (fun W hW => ?_) (fun K hK => ?_)
                · refine tell_fn #[.slice a l.length c, x6] rfl (by simp [Act.eval]) Try.func33 (by kernel_rfl) (by kernel_rfl) ?_
                  refine (hcn x6 W hW.1 ((hW.2 6 _ rfl (by kernel_rfl)).2 rfl)).mono ?_
                  rintro e w' ⟨h1, h2⟩
                  exact ⟨_, h1, h2, rfl⟩
                go_big_quiet_op; refine hK _ ?_; clear hK K
                refine wpG_pure rfl rfl rfl rfl (fun K hK => ?_); go_big_quiet_op; refine hK _ ?_; clear hK K
                refine wpG_pure rfl rfl rfl rfl (fun K hK => ?_); go_big_quiet_op; refine hK _ ?_; clear hK K
                refine wpG_pure rfl rfl rfl rfl (fun K hK => ?_); go_big_quiet_op; refine hK _ ?_; clear hK K
                refine wpG_pure rfl rfl rfl rfl (fun K hK => ?_); go_big_quiet_op; refine hK _ ?_; clear hK K
                refine wpG_tell rfl rfl rfl (fun W hW => ?_) (fun x12 hx12 K hK => ?_)
                · exact tell_run (.slice (some ⟨W.heap.size, 0, none⟩) 1 1) (W.alloc (.cells #[.string mn, .string ⟨#[94, 61]⟩, .string mv] 46)) (by go_simp) ((Below.refl _ _).alloc (Nat.le_refl _) _) (one_mt W _ _ _)
                go_big_quiet_op; refine hK _ ?_; clear hK K
                refine wpG_call (.bool false) rfl rfl rfl (fun W hW => ?_) (fun K hK => ?_)
                · refine tell_fn #[.slice a l.length c, x12] rfl (by simp [Act.eval]) Try.func33 (by kernel_rfl) (by kernel_rfl) ?_
                  refine (hce x12 W hW.1 ((hW.2 12 _ rfl (by kernel_rfl)).2 rfl)).mono ?_
                  rintro e w' ⟨h1, h2⟩
                  exact ⟨_, h1, h2, rfl⟩
                go_big_quiet_op; refine hK _ ?_; clear hK K
                refine wpG_pure rfl rfl rfl rfl (fun K hK => ?_); go_big_quiet_op; refine hK _ ?_; clear hK K
                refine wpG_pure rfl rfl rfl rfl (fun K hK => ?_); go_big_quiet_op; refine hK _ ?_; clear hK K
                refine wpG_tell rfl rfl rfl (fun W hW => ?_) (fun x16 hx16 K hK => ?_)
                · exact tell_run (.slice (some ⟨W.heap.size, 0, none⟩) 1 1) (W.alloc (.cells #[.string mn, .string ⟨#[33, 94]⟩, .string mv] 46)) (by go_simp) ((Below.refl _ _).alloc (Nat.le_refl _) _) (one_mt W _ _ _)
                go_big_quiet_op; refine hK _ ?_; clear hK K
                refine wpG_call (.bool true) rfl rfl rfl (fun W hW => ?_) (fun K hK => ?_)
                · refine tell_fn #[.slice a l.length c, x16] rfl (by simp [Act.eval]) Try.func33 (by kernel_rfl) (by kernel_rfl) ?_
                  refine (hcb x16 W hW.1 ((hW.2 16 _ rfl (by kernel_rfl)).2 rfl)).mono ?_
                  rintro e w' ⟨h1, h2⟩
                  exact ⟨_, h1, h2, rfl⟩
                go_big_quiet_op; refine hK _ ?_; clear hK K
                refine wpG_pure rfl rfl rfl rfl (fun K hK => ?_); go_big_quiet_op; refine hK _ ?_; clear hK K
                refine wpG_pure rfl rfl rfl rfl (fun K hK => ?_); go_big_quiet_op; refine hK _ ?_; clear hK K
                refine wpG_pure rfl rfl rfl rfl (fun K hK => ?_); go_big_quiet_op; refine hK _ ?_; clear hK K
                refine wpG_pure rfl rfl rfl rfl (fun K hK => ?_); go_big_quiet_op; refine hK _ ?_; clear hK K
                refine wpG_pure rfl rfl rfl rfl (fun K hK => ?_); go_big_quiet_op; refine hK _ ?_; clear hK K
                refine wpG_tell rfl rfl rfl (fun W hW => ?_) (fun x23 hx23 K hK => ?_)
                · exact tell_run (.slice (some ⟨W.heap.size, 0, none⟩) 1 1) (W.alloc (.cells #[.string mn, .string ⟨#[61]⟩, .string mv] 46)) (by go_simp) ((Below.refl _ _).alloc (Nat.le_refl _) _) (one_mt W _ _ _)
                go_big_quiet_op; refine hK _ ?_; clear hK K
                refine wpG_call (.bool false) rfl rfl rfl (fun W hW => ?_) (fun K hK => ?_)
                · refine tell_fn #[.slice a l.length c, x23] rfl (by simp [Act.eval]) Try.func33 (by kernel_rfl) (by kernel_rfl) ?_
                  refine (hcq x23 W hW.1 ((hW.2 23 _ rfl (by kernel_rfl)).2 rfl)).mono ?_
                  rintro e w' ⟨h1, h2⟩
                  exact ⟨_, h1, h2, rfl⟩
                go_big_quiet_op; refine hK _ ?_; clear hK K
                refine wpG_pure rfl rfl rfl rfl (fun K hK => ?_); go_big_quiet_op; refine hK _ ?_; clear hK K
                refine wpG_skip rfl rfl (fun K hK => ?_); go_big_quiet_op; refine hK _ ?_; clear hK K
                refine wpG_skip rfl rfl (fun K hK => ?_); go_big_quiet_op; refine hK _ ?_; clear hK K
                refine wpG_skip rfl rfl (fun K hK => ?_); go_big_quiet_op; refine hK _ ?_; clear hK K
                refine wpG_skip rfl rfl (fun K hK => ?_); go_big_quiet_op; refine hK _ ?_; clear hK K
                refine wpG_skip rfl rfl (fun K hK => ?_); go_big_quiet_op; refine hK _ ?_; clear hK K
                refine wpG_pure rfl rfl rfl rfl (fun K hK => ?_); go_big_quiet_op; refine hK _ ?_; clear hK K
                refine wpG_pure rfl rfl rfl rfl (fun K hK => ?_); go_big_quiet_op; refine hK _ ?_; clear hK K
                refine wpG_nil ?_
                intro W hW _
                have hG8 : Below W7.heap.size W7 W := hW.gw
                have hB8 := hB7.trans (hG8.mono hB7.size)
                have e0 := Bel.cell ⟨W, hG8⟩ c40
                clear f00 f01 f02 f10 f11 f12 f20 f21 f22 f30 f31 f32
                go_wp2_with (first
                  | (go_at_call 33; with_reducible refine (hn0 W (hvk.out _ hB8)).mono ?_; rintro e w9 ⟨rfl, hb9⟩; have hG9 := hG8.trans (hb9.mono hG8.size); have hB9 := hB8.trans (hb9.mono hB8.size); have e9 := Bel.cell ⟨w9, hG9⟩ c40)
                  | (go_at_call 33; with_reducible refine (hn1 w9 (hvk.out _ (hB9.alloc hB9.size _))).mono ?_; rintro e w10 ⟨rfl, hb10⟩; have hG10 := (hG9.alloc hG9.size _).trans (hb10.mono (hG9.alloc hG9.size _).size); have hB10 := (hB9.alloc hB9.size _).trans (hb10.mono (hB9.alloc hB9.size _).size)))
                have hS : ∀ X, Below w10.heap.size w10 X → X.cell? ⟨w1.heap.size, 0, none⟩ = some (.string mn) ∧ X.cell? ⟨w1.heap.size, 1, none⟩ = some (.string ⟨#[61]⟩) ∧ X.cell? ⟨w1.heap.size, 2, none⟩ = some (.string mv) := fun X h => ⟨Bel.cell ⟨X, hG10.trans (h.mono hG10.size)⟩ c00, Bel.cell ⟨X, hG10.trans (h.mono hG10.size)⟩ c01, Bel.cell ⟨X, hG10.trans (h.mono hG10.size)⟩ c02⟩
                have hS0 := hS _ (Below.refl _ _)
                have hqq : ∀ X, Below w10.heap.size w10 X → Cw W7 X := fun X h => Gw.cw (hG10.trans (h.mono hG10.size))
                have hu10 := huk.out _ hB10
                clear hn0 hn1 e9 e0 hb9 hb10
                have bA : Below w10.heap.size w10 (w10.alloc (.cells #[] 46)).drew := ((Below.refl _ _).alloc (Nat.le_refl _) _).drew
                have bB : Below w10.heap.size w10 ((w10.alloc (.cells #[] 46)).alloc (.cells #[.string mn, .string ⟨#[61]⟩, .string mv] 46)).drew := (((Below.refl _ _).alloc (Nat.le_refl _) _).alloc (by simp) _).drew
                have bC : Below w10.heap.size w10 ((w10.alloc (.cells #[.string mn, .string ⟨#[61]⟩, .string mv] 46)).alloc (.cells #[] 46)).drew := (((Below.refl _ _).alloc (Nat.le_refl _) _).alloc (by simp) _).drew
                have oA : OwnM (w10.alloc (.cells #[] 46)).drew w10.heap.size (.slice (some ⟨w10.heap.size, 0, none⟩) 0 0) [] := own_empty (T := TM) w10 w10.heap.size (Nat.le_refl _)
                have oB : OwnM ((w10.alloc (.cells #[] 46)).alloc (.cells #[.string mn, .string ⟨#[61]⟩, .string mv] 46)).drew w10.heap.size (.slice (some ⟨w10.heap.size, 0, none⟩) 0 0) [] := OwnS.alloc (own_empty (T := TM) w10 w10.heap.size (Nat.le_refl _)) _
                have oC : OwnM ((w10.alloc (.cells #[.string mn, .string ⟨#[61]⟩, .string mv] 46)).alloc (.cells #[] 46)).drew w10.heap.size (.slice (some ⟨w10.heap.size + 1, 0, none⟩) 0 0) [] := by
                  have := own_empty (T := TM) (w10.alloc (.cells #[.string mn, .string ⟨#[61]⟩, .string mv] 46)) w10.heap.size (by simp)
                  rw [World.size_alloc] at this
                  exact this
                have xB : Mts ((w10.alloc (.cells #[] 46)).alloc (.cells #[.string mn, .string ⟨#[61]⟩, .string mv] 46)).drew (.slice (some ⟨w10.heap.size + 1, 0, none⟩) 1 1) [⟨mn, ⟨#[61]⟩, mv⟩] := by
                  have := one_mt (w10.alloc (.cells #[] 46)) mn ⟨#[61]⟩ mv
                  rw [World.size_alloc] at this
                  exact this
                have xC : Mts ((w10.alloc (.cells #[.string mn, .string ⟨#[61]⟩, .string mv] 46)).alloc (.cells #[] 46)).drew (.slice (some ⟨w10.heap.size, 0, none⟩) 1 1) [⟨mn, ⟨#[61]⟩, mv⟩] := (one_mt w10 mn ⟨#[61]⟩ mv).alloc _
                go_region_held3 (fun X => X.cell? ⟨w1.heap.size, 0, none⟩ = some (.string mn) ∧ X.cell? ⟨w1.heap.size, 1, none⟩ = some (.string ⟨#[61]⟩) ∧ X.cell? ⟨w1.heap.size, 2, none⟩ = some (.string mv)) (first | go_keep | exact hS _ hC3 | exact hS _ hC4 | exact hS _ hC5 | exact hS _ (hC3.alloc hC3.size _)) (first
                  | (refine stepN TM rfl (.tmp 97) (.tmp 98) rfl w10.heap.size (.slice (some ⟨w10.heap.size, 0, none⟩) 0 0) (.slice a2 ms.length c2) [] ms rfl rfl oA (hu10.grow bA) bA.size (by simp; omega) ?_; intro v3 w3 ho3 hg3; rw [List.nil_append] at ho3; have hC3 : Below w10.heap.size w10 w3 := bA.grown hg3 bA.size (by intro q hq; cases hq; exact Nat.le_refl _))
                  | (refine stepN TM rfl (.tmp 97) (.tmp 98) rfl w10.heap.size (.slice (some ⟨w10.heap.size, 0, none⟩) 0 0) (.slice a2 ms.length c2) [] ms rfl rfl oB (hu10.grow bB) bB.size (by simp; omega) ?_; intro v3 w3 ho3 hg3; rw [List.nil_append] at ho3; have hC3 : Below w10.heap.size w10 w3 := bB.grown hg3 bB.size (by intro q hq; cases hq; exact Nat.le_refl _); have hx3 := xB.kept hg3 (by simp [Value.ownBlock]))
                  | (refine stepN TM rfl (.tmp 97) (.tmp 98) rfl w10.heap.size (.slice (some ⟨w10.heap.size + 1, 0, none⟩) 0 0) (.slice a2 ms.length c2) [] ms rfl rfl oC (hu10.grow bC) bC.size (by simp; omega) ?_; intro v3 w3 ho3 hg3; rw [List.nil_append] at ho3; have hC3 : Below w10.heap.size w10 w3 := bC.grown hg3 bC.size (by intro q hq; cases hq; exact Nat.le_succ _); have hx3 := xC.kept hg3 (by simp [Value.ownBlock]))
                  | (refine stepN TM rfl (.tmp 99) (.tmp 101) rfl w10.heap.size v3 (.slice (some ⟨w3.heap.size, 0, none⟩) 1 1) ms [⟨mn, ⟨#[61]⟩, mv⟩] rfl rfl (ho3.alloc _) (one_mt w3 mn ⟨#[61]⟩ mv) (hC3.alloc hC3.size _).size (by simp; omega) ?_; intro v4 w4 ho4 hg4; have hC4 : Below w10.heap.size w10 w4 := (hC3.alloc hC3.size _).grown hg4 (hC3.alloc hC3.size _).size (fun q hq => (ho3.lt q hq).1))
                  | (refine stepN TM rfl (.tmp 99) (.tmp 101) rfl w10.heap.size v3 _ ms [⟨mn, ⟨#[61]⟩, mv⟩] rfl rfl ho3 hx3 hC3.size (by simp; omega) ?_; intro v4 w4 ho4 hg4; have hC4 : Below w10.heap.size w10 w4 := hC3.grown hg4 hC3.size (fun q hq => (ho3.lt q hq).1))
                  | (go_at_call 33; refine (hmA v4 w4 (hvk.out _ (hB10.trans (hC4.mono hB10.size))) ho4.sls).mono ?_; rintro e w5 ⟨rfl, hb5⟩; have hC5 := hC4.trans (hb5.mono hC4.size)))
                all_goals
                  have hB11 := hB10.trans (hC5.mono hB10.size)
                  have hk5 := hS _ hC5
                  clear bA bB bC oA oB oC xB xC hu10
                  cases hMs : MS with
                  | true =>
                    rw [hMs] at hmM
                    go_wp2_with (first
                      | (go_at_call 33; with_reducible refine (hmM w5 (hvk.out _ hB11) (huk.out _ hB11)).mono ?_; rintro e w6 ⟨rfl, hb6⟩; have hC6 := hC5.trans (hb6.mono hC5.size); have hB12 := hB11.trans (hb6.mono hB11.size); have hk6 := hS _ hC6; have hq6 := hqq _ (hC6.alloc hC6.size (.cells #[.string mn, .string ⟨#[61]⟩, .string mv] 46)))
                      | (go_at_call 33; with_reducible refine (hcq _ _ hq6 (one_mt w6 mn ⟨#[61]⟩ mv)).mono ?_; rintro e w7 ⟨rfl, hb7⟩; have hB13 := (hB12.alloc hB12.size _).trans (hb7.mono (hB12.alloc hB12.size _).size))
                      | (go_at_call 10; refine (hlive _).mono ?_; rintro e w8 ⟨rfl, hb8⟩))
                    go_ret
                    exact ⟨rfl, hB13.trans (hb8.mono hB13.size)⟩
                  | false =>
                    rw [hMs] at hmM
                    go_wp2_with (first
                      | (go_at_call 33; with_reducible refine (hmM w5 (hvk.out _ hB11) (huk.out _ hB11)).mono ?_; rintro e w6 ⟨rfl, hb6⟩; have hC6 := hC5.trans (hb6.mono hC5.size); have hB12 := hB11.trans (hb6.mono hB11.size); have hk6 := hS _ hC6; have hq6 := hqq _ (hC6.alloc hC6.size (.cells #[.string mn, .string ⟨#[61]⟩, .string mv] 46)))
                      | (go_at_call 33; with_reducible refine (hcq _ _ hq6 (one_mt w6 mn ⟨#[61]⟩ mv)).mono ?_; rintro e w7 ⟨rfl, hb7⟩; have hB13 := (hB12.alloc hB12.size _).trans (hb7.mono (hB12.alloc hB12.size _).size))
                      | (go_at_call 10; refine (hlive _).mono ?_; rintro e w8 ⟨rfl, hb8⟩))
                    go_ret
                    exact ⟨rfl, hB12.trans (hb8.mono hB12.size)⟩
      · have hTi : (20000 : Int) < (mn.size : Int) + (mv.size : Int) := by omega
        go_enter Try.func8, Try.ntmps8
        go_wp2_with (first
          | (go_at_call 16; refine hst.mono ?_; rintro e w1 ⟨rfl, hb1⟩; have hB1 := hB0.trans (hb1.mono hB0.size); have hz1 : w.heap.size < w1.heap.size := Nat.lt_of_lt_of_le (by simp) hb1.size; have hc0 : w1.cell? ⟨w.heap.size, 0, none⟩ = some (.string mn) := (hb1.cell (p := ⟨w.heap.size, 0, none⟩) (by simp)).trans (by simp [go_sem]); have hc1 : w1.cell? ⟨w.heap.size, 1, none⟩ = some (.string mo) := (hb1.cell (p := ⟨w.heap.size, 1, none⟩) (by simp)).trans (by simp [go_sem]); have hc2 : w1.cell? ⟨w.heap.size, 2, none⟩ = some (.string mv) := (hb1.cell (p := ⟨w.heap.size, 2, none⟩) (by simp)).trans (by simp [go_sem]))
          | (go_at_call 10; refine (hlive _).mono ?_; rintro e w2 ⟨rfl, hb2⟩))
        go_ret
        exact ⟨rfl, hB1.trans (hb2.mono hB1.size)⟩
    · have h60i : (60 : Int) < (ms.length : Int) := by omega
      go_enter Try.func8, Try.ntmps8
      go_wp2_with (first
        | (go_at_call 16; refine hst.mono ?_; rintro e w1 ⟨rfl, hb1⟩)
        | (go_at_call 10; refine (hlive _).mono ?_; rintro e w2 ⟨rfl, hb2⟩))
      go_ret
      exact ⟨rfl, (hB0.trans (hb1.mono hB0.size)).trans (hb2.mono (hB0.trans (hb1.mono hB0.size)).size)⟩
/-! ### THE ROW's STEP -/
set_option maxRecDepth 100000 in
theorem lifted (os : Os) (started : os.Started) (H : Type) (enc : TypeId × Value → H) :
    ReturnsInHanded {} Try.checked os 8 .any (Rows.labelsAskSpec.pre6 enc Try.prog Try.f8 Rows.labelsAskRow.domain false) (Rows.labelsAskSpec.post enc Try.prog Try.f8 false true false false) := by
  refine returnsInHanded_of_change_sized (C := Try.checked) own started (by kernel_rfl) Try.func8
    (ChangeSpec.witness6 (enc := enc) (C := Try.checked) false ⟨#[], #[.slice none 0 0, .agg #[.string ⟨#[]⟩, .string ⟨#[]⟩, .string ⟨#[]⟩], .slice none 0 0], []⟩ 8 (by kernel_rfl) (by kernel_rfl) (by kernel_rfl) (by kernel_rfl)) ?_
  intro W base args ds gs before hval0 hW hcnd hsz0 _
  have hsz : (DataW.weightsEach Try.prog (Try.f8.params.toList ++ Rows.labelsAskSpec.plain.varTypes Try.prog) (ds ++ gs)).all (· ≤ reachBytes) = true := hsz0
  have hval : ∀ (j : Nat) t v, Try.f8.params[j]? = some t → args[j]? = some v → Value.okWide Try.prog W .any base t v := hval0
  have hW' := hW
  obtain ⟨p, q, hA0, hV, rfl, hfz, hnd⟩ := hW
  have hA : DataW.TrodAll enc Try.prog W 0 (fun _ => true) true Try.f8.params.toList args.toList ds p := hA0
  rw [Try.params8] at hA hval hsz
  obtain ⟨v0, vs0, d0, ds0, p0, q0, hargs, rfl, rfl, h0, r0⟩ := trodAll_cons hA
  obtain ⟨v1, vs1, d1, ds1, p1, q1, rfl, rfl, rfl, h1, r1⟩ := trodAll_cons r0
  obtain ⟨v2, vs2, d2, ds2, p2, q2, rfl, rfl, rfl, h2, r2⟩ := trodAll_cons r1
  obtain ⟨rfl, rfl, rfl⟩ := trodAll_nil r2
  obtain rfl : args = #[v0, v1, v2] := by cases args; simp_all
  obtain ⟨rfl, rfl⟩ := trodVars_none hV
  have k0 := h0
  have lt0 : ∀ x ∈ p0, x.block < W.heap.size := by obtain ⟨m, hm⟩ := k0; exact DataW.trod_lt m _ _ _ hm
  obtain ⟨a0, n0, c0, rfl⟩ := okWide_slice Try.underlying22 (hval 0 22 v0 rfl rfl)
  obtain ⟨l0, hP0, hR0, hL0⟩ : ∃ l, Lbs W (.slice a0 n0 c0) l ∧ LbsR l ∧ l.length ≤ reachBytes := by
    obtain ⟨fuel, hf⟩ := h0
    refine lbs_of_trod hf (fun q hq => ?_)
    have := List.all_eq_true.1 hsz _ (DataW.weights_mem_each (j := 0) (t := 22) rfl rfl q hq)
    simpa using this
  have k1 := h1
  have lt1 : ∀ x ∈ p1, x.block < W.heap.size := by obtain ⟨m, hm⟩ := k1; exact DataW.trod_lt m _ _ _ hm
  obtain ⟨m1, rfl, hR1⟩ : ∃ m : Mt, v1 = mtV m ∧ MtR m := by
    obtain ⟨fuel, hf⟩ := h1
    refine mt_arg (hval 1 46 v1 rfl rfl) hf (fun q hq => ?_)
    have := List.all_eq_true.1 hsz _ (DataW.weights_mem_each (j := 1) (t := 46) rfl rfl q hq)
    simpa using this
  have k2 := h2
  have lt2 : ∀ x ∈ p2, x.block < W.heap.size := by obtain ⟨m, hm⟩ := k2; exact DataW.trod_lt m _ _ _ hm
  obtain ⟨a2, n2, c2, rfl⟩ := okWide_slice Try.underlying44 (hval 2 44 v2 rfl rfl)
  obtain ⟨l2, hP2, hR2, hL2⟩ : ∃ l, Mts W (.slice a2 n2 c2) l ∧ MtsR l ∧ l.length ≤ reachBytes := by
    obtain ⟨fuel, hf⟩ := h2
    refine mts_of_trod hf (fun q hq => ?_)
    have := List.all_eq_true.1 hsz _ (DataW.weights_mem_each (j := 2) (t := 44) rfl rfl q hq)
    simpa using this
  clear hA0 hval0
  refine (walk (.slice a0 n0 c0) l0 m1 (.slice a2 n2 c2) l2 W hP0 hR0 hL0 hR1 hP2 hR2 hL2).mono fun e W' ⟨he, bel⟩ => ?_
  subst he
  exact ⟨_, rfl, _, _, _, [], _, [], hW', trodAll_mk1 (shut_bool Try.underlying4 _), (trodAll_cons_mk (Below.trod laidOut (by kernel_rfl) (of_decide_eq_true (by kernel_rfl)) k0 bel lt0) (trodAll_cons_mk (Below.trod laidOut (by kernel_rfl) (of_decide_eq_true (by kernel_rfl)) k1 bel lt1) (trodAll_cons_mk (Below.trod laidOut (by kernel_rfl) (of_decide_eq_true (by kernel_rfl)) k2 bel lt2) trodAll_mk0))), rfl, bel.frame _, fun h => by cases h⟩
theorem over : Rows.labelsAskRow.holds Try.pinned (OpenSpec.ofChange Rows.labelsAskSpec) :=
  OpenClaim.holds_of_wide 8 Try.f8 rfl rfl rfl rfl rfl rfl rfl ⟨rfl, rfl, rfl, rfl, rfl⟩ rfl rfl rfl rfl rfl (by kernel_rfl) Try.func8 (by kernel_rfl)
    (of_decide_eq_true (by kernel_rfl)) (by unfold Func.isWrapper; first | (rw [if_pos (by decide +kernel)]; kernel_rfl) | (rw [if_neg (by decide +kernel)]; exact ⟨rfl, rfl⟩))
    (fun os started H enc _ => lifted os started H enc)
end Go.Proofs.Ytckchabcnmkbeaa.labelsAsk
namespace Go.Proofs.Ytckchabcnmkbeaa
/-- The statement. -/
theorem labelsAsk_holds : Rows.LabelsAskSaid := labelsAsk.over
#print axioms labelsAsk_holds
end Go.Proofs.Ytckchabcnmkbeaa
