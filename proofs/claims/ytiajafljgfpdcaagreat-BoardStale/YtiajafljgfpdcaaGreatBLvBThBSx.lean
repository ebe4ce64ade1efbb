/- BLv; BThBSx. -/
import Derived.Test.YtiajafljgfpdcaaGreatBEqBSg
import Derived.Test.YtiajafljgfpdcaaGreatBUq
import Derived.Deep.Slices
import Derived.Deep.Fields
import Derived.ChangeArms
import Derived.ProofKit
import Derived.SizedLaws
/- live. -/
namespace Go.Proofs.YtiajafljgfpdcaaGreat
set_option linter.unusedVariables false
open Go.RowKit
def hX : List Lb := [⟨⟨#[104]⟩, ⟨#[49]⟩⟩]
theorem hX_set : IsSet hX := by
  refine ⟨?_, ?_, by decide⟩
  · intro a ha
    have : a = ⟨⟨#[104]⟩, ⟨#[49]⟩⟩ := by simpa [hX] using ha
    subst this
    refine ⟨⟨by decide, ?_⟩, by decide⟩
    intro k hk
    have : k = 0 := by simp [numsS] at hk; omega
    subst this
    rfl
  · exact List.pairwise_singleton _ _
def hH : S.Hd := ⟨0, 0, 1, 1⟩
def xA : S.Inst := ⟨3, 0, 0, -1, 0, 1, 1⟩
theorem step_xA : S.stepI (S.newI 0) hH 2 1 1 0 = xA := by decide
theorem heard1 (sv : Sv) : heardF hH [] 0 [⟨sv, ⟨hX, 2, 1, 1⟩⟩] [] = [⟨hX, xA, 1, true⟩] := by
  have hm : mkF (withL hX []) = (hX, 0) := by rw [withL_nil]; exact mkF_of hX_set.make
  unfold heardF heardL
  simp [allB, hearL, hm, getG, putG, stpA, newA, step_xA]
theorem heard2 (now : Int) (e : En) (he : enF e = (hX, xA)) : heardF hH [] now [] [e] = [⟨hX, xA, 3, false⟩] := by
  unfold heardF heardL
  simp [allB, he, beginA, xA]
theorem left1 : leftL 5 0 [⟨hX, xA, 1, true⟩] = [(hX, xA)] := by simp [leftL, overB]
theorem told1 : toldL 5 0 [⟨hX, xA, 1, true⟩] = [⟨hX, 1, 3, 1, 1⟩] := by simp [toldL, tellA, overB, xA]
theorem left2 : leftL 5 9 [⟨hX, xA, 3, false⟩] = [(hX, xA)] := by simp [leftL, overB, xA]
theorem told2 : toldL 5 9 [⟨hX, xA, 3, false⟩] = [] := by simp [toldL, tellA, overB, xA]
theorem left3 : leftL 5 10 [⟨hX, xA, 3, false⟩] = [] := by simp [leftL, overB, xA]
theorem told3 : toldL 5 10 [⟨hX, xA, 3, false⟩] = [⟨hX, 3, 1, 2, 0⟩] := by simp [toldL, tellA, overB, xA]
theorem bd_hX : BdV [(hX, xA)] := by
  have h1 : IsBd [(hX, xA)] := ⟨List.pairwise_singleton _ _, fun e he => by
    have : e = (hX, xA) := by simpa using he
    subst this
    unfold mbB
    rw [setB_iff.2 hX_set]
    decide⟩
  refine ⟨by unfold chkF; rw [if_neg (by simp), if_pos h1], fun e he => ?_⟩
  have : e = (hX, xA) := by simpa using he
  subst this
  unfold In64
  decide
/-- What an Update tells. -/
def UpA (w : World) (B : List (List Lb × S.Inst)) (G : List Cg) (e : Ending) (w' : World) : Prop := ∃ y z E C, e = .returned (.tuple #[y, z]) ∧ Ens w' y E ∧ Cns w' z C ∧ E.map enF = B ∧ C.map (·.c) = G ∧ Below w.heap.size w w'
theorem riseE0 : RiseE [] := ⟨RiseG.nil, by simp⟩
theorem riseE1 {e : En} (h : IsSet e.ls) : RiseE [e] := ⟨List.pairwise_singleton _ _, fun x hx => by
  have : x = e := by simpa using hx
  rw [this]; exact h⟩
theorem lbsR_hX : LbsR hX := hX_set.short.reach
theorem fine_xA (now : Int) (h : 0 ≤ now ∧ now ≤ 10) : Fine now xA := by unfold Fine; simp [xA]
theorem up1 (v : Value) (w : World) (hv : Lbs w v hX) (sv : Sv) (hs : v = sv.v) : Calls Tryz.prog 11 #[.slice none 0 0, .agg #[.int .i64 0, .int .i64 0, .int .i64 1, .int .i64 1], .slice none 0 0, .int .i64 5, .int .i64 0, .slice (some ⟨w.heap.size, 0, none⟩) 1 1] (w.alloc (.cells #[v, .int .i64 2, .int .i64 1, .int .i64 1] 59)) fun e w' => UpA w [(hX, xA)] [⟨hX, 1, 3, 1, 1⟩] e w' := by
  subst hs
  have h := update_any (.slice none 0 0) (.slice none 0 0) (.slice (some ⟨w.heap.size, 0, none⟩) 1 1) [] [] [⟨sv, ⟨hX, 2, 1, 1⟩⟩] hH 5 0 (w.alloc (.cells #[sv.v, .int .i64 2, .int .i64 1, .int .i64 1] 59))
    { ens := ⟨sls_nil _, by simp⟩, rise := riseE0, len := by simp, ownv := sls_nil _, ownl := by simp, ownr := (fun a ha => by cases ha),
      rns := ⟨sls_one w _ _ _ rfl, fun e he => by
        have : e = ⟨sv, ⟨hX, 2, 1, 1⟩⟩ := by simpa using he
        subst this; exact Sls.alloc hv _⟩,
      rlen := by simp,
      rl := fun r hr => by
        have : r = ⟨sv, ⟨hX, 2, 1, 1⟩⟩ := by simpa using hr
        subst this; show hX.length ≤ 10000; decide,
      rr := fun r hr => by
        have : r = ⟨sv, ⟨hX, 2, 1, 1⟩⟩ := by simpa using hr
        subst this; exact lbsR_hX,
      fine := by simp, seen := by simp, iv := by decide }
  rw [heard1, left1, told1] at h
  refine h.mono ?_
  rintro e w' ⟨y, z, E, C, he, h1, h2, h3, h4, h5⟩
  exact ⟨y, z, E, C, he, h1, h2, h3, h4, ((Below.refl _ w).alloc (Nat.le_refl _) _).trans (h5.mono (by simp))⟩
theorem up2 (v : Value) (E : List En) (w : World) (hv : Ens w v E) (hE : E.map enF = [(hX, xA)]) (now : Int) (hn : 0 ≤ now ∧ now ≤ 10) (B : List (List Lb × S.Inst)) (G : List Cg) (hB : leftL 5 now [⟨hX, xA, 3, false⟩] = B) (hG : toldL 5 now [⟨hX, xA, 3, false⟩] = G) : Calls Tryz.prog 11 #[v, .agg #[.int .i64 0, .int .i64 0, .int .i64 1, .int .i64 1], .slice none 0 0, .int .i64 5, .int .i64 now, .slice none 0 0] w fun e w' => UpA w B G e w' := by
  obtain ⟨e0, rfl, he0⟩ : ∃ e0, E = [e0] ∧ enF e0 = (hX, xA) := by
    cases E with
    | nil => cases hE
    | cons e0 E =>
      cases E with
      | nil => exact ⟨e0, rfl, by simpa using hE⟩
      | cons e1 E => simp at hE
  have hx : e0.x = xA := congrArg Prod.snd he0
  have h := update_any v (.slice none 0 0) (.slice none 0 0) [e0] [] [] hH 5 now w
    { ens := hv, rise := riseE1 (by rw [show e0.ls = hX from congrArg Prod.fst he0]; exact hX_set), len := by simp, ownv := sls_nil _, ownl := by simp, ownr := (fun a ha => by cases ha),
      rns := ⟨sls_nil _, by simp⟩, rlen := by simp, rl := by simp, rr := by simp,
      fine := fun e he => by
        have : e = e0 := by simpa using he
        subst this; rw [hx]; exact fine_xA now hn,
      seen := fun e he => by
        have : e = e0 := by simpa using he
        subst this; rw [hx]; simp only [xA]; omega,
      iv := by decide }
  rw [heard2 now e0 he0, hB, hG] at h
  exact h
theorem bdY_len {L : List (List Lb × S.Inst)} (h : BdV L) : (bdY L).length ≤ 470000 := by
  obtain ⟨h1, h2⟩ := chk_zero h.1
  have h3 := catE_len h1 h.2 L.length (Nat.le_refl _)
  rw [List.take_length] at h3
  have h4 := Q.enc_len10 L.length (by omega)
  unfold bdY
  rw [List.length_append]
  have : L.length * 4600 ≤ 100 * 4600 := Nat.mul_le_mul_right _ h2
  omega
theorem en_of {E : List En} (h : E.map enF = [(hX, xA)]) : ∀ e ∈ E, e.ls = hX ∧ e.x = xA := fun e he => by
  have : enF e ∈ E.map enF := List.mem_map_of_mem he
  rw [h] at this
  have : enF e = (hX, xA) := List.mem_singleton.1 this
  exact ⟨congrArg Prod.fst this, congrArg Prod.snd this⟩
theorem enR_hX {E : List En} (h : E.map enF = [(hX, xA)]) : ∀ e ∈ E, LbsR e.ls ∧ e.ls.length ≤ 100000 := fun e he => by
  rw [(en_of h e he).1]; exact ⟨lbsR_hX, by decide⟩
theorem en6_hX {E : List En} (h : E.map enF = [(hX, xA)]) : ∀ e ∈ E, In64 e.x := fun e he => by
  rw [(en_of h e he).2]; unfold In64; decide
theorem same_hX (u v : Value) (l m : List En) (w : World) (hu : Ens w u l) (hv : Ens w v m) (h1 : l.map enF = [(hX, xA)]) (h2 : m.map enF = [(hX, xA)]) : Calls Tryz.prog 14 #[u, v] w fun e w' => e = .returned (.bool true) ∧ Below w.heap.size w w' := by
  have hl : l.length = 1 := by simpa using congrArg List.length h1
  have hm : m.length = 1 := by simpa using congrArg List.length h2
  refine (same14 u v l m w hu hv (by omega) (by omega) (fun e he => (enR_hX h1 e he).2) (fun e he => (enR_hX h2 e he).2)).mono ?_
  rintro e w' ⟨b, rfl, hb, hB⟩
  rw [hb.2 (h1.trans h2.symm)]
  exact ⟨rfl, hB⟩
theorem cn_of {C : List Cn} {g : Cg} (h : C.map (·.c) = [g]) : ∀ e ∈ C, e.c = g := fun e he => by
  have : e.c ∈ C.map (·.c) := List.mem_map_of_mem he
  rw [h] at this
  exact List.mem_singleton.1 this
theorem chg_hX (u : Value) (C : List Cn) (xv : Sv) (fr to vk vn : Int) (w : World) (hu : Cns w u C) (h1 : C.map (·.c) = [⟨hX, fr, to, vk, vn⟩]) (hx : Lbs w xv.v hX) : Calls Tryz.prog 15 #[u, .slice (some ⟨w.heap.size, 0, none⟩) 1 1] (w.alloc (.cells #[xv.v, .int .i64 fr, .int .i64 to, .int .i64 vk, .int .i64 vn] 62)) fun e w' => e = .returned (.bool true) ∧ Below w.heap.size w w' := by
  have hl : C.length = 1 := by simpa using congrArg List.length h1
  have hr : Cns (w.alloc (.cells #[xv.v, .int .i64 fr, .int .i64 to, .int .i64 vk, .int .i64 vn] 62)) (.slice (some ⟨w.heap.size, 0, none⟩) 1 1) [⟨xv, ⟨hX, fr, to, vk, vn⟩⟩] := ⟨sls_one w _ _ _ rfl, fun e he => by
    have : e = ⟨xv, ⟨hX, fr, to, vk, vn⟩⟩ := by simpa using he
    subst this; exact Sls.alloc hx _⟩
  have hb := (Below.refl w.heap.size w).alloc (Nat.le_refl _) (.cells #[xv.v, .int .i64 fr, .int .i64 to, .int .i64 vk, .int .i64 vn] 62)
  refine (same15 u _ C _ _ (hu.grow hb) hr (by omega) (by simp) (fun e he => by rw [cn_of h1 e he]; exact (by decide : hX.length ≤ 100000)) (fun e he => by
    have : e = ⟨xv, ⟨hX, fr, to, vk, vn⟩⟩ := by simpa using he
    subst this; exact (by decide : hX.length ≤ 100000))).mono ?_
  rintro e w' ⟨b, rfl, hb2, hB⟩
  rw [hb2.2 h1]
  exact ⟨rfl, hb.trans (hB.mono (by simp))⟩
set_option maxRecDepth 100000 in
set_option maxHeartbeats 4000000 in
theorem live10 (w : World) : Calls Tryz.prog 10 #[] w fun e w' => e = .returned (.bool true) ∧ Below w.heap.size w w' := by
  go_enter Tryz.func10, Tryz.ntmps10
  go_upto_region 3 with fail
  obtain ⟨W2, hW2⟩ : ∃ W2, W2 = (w.alloc (.cells #[.int .i64 0, .int .i64 0, .int .i64 1, .int .i64 1] 23)).alloc (.cells #[.string ⟨#[104]⟩, .string ⟨#[49]⟩] 70) := ⟨_, rfl⟩
  rw [← hW2]
  have hb0 : Below w.heap.size w W2 := by rw [hW2]; exact ((Below.refl _ w).alloc (Nat.le_refl _) _).alloc (by simp) _
  have hk2 : W2.heap[w.heap.size]? = some (.cells #[.int .i64 0, .int .i64 0, .int .i64 1, .int .i64 1] 23 (0, 0)) := by rw [hW2]; exact (((Below.refl _ (w.alloc (.cells #[.int .i64 0, .int .i64 0, .int .i64 1, .int .i64 1] 23))).alloc (Nat.le_refl _) _).block w.heap.size (by simp)).trans (heap_new _ _)
  have x0 : W2.cell? ⟨w.heap.size, 0, none⟩ = some (.int .i64 0) := by unfold World.cell?; rw [hk2]; rfl
  have x1 : W2.cell? ⟨w.heap.size, 1, none⟩ = some (.int .i64 0) := by unfold World.cell?; rw [hk2]; rfl
  have x2 : W2.cell? ⟨w.heap.size, 2, none⟩ = some (.int .i64 1) := by unfold World.cell?; rw [hk2]; rfl
  have x3 : W2.cell? ⟨w.heap.size, 3, none⟩ = some (.int .i64 1) := by unfold World.cell?; rw [hk2]; rfl
  have hXv : Lbs W2 (.slice (some ⟨w.heap.size + 1, 0, none⟩) 1 1) hX := by
    rw [hW2]
    have := sls_one (E := encL) (w.alloc (.cells #[.int .i64 0, .int .i64 0, .int .i64 1, .int .i64 1] 23)) ⟨⟨#[104]⟩, ⟨#[49]⟩⟩ #[.string ⟨#[104]⟩, .string ⟨#[49]⟩] 70 rfl
    have e : (w.alloc (.cells #[.int .i64 0, .int .i64 0, .int .i64 1, .int .i64 1] 23)).heap.size = w.heap.size + 1 := by simp
    rw [e] at this
    exact this
  have keep : ∀ X {b o : Nat} {u : Value}, Below W2.heap.size W2 X → W2.cell? ⟨b, o, none⟩ = some u → X.cell? ⟨b, o, none⟩ = some u := fun X b o u hX h => (hX.cell (p := ⟨b, o, none⟩) (World.block_lt_of_cell? W2 _ h)).trans h
  have hU1 : ∀ W, Below W2.heap.size W2 W → _ := fun W hW => up1 (.slice (some ⟨w.heap.size + 1, 0, none⟩) 1 1) W (Sls.grow hXv hW) ⟨_, _, _⟩ rfl
  have hn1 : ∀ W, Calls Tryz.prog 29 #[.int .i64 1] W fun e w' => e = .returned (.agg #[.int .i64 1, .int .i64 1]) ∧ Below W.heap.size W w' := fun W => S.rnum20 1 W (by decide) (by decide)
  clear hW2 hk2
  go_region_held3 (fun X => X.cell? ⟨w.heap.size, 0, none⟩ = some (.int .i64 0) ∧ X.cell? ⟨w.heap.size, 1, none⟩ = some (.int .i64 0) ∧ X.cell? ⟨w.heap.size, 2, none⟩ = some (.int .i64 1) ∧ X.cell? ⟨w.heap.size, 3, none⟩ = some (.int .i64 1)) (go_keep) (first
    | (go_at_call 29; refine (hn1 _).mono ?_; rintro e w3 ⟨rfl, hb3⟩; have hB3 : Below W2.heap.size W2 w3 := ((Below.refl _ W2).drew).trans (hb3.mono (Nat.le_refl _)); have y0 := keep _ hB3 x0; have y1 := keep _ hB3 x1; have y2 := keep _ hB3 x2; have y3 := keep _ hB3 x3; have hB3a := hB3.alloc hB3.size (.cells #[.slice (some ⟨w.heap.size + 1, 0, none⟩) 1 1, .int .i64 2, .int .i64 1, .int .i64 1] 59); have v0 := keep _ hB3a x0; have v1 := keep _ hB3a x1; have v2 := keep _ hB3a x2; have v3 := keep _ hB3a x3; have hU3 := hU1 w3 hB3)
    | (go_at_call 11; refine hU3.mono ?_; rintro e w4 ⟨y, z, E, C, rfl, hE, hC, hEm, hCm, hb4⟩; have hB4 : Below W2.heap.size W2 w4 := hB3.trans (hb4.mono hB3.size); have t0 := keep _ hB4 x0; have t1 := keep _ hB4 x1; have t2 := keep _ hB4 x2; have t3 := keep _ hB4 x3))
  have hlen1 : E.length = 1 := by simpa using congrArg List.length hEm
  have hlenC : C.length = 1 := by simpa using congrArg List.length hCm
  obtain ⟨ya, yc, hy⟩ := hE.1.shape
  rw [hlen1] at hy
  subst hy
  obtain ⟨za, zc, hz⟩ := hC.1.shape
  rw [hlenC] at hz
  subst hz
  have hU2 := up2 _ E w4 hE hEm 9 (by omega) _ _ left2 told2
  clear hU1 hn1 hU3 v0 v1 v2 v3 y0 y1 y2 y3
  replace hlen1 : Hid _ := hlen1
  replace hlenC : Hid _ := hlenC
  replace hEm : Hid (E.map enF = [(hX, xA)]) := hEm
  replace hCm : Hid _ := hCm
  have hby : Q.IsBytes (bdY [(hX, xA)]) := isBytes_bdY _
  have hbl : (bdY [(hX, xA)]).length ≤ 1000000000 := by have := bdY_len bd_hX; omega
  have hch : chkF [(hX, xA)] = 0 := bd_hX.1
  generalize hBY : bdY [(hX, xA)] = BY at *
  go_upto_region 8 with (first
    | (go_at_call 11; refine hU4.mono ?_; rintro e w6 ⟨y6, z6, E6, C6, rfl, hE6, hC6, hEm6, hCm6, hb6⟩; have hB6 : Below w4.heap.size w4 w6 := hb5.trans (hb6.mono hb5.size); have hk6 : E6.length = 0 := (by simpa using congrArg List.length hEm6); obtain ⟨y6a, y6c, hy6⟩ := hE6.1.shape; rw [hk6] at hy6; subst hy6; replace hk6 : Hid _ := hk6; replace hEm6 : Hid _ := hEm6; replace hCm6 : Hid (C6.map (·.c) = [⟨hX, 3, 1, 2, 0⟩]) := hCm6; have hP := put21 (.slice ya 1 yc) E w6 (hE.grow hB6) (by have := hlen1.out; omega) (enR_hX hEm.out) (en6_hX hEm.out); rw [hEm.out, if_pos hch, hch, hBY] at hP)
    | (go_at_call 11; refine hU2.mono ?_; rintro e w5 ⟨y5, z5, E5, C5, rfl, hE5, hC5, hEm5, hCm5, hb5⟩; have hB5 : Below W2.heap.size W2 w5 := hB4.trans (hb5.mono hB4.size); have r0 := keep _ hB5 x0; have r1 := keep _ hB5 x1; have r2 := keep _ hB5 x2; have r3 := keep _ hB5 x3; have hU4 := up2 y5 E5 w5 hE5 hEm5 10 (by omega) _ _ left3 told3; have hk5 : C5.length = 0 := (by simpa using congrArg List.length hCm5); obtain ⟨z5a, z5c, hz5⟩ := hC5.1.shape; rw [hk5] at hz5; subst hz5; replace hk5 : Hid _ := hk5; replace hEm5 : Hid (E5.map enF = [(hX, xA)]) := hEm5; replace hCm5 : Hid _ := hCm5)
    | (go_at_call 21; refine hP.mono ?_; rintro e w7 ⟨u7, rfl, ho7, hb7⟩; have hG := get23 BY u7 w7 ho7.bts hby hbl)
    | (go_at_call 23; refine hG.mono ?_; rintro e w8 ⟨hb8, hq8⟩; obtain ⟨F, v8, -, -, hq, rfl, hF1, hF2⟩ := hq8.resolve_right (fun h => h.1 _ bd_hX hBY); have hFm : Hid (F.map enF = [(hX, xA)]) := hq _ bd_hX hBY))
  obtain ⟨y5a, y5c, hy5⟩ := hE5.1.shape
  obtain ⟨z6a, z6c, hz6⟩ := hC6.1.shape
  obtain ⟨v8a, v8c, hv8⟩ := hF1.shape
  have hF0 : Ens w8 v8 F := ⟨hF1.sls, fun e he => (hF2 e he).sls⟩
  have hB48 : Below w4.heap.size w4 w8 := (hB6.trans (hb7.mono hB6.size)).trans (hb8.mono (hB6.trans (hb7.mono hB6.size)).size)
  have hB28 : Below W2.heap.size W2 w8 := hB4.trans (hB48.mono hB4.size)
  have hE8 : Ens w8 (.slice ya 1 yc) E := hE.grow hB48
  have hC8 : Cns w8 (.slice za 1 zc) C := hC.grow hB48
  have hB58 : Below w5.heap.size w5 w8 := (hb6.trans (hb7.mono hb6.size)).trans (hb8.mono (hb6.trans (hb7.mono hb6.size)).size)
  have hB68 : Below w6.heap.size w6 w8 := hb7.trans (hb8.mono hb7.size)
  have hE58 : Ens w8 y5 E5 := hE5.grow hB58
  have hC68 : Cns w8 z6 C6 := hC6.grow hB68
  have hX8 : Lbs w8 (.slice (some ⟨w.heap.size + 1, 0, none⟩) 1 1) hX := Sls.grow hXv hB28
  have hw8 : Hid (Below w.heap.size w w8) := hb0.trans (hB28.mono hb0.size)
  have hS1 : ∀ W, Below w8.heap.size w8 W → Calls Tryz.prog 15 #[.slice za 1 zc, .slice (some ⟨W.heap.size, 0, none⟩) 1 1] (W.alloc (.cells #[.slice (some ⟨w.heap.size + 1, 0, none⟩) 1 1, .int .i64 1, .int .i64 3, .int .i64 1, .int .i64 1] 62)) fun e w' => e = .returned (.bool true) ∧ Below W.heap.size W w' := fun W hW => chg_hX _ C ⟨_, _, _⟩ 1 3 1 1 W (hC8.grow hW) hCm.out (Sls.grow hX8 hW)
  have hS2 : ∀ W, Below w8.heap.size w8 W → Calls Tryz.prog 15 #[z6, .slice (some ⟨W.heap.size, 0, none⟩) 1 1] (W.alloc (.cells #[.slice (some ⟨w.heap.size + 1, 0, none⟩) 1 1, .int .i64 3, .int .i64 1, .int .i64 2, .int .i64 0] 62)) fun e w' => e = .returned (.bool true) ∧ Below W.heap.size W w' := fun W hW => chg_hX _ C6 ⟨_, _, _⟩ 3 1 2 0 W (hC68.grow hW) hCm6.out (Sls.grow hX8 hW)
  have hS3 : ∀ W, Below w8.heap.size w8 W → Calls Tryz.prog 14 #[y5, .slice ya 1 yc] W fun e w' => e = .returned (.bool true) ∧ Below W.heap.size W w' := fun W hW => same_hX _ _ E5 E W (hE58.grow hW) (hE8.grow hW) hEm5.out hEm.out
  have hS4 : ∀ W, Below w8.heap.size w8 W → Calls Tryz.prog 14 #[v8, .slice ya 1 yc] W fun e w' => e = .returned (.bool true) ∧ Below W.heap.size W w' := fun W hW => same_hX _ _ F E W (hF0.grow hW) (hE8.grow hW) hFm.out hEm.out
  have hn1 : ∀ W, Calls Tryz.prog 29 #[.int .i64 1] W fun e w' => e = .returned (.agg #[.int .i64 1, .int .i64 1]) ∧ Below W.heap.size W w' := fun W => S.rnum20 1 W (by decide) (by decide)
  have hn2 : ∀ W, Calls Tryz.prog 32 #[] W fun e w' => e = .returned (.agg #[.int .i64 2, .int .i64 0]) ∧ Below W.heap.size W w' := fun W => S.rnull19 W
  have hn3 : ∀ W, Calls Tryz.prog 16 #[.int .i64 0] W fun e w' => e = .returned (.int .i64 0) ∧ w' = W := fun W => num_any 0 W (by decide) (by decide)
  clear hF0 hB48 hB28 hE8 hC8 hB58 hB68 hE58 hC68 hX8 hFm hF1 hF2 hq hG hP hB4 hB5 hB6 hb4 hb5 hb6 hb7 hb8 hE hC hE5 hC5 hE6 hC6 hXv ho7 hB3 hB3a hb0 hb3 keep x0 x1 x2 x3 t0 t1 t2 t3 r0 r1 r2 r3 hEm hCm hEm5 hCm5 hEm6 hCm6 hU2 hU4 hby hbl hch hBY hlen1 hlenC hk5 hk6
  subst hy5 hz6 hv8
  have hB : Below w8.heap.size w8 w8 := Below.refl _ w8
  go_wp2_with (first
    | (go_at_call 29; refine (hn1 _).mono ?_; rintro e w9 ⟨rfl, hb9⟩; have hB9 := hB.trans (hb9.mono hB.size); have hT1 := hS1 w9 hB9)
    | (go_at_call 15; refine hT2.mono ?_; rintro e w13 ⟨rfl, hb13⟩; have hB13 := hB12.trans (hb13.mono hB12.size); have hT4 := hS4 w13 hB13)
    | (go_at_call 15; refine hT1.mono ?_; rintro e w10 ⟨rfl, hb10⟩; have hB10 := hB9.trans (hb10.mono hB9.size); have hT3 := hS3 w10 hB10)
    | (go_at_call 14; refine hT4.mono ?_; rintro e w14 ⟨rfl, hb14⟩; have hB14 := hB13.trans (hb14.mono hB13.size))
    | (go_at_call 14; refine hT3.mono ?_; rintro e w11 ⟨rfl, hb11⟩; have hB11 := hB10.trans (hb11.mono hB10.size))
    | (go_at_call 32; refine (hn2 _).mono ?_; rintro e w12 ⟨rfl, hb12⟩; have hB12 := hB11.trans (hb12.mono hB11.size); have hT2 := hS2 w12 hB12)
    | (go_at_call 16; refine (hn3 _).mono ?_; rintro e wx ⟨rfl, hwx⟩; subst wx))
  go_ret
  exact ⟨rfl, hw8.out.trans (hB14.mono hw8.out.size)⟩
end Go.Proofs.YtiajafljgfpdcaaGreat
/- BTh; BSl; BAr; BSu; BSx. -/
/- there, state. -/
namespace Go.Proofs.YtiajafljgfpdcaaGreat
set_option linter.unusedVariables false
open Go.RowKit
/-- The state of labels on a board. -/
def stF (l : List En) (ls : List Lb) : Int := match l.find? (fun e => decide (e.ls = ls)) with | some e => e.x.st | none => 1
def thF (l : List En) (ls : List Lb) : Prop := ∃ e ∈ l, e.ls = ls
def ThQ (l : List En) (ls : List Lb) (w : World) (e : Ending) (w' : World) : Prop := ∃ b, e = .returned (.bool b) ∧ (b = true ↔ thF l ls) ∧ Below w.heap.size w w'
theorem found_at {l : List En} {ls : List Lb} {k : Nat} (hk : k < l.length) (h : ∀ e ∈ l.take k, e.ls ≠ ls) (he : (l.getD k en0).ls = ls) : stF l ls = (l.getD k en0).x.st ∧ thF l ls := by
  refine ⟨?_, _, getD_mem l en0 k hk, he⟩
  have hs : l = l.take k ++ (l.getD k en0 :: l.drop (k + 1)) := by
    have h1 : l.getD k en0 = l[k] := by simp [hk]
    rw [h1, ← List.drop_eq_getElem_cons hk, List.take_append_drop]
  have hn : (l.take k).find? (fun e => decide (e.ls = ls)) = none := by
    rw [List.find?_eq_none]
    intro e he2; simpa using h e he2
  have hf : l.find? (fun e => decide (e.ls = ls)) = some (l.getD k en0) := by
    conv => lhs; rw [hs]
    rw [List.find?_append, hn, List.find?_cons_of_pos (by simpa using he)]
    rfl
  unfold stF
  rw [hf]
theorem found_no {l : List En} {ls : List Lb} (h : ∀ e ∈ l, e.ls ≠ ls) : stF l ls = 1 ∧ ¬ thF l ls := by
  refine ⟨?_, fun ⟨e, he, h2⟩ => h e he h2⟩
  have hf : l.find? (fun e => decide (e.ls = ls)) = none := by
    rw [List.find?_eq_none]
    intro e he2; simpa using h e he2
  unfold stF
  rw [hf]
set_option maxRecDepth 100000 in
set_option maxHeartbeats 4000000 in
theorem there28 (u v : Value) (l : List En) (ls : List Lb) (w : World) (hu : Ens w u l) (hv : Lbs w v ls) (hl : l.length ≤ 1000000) (hll : ∀ e ∈ l, e.ls.length ≤ 100000) (hvl : ls.length ≤ 100000) :
    Calls Tryz.prog 28 #[u, v] w fun e w' => ThQ l ls w e w' := by
  obtain ⟨a, c, rfl⟩ := hu.1.shape
  obtain ⟨a2, c2, rfl⟩ := hv.shape
  obtain ⟨n2, hn2⟩ : ∃ n2, n2 = ls.length := ⟨_, rfl⟩
  rw [← hn2] at hv ⊢
  replace hn2 : Hid _ := hn2
  replace hv : Hid (Lbs w (.slice a2 n2 c2) ls) := hv
  go_enter Tryz.func28, Tryz.ntmps28
  go_wp2
  go_loopw [5] (fun i wr => ∃ k : Nat, k ≤ l.length ∧ i = .int .i64 k ∧ Hid (∀ e ∈ l.take k, e.ls ≠ ls) ∧ Hid (Below w.heap.size w wr)) (fun i _ => l.length - (intOf i).toNat)
  case atStart => exact ⟨0, Nat.zero_le _, rfl, (show ∀ e ∈ l.take 0, e.ls ≠ ls by simp), Below.refl _ _⟩
  case round =>
    obtain ⟨k, hk, rfl, hG, hB⟩ := hrel
    by_cases hlt : k < l.length
    · have hki : (k : Int) < (l.length : Int) := by omega
      obtain ⟨b1, o1, rfl, hat1⟩ := en_at (Sls.grow hu.1 hB.out) k hlt
      obtain ⟨x0, x1, x2, x3, x4, x5, x6, x7⟩ := at_en hat1
      have hm1 := getD_mem l en0 k hlt
      have hs := same_any (l.getD k en0).sv.v (.slice a2 n2 c2) _ _ wr (Sls.grow (hu.2 _ hm1) hB.out) (Sls.grow hv.out hB.out) (by have := hll _ hm1; omega) (by omega)
      have hstep : Hid ((l.getD k en0).ls ≠ ls → ∀ e ∈ l.take (k + 1), e.ls ≠ ls) := fun h e he => by
        rw [take_getD l en0 k hlt] at he
        rcases List.mem_append.1 he with he | he
        · exact hG.out e he
        · rw [List.mem_singleton.1 he]; exact h
      have hyes : Hid ((l.getD k en0).ls = ls → _) := fun h => found_at hlt hG.out h
      have y1 : ∀ W, Below wr.heap.size wr W → W.cell? ⟨b1, o1 + k * 8 + 1, none⟩ = some (.int .i64 (l.getD k en0).x.st) := fun W hW => (hW.cell (p := ⟨b1, o1 + k * 8 + 1, none⟩) (World.block_lt_of_cell? wr _ x1)).trans x1
      clear hat1 hm1
      generalize l.getD k en0 = e at *
      obtain ⟨⟨ea, en, ec⟩, els, ⟨st, since, fr, quiet, seen, vk, vn⟩⟩ := e
      unfold Sv.v at hs
      simp only at *
      by_cases hls : els = ls
      · have hR := hyes.out hls
        replace hR : Hid _ := hR
        have hs3 : Calls Tryz.prog 45 #[.slice ea en ec, .slice a2 n2 c2] wr fun e' w' => e' = .returned (.bool true) ∧ Below wr.heap.size wr w' := hs.mono (by rintro e w' ⟨B, rfl, hB, hb⟩; exact ⟨by rw [hB.2 hls], hb⟩)
        clear hs hyes hstep hls
        go_wp2_with (first | (go_at_call 45; refine hs3.mono ?_; rintro e w5 ⟨rfl, hb5⟩; have y15 := y1 w5 hb5; have hB5 : Hid (Below w.heap.size w w5) := hB.out.trans (hb5.mono hB.out.size)))
        go_ret
        exact ⟨true, rfl, ⟨fun _ => hR.out.2, fun _ => rfl⟩, hB5.out⟩
      · have hs3 : Calls Tryz.prog 45 #[.slice ea en ec, .slice a2 n2 c2] wr fun e' w' => e' = .returned (.bool false) ∧ Below wr.heap.size wr w' := hs.mono (by rintro e w' ⟨B, rfl, hB, hb⟩; exact ⟨by rw [show B = false from (by cases B with | false => rfl | true => exact absurd (hB.1 rfl) hls)], hb⟩)
        have hG2 := hstep.out hls
        replace hG2 : Hid _ := hG2
        clear hs hyes hstep hls
        go_wp2_with (first | (go_at_call 45; refine hs3.mono ?_; rintro e w5 ⟨rfl, hb5⟩; have hB5 : Hid (Below w.heap.size w w5) := hB.out.trans (hb5.mono hB.out.size)))
        refine ⟨⟨k + 1, by omega, by go_num, hG2.out, hB5.out⟩, ?_⟩
        simp [intOf]; omega
    · obtain rfl : k = l.length := by omega
      have hki : ¬ (l.length : Int) < (l.length : Int) := by omega
      have hE : Hid (∀ e ∈ l, e.ls ≠ ls) := by
        have := hG.out
        rwa [List.take_length] at this
      go_wp2
      go_ret
      exact ⟨false, rfl, ⟨(fun h => by cases h), fun h => absurd h (found_no hE.out).2⟩, hB.out⟩
set_option maxRecDepth 100000 in
set_option maxHeartbeats 4000000 in
theorem state26 (u v : Value) (l : List En) (ls : List Lb) (w : World) (hu : Ens w u l) (hv : Lbs w v ls) (hl : l.length ≤ 1000000) (hll : ∀ e ∈ l, e.ls.length ≤ 100000) (hvl : ls.length ≤ 100000) :
    Calls Tryz.prog 26 #[u, v] w fun e w' => e = .returned (.int .i64 (stF l ls)) ∧ Below w.heap.size w w' := by
  obtain ⟨a, c, rfl⟩ := hu.1.shape
  obtain ⟨a2, c2, rfl⟩ := hv.shape
  obtain ⟨n2, hn2⟩ : ∃ n2, n2 = ls.length := ⟨_, rfl⟩
  rw [← hn2] at hv ⊢
  replace hn2 : Hid _ := hn2
  replace hv : Hid (Lbs w (.slice a2 n2 c2) ls) := hv
  go_enter Tryz.func26, Tryz.ntmps26
  go_wp2
  go_loopw [5] (fun i wr => ∃ k : Nat, k ≤ l.length ∧ i = .int .i64 k ∧ Hid (∀ e ∈ l.take k, e.ls ≠ ls) ∧ Hid (Below w.heap.size w wr)) (fun i _ => l.length - (intOf i).toNat)
  case atStart => exact ⟨0, Nat.zero_le _, rfl, (show ∀ e ∈ l.take 0, e.ls ≠ ls by simp), Below.refl _ _⟩
  case round =>
    obtain ⟨k, hk, rfl, hG, hB⟩ := hrel
    by_cases hlt : k < l.length
    · have hki : (k : Int) < (l.length : Int) := by omega
      obtain ⟨b1, o1, rfl, hat1⟩ := en_at (Sls.grow hu.1 hB.out) k hlt
      obtain ⟨x0, x1, x2, x3, x4, x5, x6, x7⟩ := at_en hat1
      have hm1 := getD_mem l en0 k hlt
      have hs := same_any (l.getD k en0).sv.v (.slice a2 n2 c2) _ _ wr (Sls.grow (hu.2 _ hm1) hB.out) (Sls.grow hv.out hB.out) (by have := hll _ hm1; omega) (by omega)
      have hstep : Hid ((l.getD k en0).ls ≠ ls → ∀ e ∈ l.take (k + 1), e.ls ≠ ls) := fun h e he => by
        rw [take_getD l en0 k hlt] at he
        rcases List.mem_append.1 he with he | he
        · exact hG.out e he
        · rw [List.mem_singleton.1 he]; exact h
      have hyes : Hid ((l.getD k en0).ls = ls → _) := fun h => found_at hlt hG.out h
      have y1 : ∀ W, Below wr.heap.size wr W → W.cell? ⟨b1, o1 + k * 8 + 1, none⟩ = some (.int .i64 (l.getD k en0).x.st) := fun W hW => (hW.cell (p := ⟨b1, o1 + k * 8 + 1, none⟩) (World.block_lt_of_cell? wr _ x1)).trans x1
      clear hat1 hm1
      generalize l.getD k en0 = e at *
      obtain ⟨⟨ea, en, ec⟩, els, ⟨st, since, fr, quiet, seen, vk, vn⟩⟩ := e
      unfold Sv.v at hs
      simp only at *
      by_cases hls : els = ls
      · have hR := hyes.out hls
        replace hR : Hid _ := hR
        have hs3 : Calls Tryz.prog 45 #[.slice ea en ec, .slice a2 n2 c2] wr fun e' w' => e' = .returned (.bool true) ∧ Below wr.heap.size wr w' := hs.mono (by rintro e w' ⟨B, rfl, hB, hb⟩; exact ⟨by rw [hB.2 hls], hb⟩)
        clear hs hyes hstep hls
        go_wp2_with (first | (go_at_call 45; refine hs3.mono ?_; rintro e w5 ⟨rfl, hb5⟩; have y15 := y1 w5 hb5; have hB5 : Hid (Below w.heap.size w w5) := hB.out.trans (hb5.mono hB.out.size)))
        go_ret
        exact ⟨by rw [hR.out.1]; rfl, hB5.out⟩
      · have hs3 : Calls Tryz.prog 45 #[.slice ea en ec, .slice a2 n2 c2] wr fun e' w' => e' = .returned (.bool false) ∧ Below wr.heap.size wr w' := hs.mono (by rintro e w' ⟨B, rfl, hB, hb⟩; exact ⟨by rw [show B = false from (by cases B with | false => rfl | true => exact absurd (hB.1 rfl) hls)], hb⟩)
        have hG2 := hstep.out hls
        replace hG2 : Hid _ := hG2
        clear hs hyes hstep hls
        go_wp2_with (first | (go_at_call 45; refine hs3.mono ?_; rintro e w5 ⟨rfl, hb5⟩; have hB5 : Hid (Below w.heap.size w w5) := hB.out.trans (hb5.mono hB.out.size)))
        refine ⟨⟨k + 1, by omega, by go_num, hG2.out, hB5.out⟩, ?_⟩
        simp [intOf]; omega
    · obtain rfl : k = l.length := by omega
      have hki : ¬ (l.length : Int) < (l.length : Int) := by omega
      have hE : Hid (∀ e ∈ l, e.ls ≠ ls) := by
        have := hG.out
        rwa [List.take_length] at this
      go_wp2
      go_ret
      exact ⟨by rw [(found_no hE.out).1]; rfl, hB.out⟩
end Go.Proofs.YtiajafljgfpdcaaGreat
/- BoardStale: the mathematics. -/
namespace Go.Proofs.YtiajafljgfpdcaaGreat
set_option linter.unusedVariables false
open Go.RowKit
def hY : List Lb := [⟨⟨#[104]⟩, ⟨#[50]⟩⟩]
theorem hY_set : IsSet hY := by
  refine ⟨?_, ?_, by decide⟩
  · intro a ha
    have : a = ⟨⟨#[104]⟩, ⟨#[50]⟩⟩ := by simpa [hY] using ha
    subst this
    refine ⟨⟨by decide, ?_⟩, by decide⟩
    intro k hk
    have : k = 0 := by simp [numsS] at hk; omega
    subst this
    rfl
  · exact List.pairwise_singleton _ _
theorem cmp_YX : cmpS hY hX = 1 := by decide
theorem cmp_XY : cmpS hX hY = -1 := by decide
theorem cmp_YY : cmpS hY hY = 0 := by decide
theorem ne_XY : hX ≠ hY := by decide
theorem mk_X : mkF (withL hX []) = (hX, 0) := by rw [withL_nil]; exact mkF_of hX_set.make
theorem mk_Y : mkF (withL hY []) = (hY, 0) := by rw [withL_nil]; exact mkF_of hY_set.make
/-- x's instance by its kind; y's at a moment. -/
def xK (kind : Int) : S.Inst := if kind = 2 then xA else ⟨1, 0, -1, -1, 0, 1, 1⟩
def yN (now : Int) : S.Inst := ⟨1, 0, -1, -1, now, 1, 0⟩
theorem step_xK (kind : Int) (h : kind = 1 ∨ kind = 2) : S.stepI (S.newI 0) hH kind 1 1 0 = xK kind := by
  rcases h with rfl | rfl <;> decide
theorem step_y0 : S.stepI (S.newI 0) hH 1 1 0 0 = yN 0 := by decide
theorem step_y (a b : Int) : S.stepI (yN a) hH 1 1 0 b = yN b := by
  unfold S.stepI yN
  simp [S.meansI, S.moveI, S.calmI, S.comeI]
def rX (kind : Int) : Rt := ⟨hX, kind, 1, 1⟩
def rY : Rt := ⟨hY, 1, 1, 0⟩
theorem stale0 (kind : Int) (h : kind = 1 ∨ kind = 2) : heardL hH [] 0 [rX kind, rY] [] = [⟨hX, xK kind, 1, true⟩, ⟨hY, yN 0, 1, true⟩] := by
  unfold heardL
  simp [allB, hearL, rX, rY, mk_X, mk_Y, getG, putG, stpA, newA, step_xK kind h, step_y0, cmp_YX, ne_XY]
theorem stale1 (kind a b : Int) : heardL hH [] b [rY] [(hX, xK kind), (hY, yN a)] = [⟨hX, xK kind, (xK kind).st, false⟩, ⟨hY, yN b, 1, true⟩] := by
  unfold heardL
  simp [allB, hearL, rY, mk_Y, getG, putG, stpA, beginA, step_y, cmp_YX, ne_XY, show hY ≠ [] by decide, show (yN a).st = 1 from rfl]
  exact fun h => absurd cmp_YY h
theorem stale2 (a b : Int) : heardL hH [] b [rY] [(hY, yN a)] = [⟨hY, yN b, 1, true⟩] := by
  unfold heardL
  simp [allB, hearL, rY, mk_Y, getG, putG, stpA, beginA, step_y, cmp_YY, show hY ≠ [] by decide, show (yN a).st = 1 from rfl]
end Go.Proofs.YtiajafljgfpdcaaGreat
/- What came in. -/
namespace Go.Proofs.YtiajafljgfpdcaaGreat
set_option linter.unusedVariables false
open Go.RowKit Go.ChangeShapes Go.WideShapes Go.ChangeAt Go.Deep
theorem in64_of {a : Int} (h : (Lit.int .i64 a).wf = true) : -9223372036854775808 ≤ a ∧ a ≤ 9223372036854775807 := by
  simp only [Lit.wf, Bool.and_eq_true, decide_eq_true_eq] at h
  exact h
/-- What is read is within the reach. -/
def Fits {H : Type} (d : DataW H) (t : TypeId) : Prop := ∀ q ∈ d.weights Tryz.prog t, q ≤ reachBytes
theorem weightsAll_in {H : Type} {P : Program} {e : TypeId} {d : DataW H} : ∀ {l : List (DataW H)}, d ∈ l → ∀ n ∈ d.weights P e, n ∈ DataW.weightsAll P e l
  | [], h, _, _ => by cases h
  | x :: r, h, n, hn => by
    simp only [DataW.weightsAll, List.mem_append]
    rcases List.mem_cons.1 h with rfl | h
    · exact .inl hn
    · exact .inr (weightsAll_in h n hn)
section
variable {H : Type} {enc : TypeId × Value → H} {W : World} {n : Nat}
theorem cells_at {b o k : Nat} {cs : List Value} (h : W.cells? 0 ⟨b, o, none⟩ k = some cs) : cs.length = k ∧ ∀ i u, cs[i]? = some u → W.cell? ⟨b, o + i, none⟩ = some u := by
  obtain ⟨_, hlen, hcell⟩ := World.cells?_some h
  refine ⟨hlen, fun i u hu => ?_⟩
  have hi : i < k := by
    rw [← hlen]
    rcases Nat.lt_or_ge i cs.length with h | h
    · exact h
    · rw [List.getElem?_eq_none h] at hu; cases hu
  have e := hcell i hi
  rw [add_at] at e
  rw [e]; exact hu
theorem fits_field {ts : List TypeId} {ds : List (DataW H)} {t : TypeId} {d : DataW H} {j st : Nat} {x : DataW H} (hF : Fits x st) (hx : ∀ q ∈ DataW.weightsEach Tryz.prog ts ds, q ∈ x.weights Tryz.prog st) (h1 : ts[j]? = some t) (h2 : ds[j]? = some d) : Fits d t := fun q hq => hF q (hx q (DataW.weights_mem_each h1 h2 q hq))

/-- A slice that came in, with its length's bound in bytes. -/
theorem rows_of_trodb {α : Type} {E : Enc α} (T : RowTy E) (good : α → Prop) (hk : Tryz.prog.cellsOf T.et = E.k) (hbt : Tryz.prog.bytesOf T.et = T.bytes) (hb0 : 0 < T.bytes)
    (elem : ∀ (m : Nat) (cs : List Value) (x : DataW H × List MemPlace), cs.length = E.k → DataW.trod enc Tryz.prog W 0 (fun _ => true) true m T.et cs = some x → Fits x.1 T.et → ∃ p, cs = E.arr p ∧ good p)
    {v : Value} {x : DataW H × List MemPlace} (h : DataW.trod enc Tryz.prog W 0 (fun _ => true) true n T.st [v] = some x) (hF : Fits x.1 T.st) : ∃ l, Sls E W v l ∧ (∀ p ∈ l, good p) ∧ l.length * T.bytes ≤ reachBytes := by
  rcases open_slice T.hu h with ⟨hcs, _⟩ | ⟨a, len, cap, m, k, D, Pl, hcs, _, hl, hm, hmm, hxx, hx⟩
  · simp at hcs
    subst hcs
    exact ⟨[], sls_nil _, (fun p hp => by cases hp), by simp⟩
  · simp at hcs hmm
    subst hcs hmm
    rw [hk] at hx
    have hlr : len * T.bytes ≤ reachBytes := by
      have := hF ((len + (m - len)) * Tryz.prog.bytesOf T.et) (by rw [hxx]; simp [DataW.weights, T.hu])
      rw [hbt] at this
      have h2 : len * T.bytes ≤ (len + (m - len)) * T.bytes := Nat.mul_le_mul_right _ (by omega)
      omega
    by_cases h0 : len = 0
    · subst h0
      exact ⟨[], ⟨some a, m, rfl, ⟨(fun e => by cases e), by simp⟩, .inl rfl⟩, (fun p hp => by cases hp), by simp⟩
    · obtain ⟨b, o, spot⟩ := a
      obtain ⟨cs0, hc0, _⟩ := hx 0 (by omega)
      obtain ⟨_, hlen0, hcell0⟩ := World.cells?_some hc0
      have hc00 := hcell0 0 E.pos
      rw [List.getElem?_eq_getElem (by rw [hlen0]; exact E.pos)] at hc00
      have hspot : spot = none := by simpa [Addr.add] using World.cell?_spot hc00
      subst hspot
      have hv : ∀ i, i < len → ∃ q : α, At E W b (o + i * E.k) q ∧ good q := fun i hi => by
        obtain ⟨cs, h1, h2⟩ := hx i (by omega)
        rw [add_at] at h1
        obtain ⟨hcl, hcc⟩ := cells_at h1
        obtain ⟨p, rfl, hg⟩ := elem _ _ _ hcl h2 (fun q hq => hF q (by
          rw [hxx]
          simp only [DataW.weights, T.hu, List.mem_cons, List.mem_append]
          exact .inr (.inl (weightsAll_in (List.mem_map.2 ⟨i, List.mem_range.2 hi, rfl⟩) q hq))))
        exact ⟨p, fun j u hu => hcc j u hu, hg⟩
      obtain ⟨q, hq⟩ : ∃ q : Nat → α, ∀ i, i < len → At E W b (o + i * E.k) (q i) ∧ good (q i) := by
        refine ⟨fun i => if hi : i < len then Classical.choose (hv i hi) else E.d, fun i hi => ?_⟩
        simp only [hi, dif_pos]
        exact Classical.choose_spec (hv i hi)
      refine ⟨(List.range len).map q, ⟨some ⟨b, o, none⟩, m, by simp, ⟨(fun e => by cases e), by simpa using hl⟩, .inr ⟨b, o, rfl, fun t ht => ?_⟩⟩, ?_, by simpa using hlr⟩
      · have ht' : t < len := by simpa using ht
        have eg : ((List.range len).map q).getD t E.d = q t := by simp [ht']
        rw [eg]
        exact (hq t ht').1
      · intro y hy
        obtain ⟨i, hi, rfl⟩ := List.mem_map.1 hy
        exact (hq i (List.mem_range.1 hi)).2
namespace S
/-- A slice that came in, with its length's bound in bytes. -/
theorem rows_of_trodb {α : Type} {E : Enc α} (T : RowTy E) (good : α → Prop) (hk : Tryz.prog.cellsOf T.et = E.k) (hbt : Tryz.prog.bytesOf T.et = T.bytes) (hb0 : 0 < T.bytes)
    (elem : ∀ (m : Nat) (cs : List Value) (x : DataW H × List MemPlace), cs.length = E.k → DataW.trod enc Tryz.prog W 0 (fun _ => true) true m T.et cs = some x → Fits x.1 T.et → ∃ p, cs = E.arr p ∧ good p)
    {v : Value} {x : DataW H × List MemPlace} (h : DataW.trod enc Tryz.prog W 0 (fun _ => true) true n T.st [v] = some x) (hF : Fits x.1 T.st) : ∃ l, Sls E W v l ∧ (∀ p ∈ l, good p) ∧ l.length * T.bytes ≤ reachBytes := by
  rcases open_slice T.hu h with ⟨hcs, _⟩ | ⟨a, len, cap, m, k, D, Pl, hcs, _, hl, hm, hmm, hxx, hx⟩
  · simp at hcs
    subst hcs
    exact ⟨[], sls_nil _, (fun p hp => by cases hp), by simp⟩
  · simp at hcs hmm
    subst hcs hmm
    rw [hk] at hx
    have hlr : len * T.bytes ≤ reachBytes := by
      have := hF ((len + (m - len)) * Tryz.prog.bytesOf T.et) (by rw [hxx]; simp [DataW.weights, T.hu])
      rw [hbt] at this
      have h2 : len * T.bytes ≤ (len + (m - len)) * T.bytes := Nat.mul_le_mul_right _ (by omega)
      omega
    by_cases h0 : len = 0
    · subst h0
      exact ⟨[], ⟨some a, m, rfl, ⟨(fun e => by cases e), by simp⟩, .inl rfl⟩, (fun p hp => by cases hp), by simp⟩
    · obtain ⟨b, o, spot⟩ := a
      obtain ⟨cs0, hc0, _⟩ := hx 0 (by omega)
      obtain ⟨_, hlen0, hcell0⟩ := World.cells?_some hc0
      have hc00 := hcell0 0 E.pos
      rw [List.getElem?_eq_getElem (by rw [hlen0]; exact E.pos)] at hc00
      have hspot : spot = none := by simpa [Addr.add] using World.cell?_spot hc00
      subst hspot
      have hv : ∀ i, i < len → ∃ q : α, At E W b (o + i * E.k) q ∧ good q := fun i hi => by
        obtain ⟨cs, h1, h2⟩ := hx i (by omega)
        rw [add_at] at h1
        obtain ⟨hcl, hcc⟩ := cells_at h1
        obtain ⟨p, rfl, hg⟩ := elem _ _ _ hcl h2 (fun q hq => hF q (by
          rw [hxx]
          simp only [DataW.weights, T.hu, List.mem_cons, List.mem_append]
          exact .inr (.inl (weightsAll_in (List.mem_map.2 ⟨i, List.mem_range.2 hi, rfl⟩) q hq))))
        exact ⟨p, fun j u hu => hcc j u hu, hg⟩
      obtain ⟨q, hq⟩ : ∃ q : Nat → α, ∀ i, i < len → At E W b (o + i * E.k) (q i) ∧ good (q i) := by
        refine ⟨fun i => if hi : i < len then Classical.choose (hv i hi) else E.d, fun i hi => ?_⟩
        simp only [hi, dif_pos]
        exact Classical.choose_spec (hv i hi)
      refine ⟨(List.range len).map q, ⟨some ⟨b, o, none⟩, m, by simp, ⟨(fun e => by cases e), by simpa using hl⟩, .inr ⟨b, o, rfl, fun t ht => ?_⟩⟩, ?_, by simpa using hlr⟩
      · have ht' : t < len := by simpa using ht
        have eg : ((List.range len).map q).getD t E.d = q t := by simp [ht']
        rw [eg]
        exact (hq t ht').1
      · intro y hy
        obtain ⟨i, hi, rfl⟩ := List.mem_map.1 hy
        exact (hq i (List.mem_range.1 hi)).2
end S
theorem int_of_trod {v : Value} {x : DataW H × List MemPlace} (h : DataW.trod enc Tryz.prog W 0 (fun _ => true) true n 3 [v] = some x) : ∃ a, v = .int .i64 a ∧ -9223372036854775808 ≤ a ∧ a ≤ 9223372036854775807 := by
  obtain ⟨a0, h01, _, h03⟩ := DataW.trod_int Tryz.underlying3 h
  simp at h01
  exact ⟨a0, h01, in64_of h03⟩
theorem int2_of_trod {v : Value} {x : DataW H × List MemPlace} (h : DataW.trod enc Tryz.prog W 0 (fun _ => true) true n 2 [v] = some x) : ∃ a, v = .int .i64 a ∧ -9223372036854775808 ≤ a ∧ a ≤ 9223372036854775807 := by
  obtain ⟨a0, h01, _, h03⟩ := DataW.trod_int Tryz.underlying2 h
  simp at h01
  exact ⟨a0, h01, in64_of h03⟩
/-- A number of 64 bits. -/
def I64 (n : Int) : Prop := -9223372036854775808 ≤ n ∧ n ≤ 9223372036854775807
set_option maxRecDepth 100000 in
theorem val_of_trod {cs : List Value} {x : DataW H × List MemPlace} (hl : cs.length = 2) (h : DataW.trod enc Tryz.prog W 0 (fun _ => true) true n 57 cs = some x) : ∃ k m, cs = [.int .i64 k, .int .i64 m] ∧ I64 k ∧ I64 m := by
  match cs, hl with
  | [v0, v1], _ =>
    obtain ⟨xs, k, _, hxx, _, hxl, hf⟩ := DataW.trod_struct Tryz.underlying57 h
    have g0 : DataW.trod enc Tryz.prog W 0 (fun _ => true) true k 3 (([v0, v1].drop 0).take (Tryz.prog.cellsOf 3)) = xs[0]? := hf 0 _ rfl
    have g1 : DataW.trod enc Tryz.prog W 0 (fun _ => true) true k 2 (([v0, v1].drop 1).take (Tryz.prog.cellsOf 2)) = xs[1]? := hf 1 _ rfl
    have k2 : Tryz.prog.cellsOf 2 = 1 := by kernel_rfl
    have k3 : Tryz.prog.cellsOf 3 = 1 := by kernel_rfl
    simp only [k2, k3, List.drop_zero, List.drop_succ_cons, List.take_succ_cons, List.take_zero] at g0 g1
    match xs, hxl with
    | [y0, y1], _ =>
      simp at g0 g1
      obtain ⟨z0, rfl, b0⟩ := int_of_trod g0
      obtain ⟨z1, rfl, b1⟩ := int2_of_trod g1
      exact ⟨z0, z1, rfl, b0, b1⟩
def HolIn (h   : S.Hd) : Prop := I64 h.fo ∧ I64 h.keep ∧ I64 h.nd ∧ I64 h.oe
set_option maxRecDepth 100000 in
theorem hol_of_trod {cs : List Value} {x : DataW H × List MemPlace} (hl : cs.length = 4) (h : DataW.trod enc Tryz.prog W 0 (fun _ => true) true n 23 cs = some x) : ∃ x   : S.Hd, cs = [.int .i64 x.fo, .int .i64 x.keep, .int .i64 x.nd, .int .i64 x.oe] ∧ HolIn x := by
  match cs, hl with
  | [v0, v1, v2, v3], _ =>
    obtain ⟨xs, k, _, hxx, _, hxl, hf⟩ := DataW.trod_struct Tryz.underlying23 h
    have g0 : DataW.trod enc Tryz.prog W 0 (fun _ => true) true k 2 (([v0, v1, v2, v3].drop 0).take (Tryz.prog.cellsOf 2)) = xs[0]? := hf 0 _ rfl
    have g1 : DataW.trod enc Tryz.prog W 0 (fun _ => true) true k 2 (([v0, v1, v2, v3].drop 1).take (Tryz.prog.cellsOf 2)) = xs[1]? := hf 1 _ rfl
    have g2 : DataW.trod enc Tryz.prog W 0 (fun _ => true) true k 3 (([v0, v1, v2, v3].drop 2).take (Tryz.prog.cellsOf 3)) = xs[2]? := hf 2 _ rfl
    have g3 : DataW.trod enc Tryz.prog W 0 (fun _ => true) true k 3 (([v0, v1, v2, v3].drop 3).take (Tryz.prog.cellsOf 3)) = xs[3]? := hf 3 _ rfl
    have k2 : Tryz.prog.cellsOf 2 = 1 := by kernel_rfl
    have k3 : Tryz.prog.cellsOf 3 = 1 := by kernel_rfl
    simp only [k2, k3, List.drop_zero, List.drop_succ_cons, List.take_succ_cons, List.take_zero] at g0 g1 g2 g3
    match xs, hxl with
    | [y0, y1, y2, y3], _ =>
      simp at g0 g1 g2 g3
      obtain ⟨z0, rfl, b0⟩ := int2_of_trod g0
      obtain ⟨z1, rfl, b1⟩ := int2_of_trod g1
      obtain ⟨z2, rfl, b2⟩ := int_of_trod g2
      obtain ⟨z3, rfl, b3⟩ := int_of_trod g3
      exact ⟨⟨z0, z1, z2, z3⟩, rfl, b0, b1, b2, b3⟩
theorem in_of_trod {cs : List Value} {x : DataW H × List MemPlace} (hl : cs.length = 1) (h : DataW.trod enc Tryz.prog W 0 (fun _ => true) true n 2 cs = some x) : ∃ p : Int, cs = S.eIn.arr p ∧ I64 p := by
  match cs, hl with
  | [v0], _ =>
    obtain ⟨a, rfl, b⟩ := int2_of_trod h
    exact ⟨a, rfl, b⟩
theorem ints_of_trod {v : Value} {x : DataW H × List MemPlace} (h : DataW.trod enc Tryz.prog W 0 (fun _ => true) true n 76 [v] = some x) (hF : Fits x.1 76) : ∃ l, S.Ins W v l ∧ (∀ p ∈ l, I64 p) ∧ l.length ≤ 17592186043904 := by
  obtain ⟨l, h1, h2, h3⟩ := S.rows_of_trodb S.TI I64 (by kernel_rfl) (by kernel_rfl) (by decide) (fun _ _ _ hl h _ => in_of_trod hl h) h hF
  refine ⟨l, h1, h2, ?_⟩
  replace h3 : l.length * 8 ≤ 140737488351232 := h3
  omega
set_option maxRecDepth 100000 in
theorem hol_arg {v : Value} {b0 : Nat} {x : DataW H × List MemPlace} (hval : Value.okWide Tryz.prog W .any b0 23 v) (h : DataW.trod enc Tryz.prog W 0 (fun _ => true) true n 23 v.cells.toList = some x) : ∃ x   : S.Hd, v = S.encH x ∧ HolIn x := by
  obtain ⟨cs, rfl, hs⟩ := okWide_struct Tryz.underlying23 hval
  have kk : Tryz.prog.cellsOf 23 = 4 := by kernel_rfl
  rw [kk] at hs
  obtain ⟨g, hcs, hp⟩ := hol_of_trod (by simpa [Value.cells] using hs) h
  refine ⟨g, ?_, hp⟩
  simp only [Value.cells] at hcs
  unfold S.encH
  congr 1
  apply Array.toList_inj.1
  rw [hcs]
end
end Go.Proofs.YtiajafljgfpdcaaGreat
/- BoardStale: its Updates. -/
namespace Go.Proofs.YtiajafljgfpdcaaGreat
set_option linter.unusedVariables false
open Go.RowKit
theorem sls_two {α : Type} {E : Enc α} (w : World) (x y : α) (cs : Array Value) (ty : TypeId) (hcs : cs.toList = E.arr x ++ E.arr y) : Sls E (w.alloc (.cells cs ty)) (.slice (some ⟨w.heap.size, 0, none⟩) 2 2) [x, y] := by
  refine ⟨_, 2, rfl, ⟨(fun e => by cases e), Nat.le_refl _⟩, .inr ⟨w.heap.size, 0, rfl, fun t ht i u hu => ?_⟩⟩
  have hk : i < E.k := by
    rcases Nat.lt_or_ge i E.k with h | h
    · exact h
    · rw [List.getElem?_eq_none (by rw [E.len]; exact h)] at hu; cases hu
  have hc : ∀ j, (w.alloc (.cells cs ty)).cell? ⟨w.heap.size, j, none⟩ = cs.toList[j]? := fun j => by simp only [World.cell?, heap_new]; simp
  have ht2 : t = 0 ∨ t = 1 := by
    have : t < 2 := ht
    omega
  rcases ht2 with rfl | rfl
  · rw [show 0 + 0 * E.k + i = i by omega, hc, hcs, List.getElem?_append_left (by rw [E.len]; exact hk)]
    exact hu
  · rw [show 0 + 1 * E.k + i = E.k + i by omega, hc, hcs, List.getElem?_append_right (by rw [E.len]; omega), E.len, Nat.add_sub_cancel_left]
    exact hu
/-- The board: is x gone? -/
def bdS (kind now : Int) (gone : Bool) : List (List Lb × S.Inst) := if gone then [(hY, yN now)] else [(hX, xK kind), (hY, yN now)]
def tlS (kind : Int) (gone over : Bool) : List Cg := if (over && !gone) && decide (kind = 2) then [⟨hX, 3, 1, 2, 0⟩] else []
theorem xK_seen (kind : Int) : (xK kind).seen = 0 := by unfold xK; split <;> rfl
theorem stale_round (iv kind a b : Int) (gone : Bool) (hk : kind = 1 ∨ kind = 2) (hg : gone = true → 2 * iv ≤ b) : leftL iv b (heardL hH [] b [rY] (bdS kind a gone)) = bdS kind b (decide (2 * iv ≤ b)) ∧ toldL iv b (heardL hH [] b [rY] (bdS kind a gone)) = tlS kind gone (decide (2 * iv ≤ b)) := by
  cases gone with
  | true =>
    have h1 := hg rfl
    unfold bdS
    rw [if_pos rfl, stale2]
    simp [leftL, toldL, tellA, overB, tlS, h1, yN]
  | false =>
    unfold bdS
    rw [if_neg (by decide), stale1]
    by_cases h1 : 2 * iv ≤ b
    · rcases hk with rfl | rfl
      · simp [leftL, toldL, tellA, overB, tlS, h1, yN, xK_seen, show (xK 1).st = 1 from rfl]
      · simp [leftL, toldL, tellA, overB, tlS, h1, yN, xK_seen, show (xK 2).st = 3 from rfl]
    · simp [leftL, toldL, tellA, overB, tlS, h1, yN, xK_seen]
theorem lbsR_hY : LbsR hY := hY_set.short.reach
theorem fine_xK (kind now : Int) (h : 0 ≤ now ∧ now ≤ 1000000) : Fine now (xK kind) := by unfold xK; split <;> (unfold Fine; simp [xA])
theorem fine_yN (a now : Int) : Fine now (yN a) := by unfold Fine; simp [yN]
theorem up_s0 (iv kind : Int) (hiv : 1 ≤ iv ∧ iv ≤ 1000) (hk : kind = 1 ∨ kind = 2) (sx sy : Sv) (w : World) (hx : Lbs w sx.v hX) (hy : Lbs w sy.v hY) : Calls Tryz.prog 11 #[.slice none 0 0, .agg #[.int .i64 0, .int .i64 0, .int .i64 1, .int .i64 1], .slice none 0 0, .int .i64 iv, .int .i64 0, .slice (some ⟨w.heap.size, 0, none⟩) 2 2] (w.alloc (.cells #[sx.v, .int .i64 kind, .int .i64 1, .int .i64 1, sy.v, .int .i64 1, .int .i64 1, .int .i64 0] 59)) fun e w' => ∃ G, UpA w (bdS kind 0 false) G e w' := by
  have hin : ∀ e ∈ ([⟨sx, rX kind⟩, ⟨sy, rY⟩] : List Rn), e.r.ls = hX ∨ e.r.ls = hY := by
    intro e he
    rcases List.mem_cons.1 he with rfl | he
    · exact .inl rfl
    · rw [List.mem_singleton.1 he]; exact .inr rfl
  have h := update_any (.slice none 0 0) (.slice none 0 0) (.slice (some ⟨w.heap.size, 0, none⟩) 2 2) [] [] [⟨sx, rX kind⟩, ⟨sy, rY⟩] hH iv 0 (w.alloc (.cells #[sx.v, .int .i64 kind, .int .i64 1, .int .i64 1, sy.v, .int .i64 1, .int .i64 1, .int .i64 0] 59))
    { ens := ⟨sls_nil _, by simp⟩, rise := riseE0, len := by simp, ownv := sls_nil _, ownl := by simp, ownr := (fun a ha => by cases ha),
      rns := ⟨sls_two w _ _ _ _ rfl, fun e he => by
        rcases List.mem_cons.1 he with rfl | he
        · exact Sls.alloc hx _
        · rw [List.mem_singleton.1 he]; exact Sls.alloc hy _⟩,
      rlen := by simp,
      rl := fun r hr => by rcases hin r hr with h | h <;> rw [h] <;> decide,
      rr := fun r hr => by
        rcases hin r hr with h | h <;> rw [h]
        · exact lbsR_hX
        · exact lbsR_hY,
      fine := by simp, seen := by simp, iv := by omega }
  unfold heardF at h
  have e0 : heardL hH [] 0 (([⟨sx, rX kind⟩, ⟨sy, rY⟩] : List Rn).map (·.r)) (([] : List En).map enF) = _ := stale0 kind hk
  rw [e0] at h
  refine h.mono ?_
  rintro e w' ⟨y, z, E, C, he, h1, h2, h3, h4, h5⟩
  have hl : leftL iv 0 [⟨hX, xK kind, 1, true⟩, ⟨hY, yN 0, 1, true⟩] = bdS kind 0 false := by simp [leftL, overB, bdS]
  exact ⟨_, y, z, E, C, he, h1, h2, h3.trans hl, h4, ((Below.refl _ w).alloc (Nat.le_refl _) _).trans (h5.mono (by simp))⟩
theorem bdS_mem {kind a : Int} {gone : Bool} {E : List En} (hE : E.map enF = bdS kind a gone) : ∀ e ∈ E, (e.ls = hX ∧ e.x = xK kind) ∨ (e.ls = hY ∧ e.x = yN a) := fun e he => by
  have h : enF e ∈ E.map enF := List.mem_map_of_mem he
  rw [hE] at h
  have h2 : enF e = (hX, xK kind) ∨ enF e = (hY, yN a) := by
    unfold bdS at h
    split at h
    · exact .inr (List.mem_singleton.1 h)
    · rcases List.mem_cons.1 h with h | h
      · exact .inl h
      · exact .inr (List.mem_singleton.1 h)
  rcases h2 with h2 | h2
  · exact .inl ⟨congrArg Prod.fst h2, congrArg Prod.snd h2⟩
  · exact .inr ⟨congrArg Prod.fst h2, congrArg Prod.snd h2⟩
theorem bdS_rise {kind a : Int} {gone : Bool} {E : List En} (hE : E.map enF = bdS kind a gone) : RiseE E := by
  refine ⟨?_, fun e he => by rcases bdS_mem hE e he with ⟨h, _⟩ | ⟨h, _⟩ <;> rw [h]; exact hX_set; exact hY_set⟩
  have h1 : (E.map enF).Pairwise fun p q => cmpS p.1 q.1 = -1 := by
    rw [hE]; unfold bdS
    split
    · exact List.pairwise_singleton _ _
    · simp [cmp_XY]
  exact List.pairwise_map.1 h1
theorem bdS_len {kind a : Int} {gone : Bool} {E : List En} (hE : E.map enF = bdS kind a gone) : E.length ≤ 2 := by
  have h : E.length = (bdS kind a gone).length := by rw [← hE]; simp
  rw [h]; unfold bdS; split <;> simp
theorem up_s1 (iv kind a b : Int) (gone : Bool) (hiv : 1 ≤ iv ∧ iv ≤ 1000) (hk : kind = 1 ∨ kind = 2) (ha : 0 ≤ a ∧ a ≤ b) (hb : b ≤ 1000000) (hg : gone = true → 2 * iv ≤ b) (sy : Sv) (v : Value) (E : List En) (w : World) (hy : Lbs w sy.v hY) (hv : Ens w v E) (hE : E.map enF = bdS kind a gone) : Calls Tryz.prog 11 #[v, .agg #[.int .i64 0, .int .i64 0, .int .i64 1, .int .i64 1], .slice none 0 0, .int .i64 iv, .int .i64 b, .slice (some ⟨w.heap.size, 0, none⟩) 1 1] (w.alloc (.cells #[sy.v, .int .i64 1, .int .i64 1, .int .i64 0] 59)) fun e w' => UpA w (bdS kind b (decide (2 * iv ≤ b))) (tlS kind gone (decide (2 * iv ≤ b))) e w' := by
  have hm := bdS_mem hE
  have hin : ∀ e ∈ ([⟨sy, rY⟩] : List Rn), e.r.ls = hY := by
    intro e he
    rw [List.mem_singleton.1 he]; rfl
  have h := update_any v (.slice none 0 0) (.slice (some ⟨w.heap.size, 0, none⟩) 1 1) E [] [⟨sy, rY⟩] hH iv b (w.alloc (.cells #[sy.v, .int .i64 1, .int .i64 1, .int .i64 0] 59))
    { ens := hv.grow ((Below.refl _ w).alloc (Nat.le_refl _) _), rise := bdS_rise hE, len := by have := bdS_len hE; omega, ownv := sls_nil _, ownl := by simp, ownr := (fun a ha => by cases ha),
      rns := ⟨sls_one w _ _ _ rfl, fun e he => by
        rw [List.mem_singleton.1 he]; exact Sls.alloc hy _⟩,
      rlen := by simp,
      rl := fun r hr => by rw [hin r hr]; decide,
      rr := fun r hr => by rw [hin r hr]; exact lbsR_hY,
      fine := fun e he => by
        rcases hm e he with ⟨_, h⟩ | ⟨_, h⟩ <;> rw [h]
        · exact fine_xK kind b (by omega)
        · exact fine_yN a b,
      seen := fun e he => by
        rcases hm e he with ⟨_, h⟩ | ⟨_, h⟩ <;> rw [h]
        · rw [xK_seen]; omega
        · simp only [yN]; omega,
      iv := by omega }
  unfold heardF at h
  have e0 : heardL hH [] b (([⟨sy, rY⟩] : List Rn).map (·.r)) (E.map enF) = heardL hH [] b [rY] (bdS kind a gone) := by rw [hE]; rfl
  obtain ⟨s1, s2⟩ := stale_round iv kind a b gone hk hg
  rw [e0, s1, s2] at h
  refine h.mono ?_
  rintro e w' ⟨y, z, E', C, he, h1, h2, h3, h4, h5⟩
  exact ⟨y, z, E', C, he, h1, h2, h3, h4, ((Below.refl _ w).alloc (Nat.le_refl _) _).trans (h5.mono (by simp))⟩
end Go.Proofs.YtiajafljgfpdcaaGreat
/- BoardStale: the walk. -/
namespace Go.Proofs.YtiajafljgfpdcaaGreat
open Go.RowKit
set_option linter.unusedVariables false
theorem bdS_there {kind a : Int} {gone : Bool} {E : List En} (hE : E.map enF = bdS kind a gone) : (thF E hX ↔ gone = false) ∧ thF E hY := by
  have hmap : ∀ ls, thF E ls ↔ ∃ p ∈ bdS kind a gone, p.1 = ls := fun ls => by
    rw [← hE]
    constructor
    · rintro ⟨e, he, h⟩; exact ⟨enF e, List.mem_map_of_mem he, h⟩
    · rintro ⟨p, hp, h⟩
      obtain ⟨e, he, rfl⟩ := List.mem_map.1 hp
      exact ⟨e, he, h⟩
  rw [hmap, hmap]
  unfold bdS
  cases gone <;> simp [ne_XY, Ne.symm ne_XY]
theorem there_bdS (u : Value) (E : List En) (kind a : Int) (gone : Bool) (w : World) (hu : Ens w u E) (hE : E.map enF = bdS kind a gone) (v : Value) (hv : Lbs w v hX) : Calls Tryz.prog 28 #[u, v] w fun e w' => e = .returned (.bool (!gone)) ∧ Below w.heap.size w w' := by
  refine (there28 u v E hX w hu hv (by have := bdS_len hE; omega) (fun e he => by rcases bdS_mem hE e he with ⟨h, _⟩ | ⟨h, _⟩ <;> rw [h] <;> decide) (by decide)).mono ?_
  rintro e w' ⟨b, rfl, hb, hB⟩
  refine ⟨?_, hB⟩
  have := (bdS_there hE).1
  rw [this] at hb
  cases b <;> cases gone <;> simp_all
theorem there_bdY (u : Value) (E : List En) (kind a : Int) (gone : Bool) (w : World) (hu : Ens w u E) (hE : E.map enF = bdS kind a gone) (v : Value) (hv : Lbs w v hY) : Calls Tryz.prog 28 #[u, v] w fun e w' => e = .returned (.bool true) ∧ Below w.heap.size w w' := by
  refine (there28 u v E hY w hu hv (by have := bdS_len hE; omega) (fun e he => by rcases bdS_mem hE e he with ⟨h, _⟩ | ⟨h, _⟩ <;> rw [h] <;> decide) (by decide)).mono ?_
  rintro e w' ⟨b, rfl, hb, hB⟩
  exact ⟨by rw [hb.2 (bdS_there hE).2], hB⟩
set_option maxRecDepth 100000 in
set_option maxHeartbeats 4000000 in
theorem stale_walk (iv : Int) (gv : Value) (gaps : List Int) (kind : Int) (w : World) (hiv : I64 iv) (hg : S.Ins w gv gaps) (hg64 : ∀ p ∈ gaps, I64 p) (hgl : gaps.length ≤ 17592186043904) (hkd : I64 kind) :
    Calls Tryz.prog 8 #[.int .i64 iv, gv, .int .i64 kind] w fun e w' => e = .returned (.bool true) ∧ Below w.heap.size w w' := by
  obtain ⟨ga, gc, rfl⟩ := hg.shape
  have hL := fun W => live10 W
  by_cases h0 : 1 ≤ iv ∧ iv ≤ 1000 ∧ gaps.length ≤ 30 ∧ 1 ≤ kind ∧ kind ≤ 2
  · obtain ⟨i1, i2, i3, i4, i5⟩ := h0
    have j1 : ¬ iv < 1 := by omega
    have j2 : ¬ (1000 : Int) < iv := by omega
    have j3 : ¬ (30 : Int) < (gaps.length : Int) := by omega
    have j4 : ¬ kind < 1 := by omega
    have j5 : ¬ (2 : Int) < kind := by omega
    go_enter Tryz.func8, Tryz.ntmps8
    go_upto_region 6 with fail
    clear j1 j2 j3 j4 j5
    have hkk : kind = 1 ∨ kind = 2 := by omega
    obtain ⟨W2, hW2⟩ : ∃ W2, W2 = ((w.alloc (.cells #[.int .i64 0, .int .i64 0, .int .i64 1, .int .i64 1] 23)).alloc (.cells #[.string ⟨#[104]⟩, .string ⟨#[49]⟩] 70)).alloc (.cells #[.string ⟨#[104]⟩, .string ⟨#[50]⟩] 70) := ⟨_, rfl⟩
    rw [← hW2]
    have hb0 : Below w.heap.size w W2 := by rw [hW2]; exact (((Below.refl _ w).alloc (Nat.le_refl _) _).alloc (by simp) _).alloc (by simp; omega) _
    have hk2 : W2.heap[w.heap.size]? = some (.cells #[.int .i64 0, .int .i64 0, .int .i64 1, .int .i64 1] 23 (0, 0)) := by rw [hW2]; exact ((((Below.refl _ (w.alloc (.cells #[.int .i64 0, .int .i64 0, .int .i64 1, .int .i64 1] 23))).alloc (Nat.le_refl _) _).alloc (by simp) _).block w.heap.size (by simp)).trans (heap_new _ _)
    have x0 : W2.cell? ⟨w.heap.size, 0, none⟩ = some (.int .i64 0) := by unfold World.cell?; rw [hk2]; rfl
    have x1 : W2.cell? ⟨w.heap.size, 1, none⟩ = some (.int .i64 0) := by unfold World.cell?; rw [hk2]; rfl
    have x2 : W2.cell? ⟨w.heap.size, 2, none⟩ = some (.int .i64 1) := by unfold World.cell?; rw [hk2]; rfl
    have x3 : W2.cell? ⟨w.heap.size, 3, none⟩ = some (.int .i64 1) := by unfold World.cell?; rw [hk2]; rfl
    have e1 : (w.alloc (.cells #[.int .i64 0, .int .i64 0, .int .i64 1, .int .i64 1] 23)).heap.size = w.heap.size + 1 := by simp
    have e2 : ((w.alloc (.cells #[.int .i64 0, .int .i64 0, .int .i64 1, .int .i64 1] 23)).alloc (.cells #[.string ⟨#[104]⟩, .string ⟨#[49]⟩] 70)).heap.size = w.heap.size + 1 + 1 := by simp
    have hXv : Lbs W2 (.slice (some ⟨w.heap.size + 1, 0, none⟩) 1 1) hX := by
      have := sls_one (E := encL) (w.alloc (.cells #[.int .i64 0, .int .i64 0, .int .i64 1, .int .i64 1] 23)) ⟨⟨#[104]⟩, ⟨#[49]⟩⟩ #[.string ⟨#[104]⟩, .string ⟨#[49]⟩] 70 rfl
      rw [e1] at this
      rw [hW2]
      exact Sls.alloc this _
    have hYv : Lbs W2 (.slice (some ⟨w.heap.size + 1 + 1, 0, none⟩) 1 1) hY := by
      have := sls_one (E := encL) ((w.alloc (.cells #[.int .i64 0, .int .i64 0, .int .i64 1, .int .i64 1] 23)).alloc (.cells #[.string ⟨#[104]⟩, .string ⟨#[49]⟩] 70)) ⟨⟨#[104]⟩, ⟨#[50]⟩⟩ #[.string ⟨#[104]⟩, .string ⟨#[50]⟩] 70 rfl
      rw [e2] at this
      rw [hW2]
      exact this
    have hg2 : S.Ins W2 (.slice ga gaps.length gc) gaps := S.Sls.grow hg hb0
    have keep : ∀ X {b o : Nat} {u : Value}, Below W2.heap.size W2 X → W2.cell? ⟨b, o, none⟩ = some u → X.cell? ⟨b, o, none⟩ = some u := fun X b o u hX h => (hX.cell (p := ⟨b, o, none⟩) (World.block_lt_of_cell? W2 _ h)).trans h
    have hU1 : ∀ W, Below W2.heap.size W2 W → _ := fun W hW => up_s0 iv kind ⟨i1, i2⟩ hkk ⟨some ⟨w.heap.size + 1, 0, none⟩, 1, 1⟩ ⟨some ⟨w.heap.size + 1 + 1, 0, none⟩, 1, 1⟩ W (Sls.grow hXv hW) (Sls.grow hYv hW)
    unfold Sv.v at hU1
    simp only at hU1
    have hn : ∀ W (z : Int), 0 ≤ z → z ≤ 1 → Calls Tryz.prog 29 #[.int .i64 z] W fun e w' => e = .returned (.agg #[.int .i64 1, .int .i64 z]) ∧ Below W.heap.size W w' := fun W z h1 h2 => S.rnum20 z W (by omega) (by omega)
    have hBc : Below W2.heap.size W2 W2.drew := (Below.refl _ W2).drew
    clear hW2 hk2 e1 e2 hg
    replace hL : Hid (∀ W, Calls Tryz.prog 10 #[] W fun e w' => e = .returned (.bool true) ∧ Below W.heap.size W w') := hL
    replace hg64 : Hid (∀ p ∈ gaps, I64 p) := hg64
    go_region_held3 (fun X => X.cell? ⟨w.heap.size, 0, none⟩ = some (.int .i64 0) ∧ X.cell? ⟨w.heap.size, 1, none⟩ = some (.int .i64 0) ∧ X.cell? ⟨w.heap.size, 2, none⟩ = some (.int .i64 1) ∧ X.cell? ⟨w.heap.size, 3, none⟩ = some (.int .i64 1)) (go_keep) (first
      | (go_at_call 29; refine (hn _ _ (by decide) (by decide)).mono ?_; rintro e wn ⟨rfl, hbn⟩; replace hBc := hBc.trans (hbn.mono hBc.size); have y0 := keep _ hBc x0; have y1 := keep _ hBc x1; have y2 := keep _ hBc x2; have y3 := keep _ hBc x3; have hBa := hBc.alloc hBc.size (.cells #[.slice (some ⟨w.heap.size + 1, 0, none⟩) 1 1, .int .i64 kind, .int .i64 1, .int .i64 1, .slice (some ⟨w.heap.size + 1 + 1, 0, none⟩) 1 1, .int .i64 1, .int .i64 1, .int .i64 0] 59); have v0 := keep _ hBa x0; have v1 := keep _ hBa x1; have v2 := keep _ hBa x2; have v3 := keep _ hBa x3; have hU3 := hU1 wn hBc)
      | (go_at_call 11; refine hU3.mono ?_; rintro e w4 ⟨G, y, z, E, C, rfl, hE, hC, hEm, hCm, hb4⟩; have hB4 : Below W2.heap.size W2 w4 := hBc.trans (hb4.mono hBc.size); have t0 := keep _ hB4 x0; have t1 := keep _ hB4 x1; have t2 := keep _ hB4 x2; have t3 := keep _ hB4 x3))
    replace hb0 : Hid (Below w.heap.size w W2) := hb0
    replace hEm : Hid (E.map enF = bdS kind 0 false) := hEm
    have hEn : Hid (Ens w4 y E) := hE
    clear hC hCm hU3 hU1 hn hE
    go_wp2
    go_loopw [10, 12, 13, 14] (fun bv nv gv i wr => ∃ (k : Nat) (a : Int) (g : Bool) (E : List En), k ≤ gaps.length ∧ i = .int .i64 k ∧ nv = .int .i64 a ∧ gv = .bool g ∧ Hid (Ens wr bv E) ∧ Hid (E.map enF = bdS kind a g) ∧ Hid (0 ≤ a ∧ a ≤ 10000 * k) ∧ Hid (g = true → 2 * iv ≤ a) ∧ Hid (Below W2.heap.size W2 wr)) (fun _ _ _ i _ => gaps.length - (intOf i).toNat)
    case atStart => exact ⟨0, 0, false, E, Nat.zero_le _, rfl, rfl, rfl, hEn.out, hEm.out, (show (0 : Int) ≤ 0 ∧ (0 : Int) ≤ 10000 * ((0 : Nat) : Int) by omega), (show false = true → 2 * iv ≤ 0 from fun h => by cases h), hB4⟩
    case round =>
      obtain ⟨k, a, g, E, hk, rfl, rfl, rfl, hEn, hEm, hA, hG, hB⟩ := hrel
      by_cases hlt : k < gaps.length
      · have hki : (k : Int) < (gaps.length : Int) := by omega
        obtain ⟨bb, o, rfl, p0⟩ := S.in_at (S.Sls.grow hg2 hB.out) k hlt
        generalize gaps.getD k 0 = p at *
        have hBw : Hid (Below w.heap.size w wr) := hb0.out.trans (hB.out.mono hb0.out.size)
        by_cases p1 : p < 0
        · go_wp2_with (go_at_call 10; refine (hL.out _).mono ?_; rintro e w1 ⟨rfl, hb1⟩)
          go_ret
          exact ⟨rfl, hBw.out.trans (hb1.mono hBw.out.size)⟩
        · by_cases p2 : (10000 : Int) < p
          · go_wp2_with (go_at_call 10; refine (hL.out _).mono ?_; rintro e w1 ⟨rfl, hb1⟩)
            go_ret
            exact ⟨rfl, hBw.out.trans (hb1.mono hBw.out.size)⟩
          · have hAo := hA.out
            obtain ⟨q, hq⟩ : ∃ q, q = a + p := ⟨_, rfl⟩
            have hwrap : IntKind.i64.wrap (a + p) = q := by rw [Go.IntWalk.i64_in _ (by omega)]; omega
            have hq1 : Hid (0 ≤ q ∧ q ≤ 10000 * ((k + 1 : Nat) : Int)) := by show _ ∧ _; omega
            have hq2 : Hid (a ≤ q ∧ q ≤ 1000000) := by show _ ∧ _; omega
            clear hAo
            replace hq : Hid (q = a + p) := hq
            go_upto_region 15 with fail
            clear p0
            have t0 := keep _ hB.out x0
            have t1 := keep _ hB.out x1
            have t2 := keep _ hB.out x2
            have t3 := keep _ hB.out x3
            have keepr : ∀ X {b o : Nat} {u : Value}, Below wr.heap.size wr X → wr.cell? ⟨b, o, none⟩ = some u → X.cell? ⟨b, o, none⟩ = some u := fun X b o u hX h => (hX.cell (p := ⟨b, o, none⟩) (World.block_lt_of_cell? wr _ h)).trans h
            have hU1 : ∀ W, Below wr.heap.size wr W → _ := fun W hW => up_s1 iv kind a q g ⟨i1, i2⟩ hkk ⟨hA.out.1, hq2.out.1⟩ hq2.out.2 (fun h => Int.le_trans (hG.out h) hq2.out.1) ⟨some ⟨w.heap.size + 1 + 1, 0, none⟩, 1, 1⟩ u10 E W (Sls.grow (Sls.grow hYv hB.out) hW) (hEn.out.grow hW) hEm.out
            unfold Sv.v at hU1
            simp only at hU1
            have hn : ∀ W (z : Int), 0 ≤ z → z ≤ 1 → Calls Tryz.prog 29 #[.int .i64 z] W fun e w' => e = .returned (.agg #[.int .i64 1, .int .i64 z]) ∧ Below W.heap.size W w' := fun W z h1 h2 => S.rnum20 z W (by omega) (by omega)
            have hBc : Below wr.heap.size wr wr.drew := (Below.refl _ wr).drew
            generalize hov : decide (2 * iv ≤ q) = ov at *
            go_region_held3 (fun X => X.cell? ⟨w.heap.size, 0, none⟩ = some (.int .i64 0) ∧ X.cell? ⟨w.heap.size, 1, none⟩ = some (.int .i64 0) ∧ X.cell? ⟨w.heap.size, 2, none⟩ = some (.int .i64 1) ∧ X.cell? ⟨w.heap.size, 3, none⟩ = some (.int .i64 1)) (go_keep) (first
              | (go_at_call 29; refine (hn _ _ (by decide) (by decide)).mono ?_; rintro e wn ⟨rfl, hbn⟩; replace hBc := hBc.trans (hbn.mono hBc.size); have y0 := keepr _ hBc t0; have y1 := keepr _ hBc t1; have y2 := keepr _ hBc t2; have y3 := keepr _ hBc t3; have hBa := hBc.alloc hBc.size (.cells #[.slice (some ⟨w.heap.size + 1 + 1, 0, none⟩) 1 1, .int .i64 1, .int .i64 1, .int .i64 0] 59); have v0 := keepr _ hBa t0; have v1 := keepr _ hBa t1; have v2 := keepr _ hBa t2; have v3 := keepr _ hBa t3; have hU3 := hU1 wn hBc)
              | (go_at_call 11; refine hU3.mono ?_; rintro e w6 ⟨c6, d6, E6, C6, rfl, hE6, hC6, hEm6, hCm6, hb6⟩; have hB6 : Below wr.heap.size wr w6 := hBc.trans (hb6.mono hBc.size); have s0 := keepr _ hB6 t0; have s1 := keepr _ hB6 t1; have s2 := keepr _ hB6 t2; have s3 := keepr _ hB6 t3))
            obtain ⟨da, dc, hd6⟩ := hC6.1.shape
            have hlC : C6.length = (tlS kind g ov).length := by rw [← hCm6]; simp
            have hT1 := there_bdS c6 E6 kind q ov w6 hE6 hEm6 (.slice (some ⟨w.heap.size + 1, 0, none⟩) 1 1) (Sls.grow (Sls.grow hXv hB.out) hB6)
            have hth2 : ∀ W, Below w6.heap.size w6 W → Calls Tryz.prog 28 #[c6, .slice (some ⟨w.heap.size + 1 + 1, 0, none⟩) 1 1] W fun e w' => e = .returned (.bool true) ∧ Below W.heap.size W w' := fun W hW => there_bdY c6 E6 kind q ov W (hE6.grow hW) hEm6 _ (Sls.grow (Sls.grow (Sls.grow hYv hB.out) hB6) hW)
            have hw2 : IntKind.i64.wrap (2 * iv) = 2 * iv := Go.IntWalk.i64_in _ (by omega)
            replace hB6 : Hid (Below wr.heap.size wr w6) := hB6
            replace hEm6 : Hid (E6.map enF = bdS kind q ov) := hEm6
            clear hU1 hn hBc hU3 hBa hbn hb6 hA hEn hEm keepr y0 y1 y2 y3 v0 v1 v2 v3 s0 s1 s2 s3 t0 t1 t2 t3 hXv hYv hg2 hq
            cases ov with
            | false =>
              have ho : ¬ 2 * iv ≤ q := by simpa using hov
              have h0 : C6.length = 0 := by rw [hlC]; simp [tlS]
              rw [h0] at hd6
              subst hd6
              clear hlC h0 hov
              go_wp2_with (first
                | (go_at_call 28; refine hT2.mono ?_; rintro e w8 ⟨rfl, hb8⟩; have hB8 := hb7.trans (hb8.mono hb7.size))
                | (go_at_call 28; refine hT1.mono ?_; rintro e w7 ⟨rfl, hb7⟩; have hT2 := hth2 w7 hb7))
              refine ⟨⟨k + 1, q, false, E6, by omega, by go_num, rfl, rfl, hE6.grow hB8, hEm6.out, hq1.out, (fun h => by cases h), hB.out.trans ((hB6.out.trans (hB8.mono hB6.out.size)).mono hB.out.size)⟩, ?_⟩
              simp [intOf]; omega
            | true =>
              have ho : 2 * iv ≤ q := by simpa using hov
              have hoG : Hid (2 * iv ≤ q) := ho
              cases g with
              | true =>
                have h0 : C6.length = 0 := by rw [hlC]; simp [tlS]
                rw [h0] at hd6
                subst hd6
                clear hlC h0 hov
                go_wp2_with (first
                  | (go_at_call 28; refine hT2.mono ?_; rintro e w8 ⟨rfl, hb8⟩; have hB8 := hb7.trans (hb8.mono hb7.size))
                  | (go_at_call 28; refine hT1.mono ?_; rintro e w7 ⟨rfl, hb7⟩; have hT2 := hth2 w7 hb7))
                refine ⟨⟨k + 1, q, true, E6, by omega, by go_num, rfl, rfl, hE6.grow hB8, hEm6.out, hq1.out, (fun _ => hoG.out), hB.out.trans ((hB6.out.trans (hB8.mono hB6.out.size)).mono hB.out.size)⟩, ?_⟩
                simp [intOf]; omega
              | false =>
                rcases hkk with rfl | rfl
                · have h0 : C6.length = 0 := by rw [hlC]; simp [tlS]
                  rw [h0] at hd6
                  subst hd6
                  clear hlC h0 hov
                  go_wp2_with (first
                    | (go_at_call 28; refine hT2.mono ?_; rintro e w8 ⟨rfl, hb8⟩; have hB8 := hb7.trans (hb8.mono hb7.size))
                    | (go_at_call 28; refine hT1.mono ?_; rintro e w7 ⟨rfl, hb7⟩; have hT2 := hth2 w7 hb7))
                  refine ⟨⟨k + 1, q, true, E6, by omega, by go_num, rfl, rfl, hE6.grow hB8, hEm6.out, hq1.out, (fun _ => hoG.out), hB.out.trans ((hB6.out.trans (hB8.mono hB6.out.size)).mono hB.out.size)⟩, ?_⟩
                  simp [intOf]; omega
                · have h0 : C6.length = 1 := by rw [hlC]; simp [tlS]
                  rw [h0] at hd6
                  subst hd6
                  have hc0 : (C6.getD 0 cn0).c = ⟨hX, 3, 1, 2, 0⟩ := cn_of (by rw [hCm6]; simp [tlS]) _ (getD_mem C6 cn0 0 (by omega))
                  obtain ⟨db, d0, hda, hat⟩ := cn_at hC6.1 0 (by omega)
                  obtain ⟨z0, z1, z2, z3, z4⟩ := at_cn hat
                  subst hda
                  rw [hc0] at z1 z2
                  simp only [Nat.zero_mul, Nat.add_zero] at z1 z2
                  have keep6 : ∀ X {b o : Nat} {u : Value}, Below w6.heap.size w6 X → w6.cell? ⟨b, o, none⟩ = some u → X.cell? ⟨b, o, none⟩ = some u := fun X b o u hX h => (hX.cell (p := ⟨b, o, none⟩) (World.block_lt_of_cell? w6 _ h)).trans h
                  clear hlC h0 hov hc0 hat z0 z3 z4
                  go_wp2_with (first
                    | (go_at_call 28; refine hT2.mono ?_; rintro e w8 ⟨rfl, hb8⟩; have hB8 := hb7.trans (hb8.mono hb7.size); have Z1 := keep6 _ hB8 z1; have Z2 := keep6 _ hB8 z2)
                    | (go_at_call 28; refine hT1.mono ?_; rintro e w7 ⟨rfl, hb7⟩; have hT2 := hth2 w7 hb7))
                  refine ⟨⟨k + 1, q, true, E6, by omega, by go_num, rfl, rfl, hE6.grow hB8, hEm6.out, hq1.out, (fun _ => hoG.out), hB.out.trans ((hB6.out.trans (hB8.mono hB6.out.size)).mono hB.out.size)⟩, ?_⟩
                  simp [intOf]; omega
      · obtain rfl : k = gaps.length := by omega
        have hki : ¬ (gaps.length : Int) < (gaps.length : Int) := by omega
        go_wp2_with (go_at_call 10; refine (hL.out _).mono ?_; rintro e w1 ⟨rfl, hb1⟩)
        go_ret
        have hBw : Below w.heap.size w wr := hb0.out.trans (hB.out.mono hb0.out.size)
        exact ⟨rfl, hBw.trans (hb1.mono hBw.size)⟩
  · by_cases c1 : iv < 1
    · go_enter Tryz.func8, Tryz.ntmps8
      go_wp2_with (go_at_call 10; refine (hL _).mono ?_; rintro e w1 ⟨rfl, hb1⟩)
      go_ret
      exact ⟨rfl, hb1⟩
    · by_cases c2 : (1000 : Int) < iv
      · go_enter Tryz.func8, Tryz.ntmps8
        go_wp2_with (go_at_call 10; refine (hL _).mono ?_; rintro e w1 ⟨rfl, hb1⟩)
        go_ret
        exact ⟨rfl, hb1⟩
      · by_cases c3 : (30 : Int) < (gaps.length : Int)
        · go_enter Tryz.func8, Tryz.ntmps8
          go_wp2_with (go_at_call 10; refine (hL _).mono ?_; rintro e w1 ⟨rfl, hb1⟩)
          go_ret
          exact ⟨rfl, hb1⟩
        · by_cases c4 : kind < 1
          · go_enter Tryz.func8, Tryz.ntmps8
            go_wp2_with (go_at_call 10; refine (hL _).mono ?_; rintro e w1 ⟨rfl, hb1⟩)
            go_ret
            exact ⟨rfl, hb1⟩
          · have c5 : (2 : Int) < kind := by omega
            go_enter Tryz.func8, Tryz.ntmps8
            go_wp2_with (go_at_call 10; refine (hL _).mono ?_; rintro e w1 ⟨rfl, hb1⟩)
            go_ret
            exact ⟨rfl, hb1⟩
end Go.Proofs.YtiajafljgfpdcaaGreat
