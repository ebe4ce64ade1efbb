/- live. -/
import Derived.Test.YtiajafljgfpdcaaGreatBEqBSg
import Derived.Test.YtiajafljgfpdcaaGreatBUq
namespace Go.Proofs.YtiajafljgfpdcaaGreat
set_option linter.unusedVariables false
open Go.RowKit
def hX : List Lb := [⟨⟨#[104]⟩, ⟨#[49]⟩⟩]
theorem hX_set : IsSet hX := by
  refine ⟨?_, ?_, by decide⟩
  · intro a ha
    have : a = ⟨⟨#[104]⟩, ⟨#[49]⟩⟩ := by simpa [hX] using ha
    subst this
    refine ⟨⟨by decide, ?_⟩, by decide⟩
    intro k hk
    have : k = 0 := by simp [numsS] at hk; omega
    subst this
    rfl
  · exact List.pairwise_singleton _ _
def hH : S.Hd := ⟨0, 0, 1, 1⟩
def xA : S.Inst := ⟨3, 0, 0, -1, 0, 1, 1⟩
theorem step_xA : S.stepI (S.newI 0) hH 2 1 1 0 = xA := by decide
theorem heard1 (sv : Sv) : heardF hH [] 0 [⟨sv, ⟨hX, 2, 1, 1⟩⟩] [] = [⟨hX, xA, 1, true⟩] := by
  have hm : mkF (withL hX []) = (hX, 0) := by rw [withL_nil]; exact mkF_of hX_set.make
  unfold heardF heardL
  simp [allB, hearL, hm, getG, putG, stpA, newA, step_xA]
theorem heard2 (now : Int) (e : En) (he : enF e = (hX, xA)) : heardF hH [] now [] [e] = [⟨hX, xA, 3, false⟩] := by
  unfold heardF heardL
  simp [allB, he, beginA, xA]
theorem left1 : leftL 5 0 [⟨hX, xA, 1, true⟩] = [(hX, xA)] := by simp [leftL, overB]
theorem told1 : toldL 5 0 [⟨hX, xA, 1, true⟩] = [⟨hX, 1, 3, 1, 1⟩] := by simp [toldL, tellA, overB, xA]
theorem left2 : leftL 5 9 [⟨hX, xA, 3, false⟩] = [(hX, xA)] := by simp [leftL, overB, xA]
theorem told2 : toldL 5 9 [⟨hX, xA, 3, false⟩] = [] := by simp [toldL, tellA, overB, xA]
theorem left3 : leftL 5 10 [⟨hX, xA, 3, false⟩] = [] := by simp [leftL, overB, xA]
theorem told3 : toldL 5 10 [⟨hX, xA, 3, false⟩] = [⟨hX, 3, 1, 2, 0⟩] := by simp [toldL, tellA, overB, xA]
theorem bd_hX : BdV [(hX, xA)] := by
  have h1 : IsBd [(hX, xA)] := ⟨List.pairwise_singleton _ _, fun e he => by
    have : e = (hX, xA) := by simpa using he
    subst this
    unfold mbB
    rw [setB_iff.2 hX_set]
    decide⟩
  refine ⟨by unfold chkF; rw [if_neg (by simp), if_pos h1], fun e he => ?_⟩
  have : e = (hX, xA) := by simpa using he
  subst this
  unfold In64
  decide
/-- What an Update tells. -/
def UpA (w : World) (B : List (List Lb × S.Inst)) (G : List Cg) (e : Ending) (w' : World) : Prop := ∃ y z E C, e = .returned (.tuple #[y, z]) ∧ Ens w' y E ∧ Cns w' z C ∧ E.map enF = B ∧ C.map (·.c) = G ∧ Below w.heap.size w w'
theorem riseE0 : RiseE [] := ⟨RiseG.nil, by simp⟩
theorem riseE1 {e : En} (h : IsSet e.ls) : RiseE [e] := ⟨List.pairwise_singleton _ _, fun x hx => by
  have : x = e := by simpa using hx
  rw [this]; exact h⟩
theorem lbsR_hX : LbsR hX := hX_set.short.reach
theorem fine_xA (now : Int) (h : 0 ≤ now ∧ now ≤ 10) : Fine now xA := by unfold Fine; simp [xA]
theorem up1 (v : Value) (w : World) (hv : Lbs w v hX) (sv : Sv) (hs : v = sv.v) : Calls Tryz.prog 11 #[.slice none 0 0, .agg #[.int .i64 0, .int .i64 0, .int .i64 1, .int .i64 1], .slice none 0 0, .int .i64 5, .int .i64 0, .slice (some ⟨w.heap.size, 0, none⟩) 1 1] (w.alloc (.cells #[v, .int .i64 2, .int .i64 1, .int .i64 1] 59)) fun e w' => UpA w [(hX, xA)] [⟨hX, 1, 3, 1, 1⟩] e w' := by
  subst hs
  have h := update_any (.slice none 0 0) (.slice none 0 0) (.slice (some ⟨w.heap.size, 0, none⟩) 1 1) [] [] [⟨sv, ⟨hX, 2, 1, 1⟩⟩] hH 5 0 (w.alloc (.cells #[sv.v, .int .i64 2, .int .i64 1, .int .i64 1] 59))
    { ens := ⟨sls_nil _, by simp⟩, rise := riseE0, len := by simp, ownv := sls_nil _, ownl := by simp, ownr := (fun a ha => by cases ha),
      rns := ⟨sls_one w _ _ _ rfl, fun e he => by
        have : e = ⟨sv, ⟨hX, 2, 1, 1⟩⟩ := by simpa using he
        subst this; exact Sls.alloc hv _⟩,
      rlen := by simp,
      rl := fun r hr => by
        have : r = ⟨sv, ⟨hX, 2, 1, 1⟩⟩ := by simpa using hr
        subst this; show hX.length ≤ 10000; decide,
      rr := fun r hr => by
        have : r = ⟨sv, ⟨hX, 2, 1, 1⟩⟩ := by simpa using hr
        subst this; exact lbsR_hX,
      fine := by simp, seen := by simp, iv := by decide }
  rw [heard1, left1, told1] at h
  refine h.mono ?_
  rintro e w' ⟨y, z, E, C, he, h1, h2, h3, h4, h5⟩
  exact ⟨y, z, E, C, he, h1, h2, h3, h4, ((Below.refl _ w).alloc (Nat.le_refl _) _).trans (h5.mono (by simp))⟩
theorem up2 (v : Value) (E : List En) (w : World) (hv : Ens w v E) (hE : E.map enF = [(hX, xA)]) (now : Int) (hn : 0 ≤ now ∧ now ≤ 10) (B : List (List Lb × S.Inst)) (G : List Cg) (hB : leftL 5 now [⟨hX, xA, 3, false⟩] = B) (hG : toldL 5 now [⟨hX, xA, 3, false⟩] = G) : Calls Tryz.prog 11 #[v, .agg #[.int .i64 0, .int .i64 0, .int .i64 1, .int .i64 1], .slice none 0 0, .int .i64 5, .int .i64 now, .slice none 0 0] w fun e w' => UpA w B G e w' := by
  obtain ⟨e0, rfl, he0⟩ : ∃ e0, E = [e0] ∧ enF e0 = (hX, xA) := by
    cases E with
    | nil => cases hE
    | cons e0 E =>
      cases E with
      | nil => exact ⟨e0, rfl, by simpa using hE⟩
      | cons e1 E => simp at hE
  have hx : e0.x = xA := congrArg Prod.snd he0
  have h := update_any v (.slice none 0 0) (.slice none 0 0) [e0] [] [] hH 5 now w
    { ens := hv, rise := riseE1 (by rw [show e0.ls = hX from congrArg Prod.fst he0]; exact hX_set), len := by simp, ownv := sls_nil _, ownl := by simp, ownr := (fun a ha => by cases ha),
      rns := ⟨sls_nil _, by simp⟩, rlen := by simp, rl := by simp, rr := by simp,
      fine := fun e he => by
        have : e = e0 := by simpa using he
        subst this; rw [hx]; exact fine_xA now hn,
      seen := fun e he => by
        have : e = e0 := by simpa using he
        subst this; rw [hx]; simp only [xA]; omega,
      iv := by decide }
  rw [heard2 now e0 he0, hB, hG] at h
  exact h
theorem bdY_len {L : List (List Lb × S.Inst)} (h : BdV L) : (bdY L).length ≤ 470000 := by
  obtain ⟨h1, h2⟩ := chk_zero h.1
  have h3 := catE_len h1 h.2 L.length (Nat.le_refl _)
  rw [List.take_length] at h3
  have h4 := Q.enc_len10 L.length (by omega)
  unfold bdY
  rw [List.length_append]
  have : L.length * 4600 ≤ 100 * 4600 := Nat.mul_le_mul_right _ h2
  omega
theorem en_of {E : List En} (h : E.map enF = [(hX, xA)]) : ∀ e ∈ E, e.ls = hX ∧ e.x = xA := fun e he => by
  have : enF e ∈ E.map enF := List.mem_map_of_mem he
  rw [h] at this
  have : enF e = (hX, xA) := List.mem_singleton.1 this
  exact ⟨congrArg Prod.fst this, congrArg Prod.snd this⟩
theorem enR_hX {E : List En} (h : E.map enF = [(hX, xA)]) : ∀ e ∈ E, LbsR e.ls ∧ e.ls.length ≤ 100000 := fun e he => by
  rw [(en_of h e he).1]; exact ⟨lbsR_hX, by decide⟩
theorem en6_hX {E : List En} (h : E.map enF = [(hX, xA)]) : ∀ e ∈ E, In64 e.x := fun e he => by
  rw [(en_of h e he).2]; unfold In64; decide
theorem same_hX (u v : Value) (l m : List En) (w : World) (hu : Ens w u l) (hv : Ens w v m) (h1 : l.map enF = [(hX, xA)]) (h2 : m.map enF = [(hX, xA)]) : Calls Tryz.prog 14 #[u, v] w fun e w' => e = .returned (.bool true) ∧ Below w.heap.size w w' := by
  have hl : l.length = 1 := by simpa using congrArg List.length h1
  have hm : m.length = 1 := by simpa using congrArg List.length h2
  refine (same14 u v l m w hu hv (by omega) (by omega) (fun e he => (enR_hX h1 e he).2) (fun e he => (enR_hX h2 e he).2)).mono ?_
  rintro e w' ⟨b, rfl, hb, hB⟩
  rw [hb.2 (h1.trans h2.symm)]
  exact ⟨rfl, hB⟩
theorem cn_of {C : List Cn} {g : Cg} (h : C.map (·.c) = [g]) : ∀ e ∈ C, e.c = g := fun e he => by
  have : e.c ∈ C.map (·.c) := List.mem_map_of_mem he
  rw [h] at this
  exact List.mem_singleton.1 this
theorem chg_hX (u : Value) (C : List Cn) (xv : Sv) (fr to vk vn : Int) (w : World) (hu : Cns w u C) (h1 : C.map (·.c) = [⟨hX, fr, to, vk, vn⟩]) (hx : Lbs w xv.v hX) : Calls Tryz.prog 15 #[u, .slice (some ⟨w.heap.size, 0, none⟩) 1 1] (w.alloc (.cells #[xv.v, .int .i64 fr, .int .i64 to, .int .i64 vk, .int .i64 vn] 62)) fun e w' => e = .returned (.bool true) ∧ Below w.heap.size w w' := by
  have hl : C.length = 1 := by simpa using congrArg List.length h1
  have hr : Cns (w.alloc (.cells #[xv.v, .int .i64 fr, .int .i64 to, .int .i64 vk, .int .i64 vn] 62)) (.slice (some ⟨w.heap.size, 0, none⟩) 1 1) [⟨xv, ⟨hX, fr, to, vk, vn⟩⟩] := ⟨sls_one w _ _ _ rfl, fun e he => by
    have : e = ⟨xv, ⟨hX, fr, to, vk, vn⟩⟩ := by simpa using he
    subst this; exact Sls.alloc hx _⟩
  have hb := (Below.refl w.heap.size w).alloc (Nat.le_refl _) (.cells #[xv.v, .int .i64 fr, .int .i64 to, .int .i64 vk, .int .i64 vn] 62)
  refine (same15 u _ C _ _ (hu.grow hb) hr (by omega) (by simp) (fun e he => by rw [cn_of h1 e he]; exact (by decide : hX.length ≤ 100000)) (fun e he => by
    have : e = ⟨xv, ⟨hX, fr, to, vk, vn⟩⟩ := by simpa using he
    subst this; exact (by decide : hX.length ≤ 100000))).mono ?_
  rintro e w' ⟨b, rfl, hb2, hB⟩
  rw [hb2.2 h1]
  exact ⟨rfl, hb.trans (hB.mono (by simp))⟩
set_option maxRecDepth 100000 in
set_option maxHeartbeats 4000000 in
theorem live10 (w : World) : Calls Tryz.prog 10 #[] w fun e w' => e = .returned (.bool true) ∧ Below w.heap.size w w' := by
  go_enter Tryz.func10, Tryz.ntmps10
  go_upto_region 3 with fail
  obtain ⟨W2, hW2⟩ : ∃ W2, W2 = (w.alloc (.cells #[.int .i64 0, .int .i64 0, .int .i64 1, .int .i64 1] 23)).alloc (.cells #[.string ⟨#[104]⟩, .string ⟨#[49]⟩] 70) := ⟨_, rfl⟩
  rw [← hW2]
  have hb0 : Below w.heap.size w W2 := by rw [hW2]; exact ((Below.refl _ w).alloc (Nat.le_refl _) _).alloc (by simp) _
  have hk2 : W2.heap[w.heap.size]? = some (.cells #[.int .i64 0, .int .i64 0, .int .i64 1, .int .i64 1] 23 (0, 0)) := by rw [hW2]; exact (((Below.refl _ (w.alloc (.cells #[.int .i64 0, .int .i64 0, .int .i64 1, .int .i64 1] 23))).alloc (Nat.le_refl _) _).block w.heap.size (by simp)).trans (heap_new _ _)
  have x0 : W2.cell? ⟨w.heap.size, 0, none⟩ = some (.int .i64 0) := by unfold World.cell?; rw [hk2]; rfl
  have x1 : W2.cell? ⟨w.heap.size, 1, none⟩ = some (.int .i64 0) := by unfold World.cell?; rw [hk2]; rfl
  have x2 : W2.cell? ⟨w.heap.size, 2, none⟩ = some (.int .i64 1) := by unfold World.cell?; rw [hk2]; rfl
  have x3 : W2.cell? ⟨w.heap.size, 3, none⟩ = some (.int .i64 1) := by unfold World.cell?; rw [hk2]; rfl
  have hXv : Lbs W2 (.slice (some ⟨w.heap.size + 1, 0, none⟩) 1 1) hX := by
    rw [hW2]
    have := sls_one (E := encL) (w.alloc (.cells #[.int .i64 0, .int .i64 0, .int .i64 1, .int .i64 1] 23)) ⟨⟨#[104]⟩, ⟨#[49]⟩⟩ #[.string ⟨#[104]⟩, .string ⟨#[49]⟩] 70 rfl
    have e : (w.alloc (.cells #[.int .i64 0, .int .i64 0, .int .i64 1, .int .i64 1] 23)).heap.size = w.heap.size + 1 := by simp
    rw [e] at this
    exact this
  have keep : ∀ X {b o : Nat} {u : Value}, Below W2.heap.size W2 X → W2.cell? ⟨b, o, none⟩ = some u → X.cell? ⟨b, o, none⟩ = some u := fun X b o u hX h => (hX.cell (p := ⟨b, o, none⟩) (World.block_lt_of_cell? W2 _ h)).trans h
  have hU1 : ∀ W, Below W2.heap.size W2 W → _ := fun W hW => up1 (.slice (some ⟨w.heap.size + 1, 0, none⟩) 1 1) W (Sls.grow hXv hW) ⟨_, _, _⟩ rfl
  have hn1 : ∀ W, Calls Tryz.prog 29 #[.int .i64 1] W fun e w' => e = .returned (.agg #[.int .i64 1, .int .i64 1]) ∧ Below W.heap.size W w' := fun W => S.rnum20 1 W (by decide) (by decide)
  clear hW2 hk2
  go_region_held3 (fun X => X.cell? ⟨w.heap.size, 0, none⟩ = some (.int .i64 0) ∧ X.cell? ⟨w.heap.size, 1, none⟩ = some (.int .i64 0) ∧ X.cell? ⟨w.heap.size, 2, none⟩ = some (.int .i64 1) ∧ X.cell? ⟨w.heap.size, 3, none⟩ = some (.int .i64 1)) (go_keep) (first
    | (go_at_call 29; refine (hn1 _).mono ?_; rintro e w3 ⟨rfl, hb3⟩; have hB3 : Below W2.heap.size W2 w3 := ((Below.refl _ W2).drew).trans (hb3.mono (Nat.le_refl _)); have y0 := keep _ hB3 x0; have y1 := keep _ hB3 x1; have y2 := keep _ hB3 x2; have y3 := keep _ hB3 x3; have hB3a := hB3.alloc hB3.size (.cells #[.slice (some ⟨w.heap.size + 1, 0, none⟩) 1 1, .int .i64 2, .int .i64 1, .int .i64 1] 59); have v0 := keep _ hB3a x0; have v1 := keep _ hB3a x1; have v2 := keep _ hB3a x2; have v3 := keep _ hB3a x3; have hU3 := hU1 w3 hB3)
    | (go_at_call 11; refine hU3.mono ?_; rintro e w4 ⟨y, z, E, C, rfl, hE, hC, hEm, hCm, hb4⟩; have hB4 : Below W2.heap.size W2 w4 := hB3.trans (hb4.mono hB3.size); have t0 := keep _ hB4 x0; have t1 := keep _ hB4 x1; have t2 := keep _ hB4 x2; have t3 := keep _ hB4 x3))
  have hlen1 : E.length = 1 := by simpa using congrArg List.length hEm
  have hlenC : C.length = 1 := by simpa using congrArg List.length hCm
  obtain ⟨ya, yc, hy⟩ := hE.1.shape
  rw [hlen1] at hy
  subst hy
  obtain ⟨za, zc, hz⟩ := hC.1.shape
  rw [hlenC] at hz
  subst hz
  have hU2 := up2 _ E w4 hE hEm 9 (by omega) _ _ left2 told2
  clear hU1 hn1 hU3 v0 v1 v2 v3 y0 y1 y2 y3
  replace hlen1 : Hid _ := hlen1
  replace hlenC : Hid _ := hlenC
  replace hEm : Hid (E.map enF = [(hX, xA)]) := hEm
  replace hCm : Hid _ := hCm
  have hby : Q.IsBytes (bdY [(hX, xA)]) := isBytes_bdY _
  have hbl : (bdY [(hX, xA)]).length ≤ 1000000000 := by have := bdY_len bd_hX; omega
  have hch : chkF [(hX, xA)] = 0 := bd_hX.1
  generalize hBY : bdY [(hX, xA)] = BY at *
  go_upto_region 8 with (first
    | (go_at_call 11; refine hU4.mono ?_; rintro e w6 ⟨y6, z6, E6, C6, rfl, hE6, hC6, hEm6, hCm6, hb6⟩; have hB6 : Below w4.heap.size w4 w6 := hb5.trans (hb6.mono hb5.size); have hk6 : E6.length = 0 := (by simpa using congrArg List.length hEm6); obtain ⟨y6a, y6c, hy6⟩ := hE6.1.shape; rw [hk6] at hy6; subst hy6; replace hk6 : Hid _ := hk6; replace hEm6 : Hid _ := hEm6; replace hCm6 : Hid (C6.map (·.c) = [⟨hX, 3, 1, 2, 0⟩]) := hCm6; have hP := put21 (.slice ya 1 yc) E w6 (hE.grow hB6) (by have := hlen1.out; omega) (enR_hX hEm.out) (en6_hX hEm.out); rw [hEm.out, if_pos hch, hch, hBY] at hP)
    | (go_at_call 11; refine hU2.mono ?_; rintro e w5 ⟨y5, z5, E5, C5, rfl, hE5, hC5, hEm5, hCm5, hb5⟩; have hB5 : Below W2.heap.size W2 w5 := hB4.trans (hb5.mono hB4.size); have r0 := keep _ hB5 x0; have r1 := keep _ hB5 x1; have r2 := keep _ hB5 x2; have r3 := keep _ hB5 x3; have hU4 := up2 y5 E5 w5 hE5 hEm5 10 (by omega) _ _ left3 told3; have hk5 : C5.length = 0 := (by simpa using congrArg List.length hCm5); obtain ⟨z5a, z5c, hz5⟩ := hC5.1.shape; rw [hk5] at hz5; subst hz5; replace hk5 : Hid _ := hk5; replace hEm5 : Hid (E5.map enF = [(hX, xA)]) := hEm5; replace hCm5 : Hid _ := hCm5)
    | (go_at_call 21; refine hP.mono ?_; rintro e w7 ⟨u7, rfl, ho7, hb7⟩; have hG := get23 BY u7 w7 ho7.bts hby hbl)
    | (go_at_call 23; refine hG.mono ?_; rintro e w8 ⟨hb8, hq8⟩; obtain ⟨F, v8, -, -, hq, rfl, hF1, hF2⟩ := hq8.resolve_right (fun h => h.1 _ bd_hX hBY); have hFm : Hid (F.map enF = [(hX, xA)]) := hq _ bd_hX hBY))
  obtain ⟨y5a, y5c, hy5⟩ := hE5.1.shape
  obtain ⟨z6a, z6c, hz6⟩ := hC6.1.shape
  obtain ⟨v8a, v8c, hv8⟩ := hF1.shape
  have hF0 : Ens w8 v8 F := ⟨hF1.sls, fun e he => (hF2 e he).sls⟩
  have hB48 : Below w4.heap.size w4 w8 := (hB6.trans (hb7.mono hB6.size)).trans (hb8.mono (hB6.trans (hb7.mono hB6.size)).size)
  have hB28 : Below W2.heap.size W2 w8 := hB4.trans (hB48.mono hB4.size)
  have hE8 : Ens w8 (.slice ya 1 yc) E := hE.grow hB48
  have hC8 : Cns w8 (.slice za 1 zc) C := hC.grow hB48
  have hB58 : Below w5.heap.size w5 w8 := (hb6.trans (hb7.mono hb6.size)).trans (hb8.mono (hb6.trans (hb7.mono hb6.size)).size)
  have hB68 : Below w6.heap.size w6 w8 := hb7.trans (hb8.mono hb7.size)
  have hE58 : Ens w8 y5 E5 := hE5.grow hB58
  have hC68 : Cns w8 z6 C6 := hC6.grow hB68
  have hX8 : Lbs w8 (.slice (some ⟨w.heap.size + 1, 0, none⟩) 1 1) hX := Sls.grow hXv hB28
  have hw8 : Hid (Below w.heap.size w w8) := hb0.trans (hB28.mono hb0.size)
  have hS1 : ∀ W, Below w8.heap.size w8 W → Calls Tryz.prog 15 #[.slice za 1 zc, .slice (some ⟨W.heap.size, 0, none⟩) 1 1] (W.alloc (.cells #[.slice (some ⟨w.heap.size + 1, 0, none⟩) 1 1, .int .i64 1, .int .i64 3, .int .i64 1, .int .i64 1] 62)) fun e w' => e = .returned (.bool true) ∧ Below W.heap.size W w' := fun W hW => chg_hX _ C ⟨_, _, _⟩ 1 3 1 1 W (hC8.grow hW) hCm.out (Sls.grow hX8 hW)
  have hS2 : ∀ W, Below w8.heap.size w8 W → Calls Tryz.prog 15 #[z6, .slice (some ⟨W.heap.size, 0, none⟩) 1 1] (W.alloc (.cells #[.slice (some ⟨w.heap.size + 1, 0, none⟩) 1 1, .int .i64 3, .int .i64 1, .int .i64 2, .int .i64 0] 62)) fun e w' => e = .returned (.bool true) ∧ Below W.heap.size W w' := fun W hW => chg_hX _ C6 ⟨_, _, _⟩ 3 1 2 0 W (hC68.grow hW) hCm6.out (Sls.grow hX8 hW)
  have hS3 : ∀ W, Below w8.heap.size w8 W → Calls Tryz.prog 14 #[y5, .slice ya 1 yc] W fun e w' => e = .returned (.bool true) ∧ Below W.heap.size W w' := fun W hW => same_hX _ _ E5 E W (hE58.grow hW) (hE8.grow hW) hEm5.out hEm.out
  have hS4 : ∀ W, Below w8.heap.size w8 W → Calls Tryz.prog 14 #[v8, .slice ya 1 yc] W fun e w' => e = .returned (.bool true) ∧ Below W.heap.size W w' := fun W hW => same_hX _ _ F E W (hF0.grow hW) (hE8.grow hW) hFm.out hEm.out
  have hn1 : ∀ W, Calls Tryz.prog 29 #[.int .i64 1] W fun e w' => e = .returned (.agg #[.int .i64 1, .int .i64 1]) ∧ Below W.heap.size W w' := fun W => S.rnum20 1 W (by decide) (by decide)
  have hn2 : ∀ W, Calls Tryz.prog 32 #[] W fun e w' => e = .returned (.agg #[.int .i64 2, .int .i64 0]) ∧ Below W.heap.size W w' := fun W => S.rnull19 W
  have hn3 : ∀ W, Calls Tryz.prog 16 #[.int .i64 0] W fun e w' => e = .returned (.int .i64 0) ∧ w' = W := fun W => num_any 0 W (by decide) (by decide)
  clear hF0 hB48 hB28 hE8 hC8 hB58 hB68 hE58 hC68 hX8 hFm hF1 hF2 hq hG hP hB4 hB5 hB6 hb4 hb5 hb6 hb7 hb8 hE hC hE5 hC5 hE6 hC6 hXv ho7 hB3 hB3a hb0 hb3 keep x0 x1 x2 x3 t0 t1 t2 t3 r0 r1 r2 r3 hEm hCm hEm5 hCm5 hEm6 hCm6 hU2 hU4 hby hbl hch hBY hlen1 hlenC hk5 hk6
  subst hy5 hz6 hv8
  have hB : Below w8.heap.size w8 w8 := Below.refl _ w8
  go_wp2_with (first
    | (go_at_call 29; refine (hn1 _).mono ?_; rintro e w9 ⟨rfl, hb9⟩; have hB9 := hB.trans (hb9.mono hB.size); have hT1 := hS1 w9 hB9)
    | (go_at_call 15; refine hT2.mono ?_; rintro e w13 ⟨rfl, hb13⟩; have hB13 := hB12.trans (hb13.mono hB12.size); have hT4 := hS4 w13 hB13)
    | (go_at_call 15; refine hT1.mono ?_; rintro e w10 ⟨rfl, hb10⟩; have hB10 := hB9.trans (hb10.mono hB9.size); have hT3 := hS3 w10 hB10)
    | (go_at_call 14; refine hT4.mono ?_; rintro e w14 ⟨rfl, hb14⟩; have hB14 := hB13.trans (hb14.mono hB13.size))
    | (go_at_call 14; refine hT3.mono ?_; rintro e w11 ⟨rfl, hb11⟩; have hB11 := hB10.trans (hb11.mono hB10.size))
    | (go_at_call 32; refine (hn2 _).mono ?_; rintro e w12 ⟨rfl, hb12⟩; have hB12 := hB11.trans (hb12.mono hB11.size); have hT2 := hS2 w12 hB12)
    | (go_at_call 16; refine (hn3 _).mono ?_; rintro e wx ⟨rfl, hwx⟩; subst wx))
  go_ret
  exact ⟨rfl, hw8.out.trans (hB14.mono hw8.out.size)⟩
end Go.Proofs.YtiajafljgfpdcaaGreat
