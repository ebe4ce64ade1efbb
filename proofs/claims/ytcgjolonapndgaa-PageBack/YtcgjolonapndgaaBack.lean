/-
  Proved here: 'klaxonlaw03.PageBack' (P3.7), called with any int and any two pages, in any memory, returns true, and its arguments read afterwards as they read before: what was laid is read, unlike pages are unlike bytes. No condition beyond the row's own.
-/
import Derived.Test.YtcgjolonapndgaaRows
import Derived.WalkKit
import Derived.ProofKit
import Derived.OpenShut
import Derived.ShutString
import Derived.ChangeOld
import Derived.Below
import Derived.Test.YtcgjolonapndgaaTake
namespace Go.Proofs.Ytcgjolonapndgaa.pageBack
open Go.ChangeShapes Go.WideShapes Go.ChangeAt Go.RowKit
open Go.ChangeMaps (open_string shut_string)
set_option linter.unusedVariables false

theorem own : ownKnob Try.prog.godebug = none := by kernel_rfl
theorem laidOut : laidOutB Try.prog = true := by kernel_rfl

/-! ### The walk -/
theorem bts_take {w : World} {g : Nat} {bs : List Int} (h : Row w g bs) (n c : Nat) (hn : n ≤ bs.length) (hc : n ≤ c) : Bts w (.slice (some ⟨g, 0, none⟩) n c) (bs.take n) := by
  have hl : (bs.take n).length = n := by rw [List.length_take]; omega
  refine ⟨_, c, by rw [hl], ⟨(fun e => by cases e), by rw [hl]; omega⟩, .inr ⟨g, 0, rfl, fun t _ ht => ?_⟩⟩
  rw [hl] at ht
  rw [Nat.zero_add, h.cell t (by omega)]
  simp [ht]
theorem put_ex (size : Nat) (kind : Int) (id : Nat) (lv : Value) (load : List Int) (w : World) (h1 : 64 ≤ size) (h2 : size ≤ 8192) (hk : 0 < kind ∧ kind < 256) (hid : id < 2 ^ 32) (hb : Bts w lv load) (hby : IsBytes load) (hl : load.length + 11 ≤ size) :
    Calls Try.prog 10 #[.int .i64 size, .agg #[.int .u8 kind, .int .u32 id, lv]] w fun e w' => ∃ g, e = .returned (.tuple #[.slice (some ⟨g, 0, none⟩) size size, .int .i64 0]) ∧ Row w' g (pageB size kind id load) ∧ Below w.heap.size w w' ∧ w.heap.size ≤ g :=
  (put_ok size kind id lv load w h1 h2 hk hid hb hby hl).mono fun e w' h => ⟨w.heap.size + 1, h.1, h.2.1, h.2.2, by omega⟩
set_option maxRecDepth 100000 in
set_option maxHeartbeats 8000000 in
theorem main0 (size : Nat) (k1 k2 : Int) (i1 i2 : Nat) (a1 a2 : Option Addr) (len1 cap1 len2 cap2 : Nat) (A B : List Int) (w : World) (hk1 : 0 ≤ k1 ∧ k1 < 256) (hk2 : 0 ≤ k2 ∧ k2 < 256) (hi1 : i1 < 2 ^ 32) (hi2 : i2 < 2 ^ 32) (hb1 : Bts w (.slice a1 len1 cap1) A) (hb2 : Bts w (.slice a2 len2 cap2) B) (hA : IsBytes A) (hB : IsBytes B) (hlA : len1 = A.length) (hlB : len2 = B.length) (hl1 : len1 ≤ 20000) (hl2 : len2 ≤ 20000) (hE1 : putE size k1 len1 = 0) (hE2 : putE size k2 len2 = 0) :
    Calls Try.prog 5 #[.int .i64 size, .agg #[.int .u8 k1, .int .u32 i1, .slice a1 len1 cap1], .agg #[.int .u8 k2, .int .u32 i2, .slice a2 len2 cap2]] w fun e w' => e = .returned (.bool true) ∧ Below w.heap.size w w' := by
  have g1 : decide ((20000 : Int) < (len1 : Int)) = false := by simp; omega
  have g2 : decide ((20000 : Int) < (len2 : Int)) = false := by simp; omega
  have hx0 : PageAt ((w.alloc (.cells #[.int .u8 k1, .int .u32 i1, .slice a1 len1 cap1] 25)).alloc (.cells #[.int .u8 k2, .int .u32 i2, .slice a2 len2 cap2] 25)) w.heap.size k1 i1 (.slice a1 len1 cap1) := heap2f w _ _
  have hy0 : PageAt ((w.alloc (.cells #[.int .u8 k1, .int .u32 i1, .slice a1 len1 cap1] 25)).alloc (.cells #[.int .u8 k2, .int .u32 i2, .slice a2 len2 cap2] 25)) (w.heap.size + 1) k2 i2 (.slice a2 len2 cap2) := heap2 w _ _
  have hB0 : Below w.heap.size w ((w.alloc (.cells #[.int .u8 k1, .int .u32 i1, .slice a1 len1 cap1] 25)).alloc (.cells #[.int .u8 k2, .int .u32 i2, .slice a2 len2 cap2] 25)) := ((Below.refl _ w).alloc (Nat.le_refl _) _).alloc (by simp) _
  obtain ⟨s1, s2, s3, s4⟩ := putE_zero hE1
  have hputx := fun W hW => put_ex size k1 i1 (.slice a1 len1 cap1) A W (by omega) (by omega) ⟨by omega, hk1.2⟩ hi1 hW hA (by omega)
  obtain ⟨_, _, t3, t4⟩ := putE_zero hE2
  have hputy := fun W hW => put_ex size k2 i2 (.slice a2 len2 cap2) B W (by omega) (by omega) ⟨by omega, hk2.2⟩ hi2 hW hB (by omega)
  have hpl2 := pageB_len size k2 i2 B (by omega)
  have hPb2 := pageB_bytes size k2 i2 B hk2 hB
  have hinj := page_inj (size := size) (k1 := k1) (k2 := k2) (l1 := A) (l2 := B) hi1 hi2 (by omega) (by omega)
  have hstr := str_beq (pageB_bytes size k1 i1 A hk1 hA) hPb2
  have hdd : decide (k1 = k2 ∧ i1 = i2 ∧ A = B) = decide (pageB size k1 i1 A = pageB size k2 i2 B) := decide_eq_decide.2 hinj.symm
  have hpl := pageB_len size k1 i1 A (by omega)
  have hPb := pageB_bytes size k1 i1 A hk1 hA
  have hPg := isPage_page size k1 i1 A (by omega) (by omega) s3 hi1 (by omega)
  have hW0b1 := hb1.grow hB0
  have hW0b2 := hb2.grow hB0
  have hK := kindOf_page size k1 i1 A
  have hI := idOf_page size k1 i1 A hi1
  have hL := loadOf_page size k1 i1 A (by omega)
  have hAl : A.length = len1 := hlA.symm
  replace hpl : Hid _ := hpl
  replace hAl : Hid _ := hAl
  replace hK : Hid _ := hK
  replace hI : Hid _ := hI
  replace hL : Hid _ := hL
  generalize pageB size k2 i2 B = PB at *
  replace hstr : Hid _ := hstr
  replace hdd : Hid _ := hdd
  replace hpl2 : Hid _ := hpl2
  clear hinj
  generalize pageB size k1 i1 A = PA at *
  clear hlA hlB hE1
  go_enter Try.func5, Try.ntmps5
  go_wp2_with fail
  refine (hputx _ hW0b1).mono ?_
  rintro e w1 ⟨ga, rfl, hra1, hbe1, hga⟩
  have hx1 := hx0.keep (hbe1.block _ hx0.lt)
  have hy1 := hy0.keep (hbe1.block _ hy0.lt)
  have hB1 := hB0.trans (hbe1.mono hB0.size)
  obtain ⟨y10, y11, y12⟩ := hy1.cells
  replace hra1 : Hid _ := hra1
  go_wp2_with fail
  refine (hputy _ (hW0b2.grow hbe1)).mono ?_
  rintro e w2 ⟨gb, rfl, hrb2, hbe2, hgb⟩
  replace hrb2 : Hid _ := hrb2
  have hx2 := hx1.keep (hbe2.block _ hx1.lt)
  have hy2 := hy1.keep (hbe2.block _ hy1.lt)
  have hB2 := hB1.trans (hbe2.mono hB1.size)
  have hra2 : Row w2 ga PA := Row.keep hra1.out (hbe2.block _ (Row.lt hra1.out))
  have hbt2 := hra2.bts
  rw [hpl.out] at hbt2
  replace hra2 : Hid _ := hra2
  go_upto_region 7 with (first | (go_at_call 14; refine (num_any _ _ (by omega) (by omega)).mono ?_; rintro e w9 ⟨rfl, hw9⟩; subst w9))
  go_wp2_with fail
  refine (get_yes _ _ w2 hbt2 hPb hPg).mono ?_
  rintro e w3 ⟨lv, rfl, ⟨base, hbase, hol⟩, hbe3⟩
  rw [hK.out, hI.out]
  rw [hL.out] at hol
  obtain ⟨al, cl, hlv⟩ := hol.bts.split
  rw [hAl.out] at hlv
  subst hlv
  have hx4 := (hx2.keep (hbe3.block _ hx2.lt)).alloc (.cells #[.int .u8 k1, .int .u32 i1, .slice al len1 cl] 25)
  have hy4 := (hy2.keep (hbe3.block _ hy2.lt)).alloc (.cells #[.int .u8 k1, .int .u32 i1, .slice al len1 cl] 25)
  have hz4 : PageAt (w3.alloc (.cells #[.int .u8 k1, .int .u32 i1, .slice al len1 cl] 25)) w3.heap.size k1 i1 (.slice al len1 cl) := heap_alloc_new w3 _
  have hB3 := hB2.trans (hbe3.mono hB2.size)
  have hB4 := hB3.alloc hB3.size (.cells #[.int .u8 k1, .int .u32 i1, .slice al len1 cl] 25)
  have hra4 : Hid (Row (w3.alloc (.cells #[.int .u8 k1, .int .u32 i1, .slice al len1 cl] 25)) ga PA) := Row.allocd (Row.keep hra2.out (hbe3.block _ (Row.lt hra2.out))) _
  have hol4 := hol.bts.alloc (.cells #[.int .u8 k1, .int .u32 i1, .slice al len1 cl] 25)
  have hrb4 : Hid (Row (w3.alloc (.cells #[.int .u8 k1, .int .u32 i1, .slice al len1 cl] 25)) gb PB) := Row.allocd (Row.keep hrb2.out (hbe3.block _ (Row.lt hrb2.out))) _
  have hX1 := hb1.grow hB4
  have hX2 := hb2.grow hB4
  go_upto_region 8 with fail
  generalize w3.alloc (.cells #[.int .u8 k1, .int .u32 i1, .slice al len1 cl] 25) = W4 at *
  generalize w3.heap.size = zb at *
  have hAll : ∀ W, Below W4.heap.size W4 W → (fun W => Below W4.heap.size W4 W ∧ (W.cell? ⟨w.heap.size, 0, none⟩ = some (.int .u8 k1) ∧ W.cell? ⟨w.heap.size, 1, none⟩ = some (.int .u32 i1) ∧ W.cell? ⟨w.heap.size, 2, none⟩ = some (.slice a1 len1 cap1)) ∧ (W.cell? ⟨w.heap.size + 1, 0, none⟩ = some (.int .u8 k2) ∧ W.cell? ⟨w.heap.size + 1, 1, none⟩ = some (.int .u32 i2) ∧ W.cell? ⟨w.heap.size + 1, 2, none⟩ = some (.slice a2 len2 cap2)) ∧ (W.cell? ⟨zb, 0, none⟩ = some (.int .u8 k1) ∧ W.cell? ⟨zb, 1, none⟩ = some (.int .u32 i1) ∧ W.cell? ⟨zb, 2, none⟩ = some (.slice al len1 cl)) ∧ (convert 23 9 (.slice (some ⟨ga, 0, none⟩) size size)).run Try.prog W = .ok (.string (strOfNums PA)) W ∧ ((convert 23 9 (.slice (some ⟨gb, 0, none⟩) size size)).run Try.prog W = .ok (.string (strOfNums PB)) W)) W := fun W hW => by
    have hb := (Row.bts hra4.out).grow hW
    rw [hpl.out] at hb
    have hb2 := (Row.bts hrb4.out).grow hW
    rw [hpl2.out] at hb2
    exact ⟨hW, (hx4.keep (hW.block _ hx4.lt)).cells, (hy4.keep (hW.block _ hy4.lt)).cells, (hz4.keep (hW.block _ hz4.lt)).cells, conv_str hb, conv_str hb2⟩
  have hStep : ∀ W W', Below W4.heap.size W4 W → Below W.heap.size W W' → Below W4.heap.size W4 W' := fun W W' h1 h2 => h1.trans (h2.mono h1.size)
  have hsame1 : ∀ W, Below W4.heap.size W4 W → Calls Try.prog 15 #[.agg #[.int .u8 k1, .int .u32 i1, .slice a1 len1 cap1], .agg #[.int .u8 k1, .int .u32 i1, .slice al len1 cl]] W fun e w' => e = .returned (.bool true) ∧ Below W.heap.size W w' := fun W hW => (same_any k1 k1 i1 i1 _ _ A A W (hX1.grow hW) (hol4.grow hW) hA hA).mono fun e w' h => ⟨by rw [h.1]; simp, h.2⟩
  have hsame2 : ∀ W, Below W4.heap.size W4 W → Calls Try.prog 15 #[.agg #[.int .u8 k1, .int .u32 i1, .slice a1 len1 cap1], .agg #[.int .u8 k2, .int .u32 i2, .slice a2 len2 cap2]] W fun e w' => e = .returned (.bool (decide (PA = PB))) ∧ Below W.heap.size W w' := fun W hW => (same_any k1 k2 i1 i2 _ _ A B W (hX1.grow hW) (hX2.grow hW) hA hB).mono fun e w' h => ⟨by rw [h.1, hdd.out], h.2⟩
  have hst := hstr.out
  clear hx0 hx1 hx2 hx4 hy0 hy1 hy2 hy4 hz4 hputx hputy hW0b1 hW0b2 hbe1 hbe2 hbe3 hB0 hB1 hB2 hB3 hra1 hra2 hbt2 hol hol4 hX1 hX2 hb1 hb2 y10 y11 y12 hPg hL hK hI
  refine wp_region_noPanic ?_
  refine wp_region_held_drew (S := fun W => Below W4.heap.size W4 W ∧ (W.cell? ⟨w.heap.size, 0, none⟩ = some (.int .u8 k1) ∧ W.cell? ⟨w.heap.size, 1, none⟩ = some (.int .u32 i1) ∧ W.cell? ⟨w.heap.size, 2, none⟩ = some (.slice a1 len1 cap1)) ∧ (W.cell? ⟨w.heap.size + 1, 0, none⟩ = some (.int .u8 k2) ∧ W.cell? ⟨w.heap.size + 1, 1, none⟩ = some (.int .u32 i2) ∧ W.cell? ⟨w.heap.size + 1, 2, none⟩ = some (.slice a2 len2 cap2)) ∧ (W.cell? ⟨zb, 0, none⟩ = some (.int .u8 k1) ∧ W.cell? ⟨zb, 1, none⟩ = some (.int .u32 i1) ∧ W.cell? ⟨zb, 2, none⟩ = some (.slice al len1 cl)) ∧ (convert 23 9 (.slice (some ⟨ga, 0, none⟩) size size)).run Try.prog W = .ok (.string (strOfNums PA)) W ∧ ((convert 23 9 (.slice (some ⟨gb, 0, none⟩) size size)).run Try.prog W = .ok (.string (strOfNums PB)) W)) (by kernel_rfl) (hAll _ ((Below.refl _ _).drew)) (fun hHeld => ?_)
  refine takeW (i := 0) (v := ?_) (some 52) rfl (by kernel_rfl) (by kernel_rfl) (by kernel_rfl) (by kernel_rfl) (by kernel_rfl) (by assumption) ?_ ?_
  rotate_left
  · intro w hSw; (try dsimp only at hSw); go_simp; try with_reducible rfl
  try simp only [Act.put, List.setIfInBounds_toArray, List.set_cons_zero, List.set_cons_succ]
  refine wpAnyH_ready (rs := [1]) (by kernel_rfl) (by simp) ?_
  refine AllReadyH.cons rfl (fun K hK => ?_) AllReadyH.nil
  go_simp
  refine (num_any _ _ (by omega) (by omega)).mono ?_
  rintro e w9 ⟨rfl, hw9⟩
  subst w9
  refine hK.out _ _ (by assumption) (fun hHeld => ?_)
  clear hK K
  try simp only [Act.put, List.setIfInBounds_toArray, List.set_cons_zero, List.set_cons_succ]
  refine takeW (i := 2) (v := ?_) (some 54) rfl (by kernel_rfl) (by kernel_rfl) (by kernel_rfl) (by kernel_rfl) (by kernel_rfl) (by assumption) ?_ ?_
  rotate_left
  · intro w hSw; (try dsimp only at hSw); go_simp; try with_reducible rfl
  try simp only [Act.put, List.setIfInBounds_toArray, List.set_cons_zero, List.set_cons_succ]
  refine takeW (i := 3) (v := ?_) (some 55) rfl (by kernel_rfl) (by kernel_rfl) (by kernel_rfl) (by kernel_rfl) (by kernel_rfl) (by assumption) ?_ ?_
  rotate_left
  · intro w hSw; (try dsimp only at hSw); go_simp; try with_reducible rfl
  try simp only [Act.put, List.setIfInBounds_toArray, List.set_cons_zero, List.set_cons_succ]
  refine takeW (i := 4) (v := ?_) (some 56) rfl (by kernel_rfl) (by kernel_rfl) (by kernel_rfl) (by kernel_rfl) (by kernel_rfl) (by assumption) ?_ ?_
  rotate_left
  · intro w hSw; (try dsimp only at hSw); go_simp; try with_reducible rfl
  try simp only [Act.put, List.setIfInBounds_toArray, List.set_cons_zero, List.set_cons_succ]
  refine takeW (i := 5) (v := ?_) (some 57) rfl (by kernel_rfl) (by kernel_rfl) (by kernel_rfl) (by kernel_rfl) (by kernel_rfl) (by assumption) ?_ ?_
  rotate_left
  · intro w hSw; (try dsimp only at hSw); go_simp; try with_reducible rfl
  try simp only [Act.put, List.setIfInBounds_toArray, List.set_cons_zero, List.set_cons_succ]
  refine wpAnyH_ready (rs := [6]) (by kernel_rfl) (by simp) ?_
  refine AllReadyH.cons rfl (fun K hK => ?_) AllReadyH.nil
  go_simp
  refine (hsame1 _ (And.left (by assumption))).mono ?_
  rintro e w10 ⟨rfl, hb10⟩
  refine hK.out _ _ (hAll _ (hStep _ _ hHeld.1 hb10)) (fun hHeld => ?_)
  clear hK K
  try simp only [Act.put, List.setIfInBounds_toArray, List.set_cons_zero, List.set_cons_succ]
  refine takeW (i := 7) (v := ?_) (some 59) rfl (by kernel_rfl) (by kernel_rfl) (by kernel_rfl) (by kernel_rfl) (by kernel_rfl) (by assumption) ?_ ?_
  rotate_left
  · intro w hSw; (try dsimp only at hSw); go_simp; try with_reducible rfl
  try simp only [Act.put, List.setIfInBounds_toArray, List.set_cons_zero, List.set_cons_succ]
  refine takeW (i := 8) (v := ?_) (some 60) rfl (by kernel_rfl) (by kernel_rfl) (by kernel_rfl) (by kernel_rfl) (by kernel_rfl) (by assumption) ?_ ?_
  rotate_left
  · intro w hSw; (try dsimp only at hSw); go_simp; try with_reducible rfl
  try simp only [Act.put, List.setIfInBounds_toArray, List.set_cons_zero, List.set_cons_succ]
  refine takeW (i := 9) (v := ?_) (some 61) rfl (by kernel_rfl) (by kernel_rfl) (by kernel_rfl) (by kernel_rfl) (by kernel_rfl) (by assumption) ?_ ?_
  rotate_left
  · intro w hSw; (try dsimp only at hSw); go_simp; try with_reducible rfl
  try simp only [Act.put, List.setIfInBounds_toArray, List.set_cons_zero, List.set_cons_succ]
  refine takeW (i := 10) (v := ?_) (some 62) rfl (by kernel_rfl) (by kernel_rfl) (by kernel_rfl) (by kernel_rfl) (by kernel_rfl) (by assumption) ?_ ?_
  rotate_left
  · intro w hSw; (try dsimp only at hSw); go_simp; try with_reducible rfl
  try simp only [Act.put, List.setIfInBounds_toArray, List.set_cons_zero, List.set_cons_succ]
  refine takeW (i := 11) (v := ?_) (some 63) rfl (by kernel_rfl) (by kernel_rfl) (by kernel_rfl) (by kernel_rfl) (by kernel_rfl) (by assumption) ?_ ?_
  rotate_left
  · intro w hSw; (try dsimp only at hSw); go_simp; try with_reducible rfl
  try simp only [Act.put, List.setIfInBounds_toArray, List.set_cons_zero, List.set_cons_succ]
  refine takeW (i := 12) (v := ?_) (some 64) rfl (by kernel_rfl) (by kernel_rfl) (by kernel_rfl) (by kernel_rfl) (by kernel_rfl) (by assumption) ?_ ?_
  rotate_left
  · intro w hSw; (try dsimp only at hSw); go_simp; try with_reducible rfl
  try simp only [Act.put, List.setIfInBounds_toArray, List.set_cons_zero, List.set_cons_succ]
  refine takeW (i := 13) (v := ?_) (some 65) rfl (by kernel_rfl) (by kernel_rfl) (by kernel_rfl) (by kernel_rfl) (by kernel_rfl) (by assumption) ?_ ?_
  rotate_left
  · intro w hSw; (try dsimp only at hSw); go_simp; try with_reducible rfl
  try simp only [Act.put, List.setIfInBounds_toArray, List.set_cons_zero, List.set_cons_succ]
  refine takeW (i := 14) (v := ?_) (some 66) rfl (by kernel_rfl) (by kernel_rfl) (by kernel_rfl) (by kernel_rfl) (by kernel_rfl) (by assumption) ?_ ?_
  rotate_left
  · intro w hSw; (try dsimp only at hSw); go_simp; try with_reducible rfl
  try simp only [Act.put, List.setIfInBounds_toArray, List.set_cons_zero, List.set_cons_succ]
  refine takeW (i := 15) (v := ?_) (some 67) rfl (by kernel_rfl) (by kernel_rfl) (by kernel_rfl) (by kernel_rfl) (by kernel_rfl) (by assumption) ?_ ?_
  rotate_left
  · intro w hSw; (try dsimp only at hSw); go_simp; try with_reducible rfl
  try simp only [Act.put, List.setIfInBounds_toArray, List.set_cons_zero, List.set_cons_succ]
  refine takeW (i := 16) (v := ?_) (some 68) rfl (by kernel_rfl) (by kernel_rfl) (by kernel_rfl) (by kernel_rfl) (by kernel_rfl) (by assumption) ?_ ?_
  rotate_left
  · intro w hSw; (try dsimp only at hSw); go_simp; try with_reducible rfl
  try simp only [Act.put, List.setIfInBounds_toArray, List.set_cons_zero, List.set_cons_succ]
  refine wpAnyH_ready (rs := [17]) (by kernel_rfl) (by simp) ?_
  refine AllReadyH.cons rfl (fun K hK => ?_) AllReadyH.nil
  go_simp
  refine (num_any _ _ (by omega) (by omega)).mono ?_
  rintro e w9 ⟨rfl, hw9⟩
  subst w9
  refine hK.out _ _ (by assumption) (fun hHeld => ?_)
  clear hK K
  try simp only [Act.put, List.setIfInBounds_toArray, List.set_cons_zero, List.set_cons_succ]
  refine takeW (i := 18) (v := ?_) (some 70) rfl (by kernel_rfl) (by kernel_rfl) (by kernel_rfl) (by kernel_rfl) (by kernel_rfl) (by assumption) ?_ ?_
  rotate_left
  · intro w hSw; (try dsimp only at hSw); go_simp; try with_reducible rfl
  try simp only [Act.put, List.setIfInBounds_toArray, List.set_cons_zero, List.set_cons_succ]
  refine takeW (i := 19) (v := ?_) (some 71) rfl (by kernel_rfl) (by kernel_rfl) (by kernel_rfl) (by kernel_rfl) (by kernel_rfl) (by assumption) ?_ ?_
  rotate_left
  · intro w hSw; (try dsimp only at hSw); go_simp; try with_reducible rfl
  try simp only [Act.put, List.setIfInBounds_toArray, List.set_cons_zero, List.set_cons_succ]
  refine takeW (i := 20) (v := ?_) (some 72) rfl (by kernel_rfl) (by kernel_rfl) (by kernel_rfl) (by kernel_rfl) (by kernel_rfl) (by assumption) ?_ ?_
  rotate_left
  · intro w hSw; (try dsimp only at hSw); go_simp; try with_reducible rfl
  try simp only [Act.put, List.setIfInBounds_toArray, List.set_cons_zero, List.set_cons_succ]
  refine takeW (i := 21) (v := ?_) (some 73) rfl (by kernel_rfl) (by kernel_rfl) (by kernel_rfl) (by kernel_rfl) (by kernel_rfl) (by assumption) ?_ ?_
  rotate_left
  · intro w hSw; (try dsimp only at hSw); go_simp; try with_reducible rfl
  try simp only [Act.put, List.setIfInBounds_toArray, List.set_cons_zero, List.set_cons_succ]
  refine takeW (i := 22) (v := ?_) (some 74) rfl (by kernel_rfl) (by kernel_rfl) (by kernel_rfl) (by kernel_rfl) (by kernel_rfl) (by assumption) ?_ ?_
  rotate_left
  · intro w hSw; (try dsimp only at hSw); go_simp; try with_reducible rfl
  try simp only [Act.put, List.setIfInBounds_toArray, List.set_cons_zero, List.set_cons_succ]
  refine takeW (i := 23) (v := ?_) (some 75) rfl (by kernel_rfl) (by kernel_rfl) (by kernel_rfl) (by kernel_rfl) (by kernel_rfl) (by assumption) ?_ ?_
  rotate_left
  · intro w hSw; (try dsimp only at hSw); go_simp; try with_reducible rfl
  try simp only [Act.put, List.setIfInBounds_toArray, List.set_cons_zero, List.set_cons_succ]
  refine takeW (i := 24) (v := ?_) (some 76) rfl (by kernel_rfl) (by kernel_rfl) (by kernel_rfl) (by kernel_rfl) (by kernel_rfl) (by assumption) ?_ ?_
  rotate_left
  · intro w hSw; (try dsimp only at hSw); go_simp; try with_reducible rfl
  try simp only [Act.put, List.setIfInBounds_toArray, List.set_cons_zero, List.set_cons_succ]
  refine takeW (i := 25) (v := ?_) (some 77) rfl (by kernel_rfl) (by kernel_rfl) (by kernel_rfl) (by kernel_rfl) (by kernel_rfl) (by assumption) ?_ ?_
  rotate_left
  · intro w hSw; (try dsimp only at hSw); go_simp; try with_reducible rfl
  try simp only [Act.put, List.setIfInBounds_toArray, List.set_cons_zero, List.set_cons_succ]
  refine takeW (i := 26) (v := ?_) (some 78) rfl (by kernel_rfl) (by kernel_rfl) (by kernel_rfl) (by kernel_rfl) (by kernel_rfl) (by assumption) ?_ ?_
  rotate_left
  · intro w hSw; (try dsimp only at hSw); go_simp; try with_reducible rfl
  try simp only [Act.put, List.setIfInBounds_toArray, List.set_cons_zero, List.set_cons_succ]
  refine wpAnyH_ready (rs := [27]) (by kernel_rfl) (by simp) ?_
  refine AllReadyH.cons rfl (fun K hK => ?_) AllReadyH.nil
  go_simp
  refine (hsame2 _ (And.left (by assumption))).mono ?_
  rintro e w11 ⟨rfl, hb11⟩
  refine hK.out _ _ (hAll _ (hStep _ _ hHeld.1 hb11)) (fun hHeld => ?_)
  clear hK K
  try simp only [Act.put, List.setIfInBounds_toArray, List.set_cons_zero, List.set_cons_succ]
  refine takeW (i := 28) (v := ?_) (some 80) rfl (by kernel_rfl) (by kernel_rfl) (by kernel_rfl) (by kernel_rfl) (by kernel_rfl) (by assumption) ?_ ?_
  rotate_left
  · intro w hSw; (try dsimp only at hSw); go_simp; try with_reducible rfl
  try simp only [Act.put, List.setIfInBounds_toArray, List.set_cons_zero, List.set_cons_succ]
  refine takeW (i := 29) (v := ?_) (some 81) rfl (by kernel_rfl) (by kernel_rfl) (by kernel_rfl) (by kernel_rfl) (by kernel_rfl) (by assumption) ?_ ?_
  rotate_left
  · intro w hSw; (try dsimp only at hSw); go_simp; try with_reducible rfl
  try simp only [Act.put, List.setIfInBounds_toArray, List.set_cons_zero, List.set_cons_succ]
  refine takeW (i := 30) (v := ?_) (some 82) rfl (by kernel_rfl) (by kernel_rfl) (by kernel_rfl) (by kernel_rfl) (by kernel_rfl) (by assumption) ?_ ?_
  rotate_left
  · intro w hSw; (try dsimp only at hSw); go_simp; try with_reducible rfl
  try simp only [Act.put, List.setIfInBounds_toArray, List.set_cons_zero, List.set_cons_succ]
  refine wpAnyH_done (by kernel_rfl) ?_ _
  refine NoPanic.normal ?_
  obtain ⟨hH1, -⟩ := hHeld
  have hBh : Below w.heap.size w w11 := hB4.trans (hH1.mono hB4.size)
  have hra5 : Row w11 ga PA := Row.keep hra4.out (hH1.block _ (Row.lt hra4.out))
  have hcut : ∀ W, (Instr.slice 23 (.slice (some ⟨ga, 0, none⟩) size size) none (some (.int .i64 ((size : Int) - 1))) none).run Try.prog W = .ok (.slice (some ⟨ga, 0, none⟩) (size - 1) size) W := fun W => by
    have := cut_to size ga (size - 1) (by omega) (by omega) W
    unfold slV at this
    rw [show (size : Int) - 1 = ((size - 1 : Nat) : Int) by omega, this]
  have hbs := bts_take hra5 (size - 1) size (by rw [hpl.out]; omega) (by omega)
  have hget := get_some _ _ _ hbs (hPb.take _)
  have hlt : (PA.take (size - 1)).length = size - 1 := by rw [List.length_take, hpl.out]; omega
  rw [hlt] at hget
  clear hra4 hra5 hbs hsame1 hAll hStep hlt hH1 hsame2 hrb4
  go_wp2_with (first | (go_at_call 12; refine hget.mono ?_; rintro e w12 ⟨kx, ix, ax, nx, cx, ex, rfl, hex, hin, hb12⟩; replace hex : Hid _ := hex))
  by_cases h64 : size = 64
  · have e30 : (ex == 30) = true := by have := hex.out (by omega); simp [this]
    go_wp2_with (first | (go_at_call 14; refine (num_any _ _ (by omega) (by omega)).mono ?_; rintro e w9 ⟨rfl, hw9⟩; subst w9) | (go_at_call 9; refine (live_any _).mono ?_; rintro e w13 ⟨rfl, hb13⟩))
    go_ret
    have hB12 := hBh.trans (hb12.mono hBh.size)
    have hB13 := hB12.alloc hB12.size (.cells #[.int .u8 kx, .int .u32 ix, .slice ax nx cx] 25)
    exact ⟨rfl, hB13.trans (hb13.mono hB13.size)⟩
  · have e64 : decide (64 ≤ (size : Int) - 1) = true := by simp; omega
    by_cases hx : ex = 30
    · have e30 : (ex == 30) = true := by simp [hx]
      clear hx
      go_wp2_with (first | (go_at_call 14; refine (num_any _ _ (by omega) (by omega)).mono ?_; rintro e w9 ⟨rfl, hw9⟩; subst w9) | (go_at_call 9; refine (live_any _).mono ?_; rintro e w13 ⟨rfl, hb13⟩))
      go_ret
      have hB12 := hBh.trans (hb12.mono hBh.size)
      have hB13 := hB12.alloc hB12.size (.cells #[.int .u8 kx, .int .u32 ix, .slice ax nx cx] 25)
      exact ⟨rfl, hB13.trans (hb13.mono hB13.size)⟩
    · have e30 : (ex == 30) = false := by simp [hx]
      clear hx
      go_wp2_with (first | (go_at_call 14; refine (num_any _ _ (by omega) (by omega)).mono ?_; rintro e w9 ⟨rfl, hw9⟩; subst w9) | (go_at_call 9; refine (live_any _).mono ?_; rintro e w13 ⟨rfl, hb13⟩))
      go_ret
      have hB12 := hBh.trans (hb12.mono hBh.size)
      have hB13 := hB12.alloc hB12.size (.cells #[.int .u8 kx, .int .u32 ix, .slice ax nx cx] 25)
      exact ⟨rfl, hB13.trans (hb13.mono hB13.size)⟩
set_option maxRecDepth 100000 in
set_option maxHeartbeats 8000000 in
theorem main1 (size : Nat) (k1 k2 : Int) (i1 i2 : Nat) (a1 a2 : Option Addr) (len1 cap1 len2 cap2 : Nat) (A B : List Int) (w : World) (hk1 : 0 ≤ k1 ∧ k1 < 256) (hk2 : 0 ≤ k2 ∧ k2 < 256) (hi1 : i1 < 2 ^ 32) (hi2 : i2 < 2 ^ 32) (hb1 : Bts w (.slice a1 len1 cap1) A) (hb2 : Bts w (.slice a2 len2 cap2) B) (hA : IsBytes A) (hB : IsBytes B) (hlA : len1 = A.length) (hlB : len2 = B.length) (hl1 : len1 ≤ 20000) (hl2 : len2 ≤ 20000) (hE1 : putE size k1 len1 = 0) (hE2 : putE size k2 len2 ≠ 0) :
    Calls Try.prog 5 #[.int .i64 size, .agg #[.int .u8 k1, .int .u32 i1, .slice a1 len1 cap1], .agg #[.int .u8 k2, .int .u32 i2, .slice a2 len2 cap2]] w fun e w' => e = .returned (.bool true) ∧ Below w.heap.size w w' := by
  have g1 : decide ((20000 : Int) < (len1 : Int)) = false := by simp; omega
  have g2 : decide ((20000 : Int) < (len2 : Int)) = false := by simp; omega
  have hx0 : PageAt ((w.alloc (.cells #[.int .u8 k1, .int .u32 i1, .slice a1 len1 cap1] 25)).alloc (.cells #[.int .u8 k2, .int .u32 i2, .slice a2 len2 cap2] 25)) w.heap.size k1 i1 (.slice a1 len1 cap1) := heap2f w _ _
  have hy0 : PageAt ((w.alloc (.cells #[.int .u8 k1, .int .u32 i1, .slice a1 len1 cap1] 25)).alloc (.cells #[.int .u8 k2, .int .u32 i2, .slice a2 len2 cap2] 25)) (w.heap.size + 1) k2 i2 (.slice a2 len2 cap2) := heap2 w _ _
  have hB0 : Below w.heap.size w ((w.alloc (.cells #[.int .u8 k1, .int .u32 i1, .slice a1 len1 cap1] 25)).alloc (.cells #[.int .u8 k2, .int .u32 i2, .slice a2 len2 cap2] 25)) := ((Below.refl _ w).alloc (Nat.le_refl _) _).alloc (by simp) _
  obtain ⟨s1, s2, s3, s4⟩ := putE_zero hE1
  have hputx := fun W hW => put_ex size k1 i1 (.slice a1 len1 cap1) A W (by omega) (by omega) ⟨by omega, hk1.2⟩ hi1 hW hA (by omega)
  have hputy := fun W => put_bad size k2 i2 a2 len2 cap2 W hk2.1 hE2
  have hin2 := putE_in size k2 len2
  have hE2b : (putE size k2 len2 == 0) = false := by simpa using hE2
  have hpl := pageB_len size k1 i1 A (by omega)
  have hPb := pageB_bytes size k1 i1 A hk1 hA
  have hPg := isPage_page size k1 i1 A (by omega) (by omega) s3 hi1 (by omega)
  have hW0b1 := hb1.grow hB0
  have hW0b2 := hb2.grow hB0
  have hK := kindOf_page size k1 i1 A
  have hI := idOf_page size k1 i1 A hi1
  have hL := loadOf_page size k1 i1 A (by omega)
  have hAl : A.length = len1 := hlA.symm
  replace hpl : Hid _ := hpl
  replace hAl : Hid _ := hAl
  replace hK : Hid _ := hK
  replace hI : Hid _ := hI
  replace hL : Hid _ := hL
  generalize putE size k2 len2 = E2 at *
  generalize pageB size k1 i1 A = PA at *
  clear hlA hlB hE1
  go_enter Try.func5, Try.ntmps5
  go_wp2_with fail
  refine (hputx _ hW0b1).mono ?_
  rintro e w1 ⟨ga, rfl, hra1, hbe1, hga⟩
  have hx1 := hx0.keep (hbe1.block _ hx0.lt)
  have hy1 := hy0.keep (hbe1.block _ hy0.lt)
  have hB1 := hB0.trans (hbe1.mono hB0.size)
  obtain ⟨y10, y11, y12⟩ := hy1.cells
  replace hra1 : Hid _ := hra1
  go_wp2_with fail
  refine (hputy _).mono ?_
  rintro e w2 ⟨rfl, hbe2⟩
  have hx2 := hx1.keep (hbe2.block _ hx1.lt)
  have hy2 := hy1.keep (hbe2.block _ hy1.lt)
  have hB2 := hB1.trans (hbe2.mono hB1.size)
  have hra2 : Row w2 ga PA := Row.keep hra1.out (hbe2.block _ (Row.lt hra1.out))
  have hbt2 := hra2.bts
  rw [hpl.out] at hbt2
  replace hra2 : Hid _ := hra2
  go_upto_region 7 with (first | (go_at_call 14; refine (num_any _ _ (by omega) (by omega)).mono ?_; rintro e w9 ⟨rfl, hw9⟩; subst w9))
  go_wp2_with fail
  refine (get_yes _ _ w2 hbt2 hPb hPg).mono ?_
  rintro e w3 ⟨lv, rfl, ⟨base, hbase, hol⟩, hbe3⟩
  rw [hK.out, hI.out]
  rw [hL.out] at hol
  obtain ⟨al, cl, hlv⟩ := hol.bts.split
  rw [hAl.out] at hlv
  subst hlv
  have hx4 := (hx2.keep (hbe3.block _ hx2.lt)).alloc (.cells #[.int .u8 k1, .int .u32 i1, .slice al len1 cl] 25)
  have hy4 := (hy2.keep (hbe3.block _ hy2.lt)).alloc (.cells #[.int .u8 k1, .int .u32 i1, .slice al len1 cl] 25)
  have hz4 : PageAt (w3.alloc (.cells #[.int .u8 k1, .int .u32 i1, .slice al len1 cl] 25)) w3.heap.size k1 i1 (.slice al len1 cl) := heap_alloc_new w3 _
  have hB3 := hB2.trans (hbe3.mono hB2.size)
  have hB4 := hB3.alloc hB3.size (.cells #[.int .u8 k1, .int .u32 i1, .slice al len1 cl] 25)
  have hra4 : Hid (Row (w3.alloc (.cells #[.int .u8 k1, .int .u32 i1, .slice al len1 cl] 25)) ga PA) := Row.allocd (Row.keep hra2.out (hbe3.block _ (Row.lt hra2.out))) _
  have hol4 := hol.bts.alloc (.cells #[.int .u8 k1, .int .u32 i1, .slice al len1 cl] 25)
  have hX1 := hb1.grow hB4
  have hX2 := hb2.grow hB4
  go_upto_region 8 with fail
  generalize w3.alloc (.cells #[.int .u8 k1, .int .u32 i1, .slice al len1 cl] 25) = W4 at *
  generalize w3.heap.size = zb at *
  have hAll : ∀ W, Below W4.heap.size W4 W → (fun W => Below W4.heap.size W4 W ∧ (W.cell? ⟨w.heap.size, 0, none⟩ = some (.int .u8 k1) ∧ W.cell? ⟨w.heap.size, 1, none⟩ = some (.int .u32 i1) ∧ W.cell? ⟨w.heap.size, 2, none⟩ = some (.slice a1 len1 cap1)) ∧ (W.cell? ⟨w.heap.size + 1, 0, none⟩ = some (.int .u8 k2) ∧ W.cell? ⟨w.heap.size + 1, 1, none⟩ = some (.int .u32 i2) ∧ W.cell? ⟨w.heap.size + 1, 2, none⟩ = some (.slice a2 len2 cap2)) ∧ (W.cell? ⟨zb, 0, none⟩ = some (.int .u8 k1) ∧ W.cell? ⟨zb, 1, none⟩ = some (.int .u32 i1) ∧ W.cell? ⟨zb, 2, none⟩ = some (.slice al len1 cl)) ∧ (convert 23 9 (.slice (some ⟨ga, 0, none⟩) size size)).run Try.prog W = .ok (.string (strOfNums PA)) W ∧ ((convert 23 9 (.slice none 0 0)).run Try.prog W = .ok (.string (strOfNums [])) W)) W := fun W hW => by
    have hb := (Row.bts hra4.out).grow hW
    rw [hpl.out] at hb
    have hb2 := bts_nil W
    exact ⟨hW, (hx4.keep (hW.block _ hx4.lt)).cells, (hy4.keep (hW.block _ hy4.lt)).cells, (hz4.keep (hW.block _ hz4.lt)).cells, conv_str hb, conv_str hb2⟩
  have hStep : ∀ W W', Below W4.heap.size W4 W → Below W.heap.size W W' → Below W4.heap.size W4 W' := fun W W' h1 h2 => h1.trans (h2.mono h1.size)
  have hsame1 : ∀ W, Below W4.heap.size W4 W → Calls Try.prog 15 #[.agg #[.int .u8 k1, .int .u32 i1, .slice a1 len1 cap1], .agg #[.int .u8 k1, .int .u32 i1, .slice al len1 cl]] W fun e w' => e = .returned (.bool true) ∧ Below W.heap.size W w' := fun W hW => (same_any k1 k1 i1 i1 _ _ A A W (hX1.grow hW) (hol4.grow hW) hA hA).mono fun e w' h => ⟨by rw [h.1]; simp, h.2⟩
  clear hx0 hx1 hx2 hx4 hy0 hy1 hy2 hy4 hz4 hputx hputy hW0b1 hW0b2 hbe1 hbe2 hbe3 hB0 hB1 hB2 hB3 hra1 hra2 hbt2 hol hol4 hX1 hX2 hb1 hb2 y10 y11 y12 hPg hL hK hI
  refine wp_region_noPanic ?_
  refine wp_region_held_drew (S := fun W => Below W4.heap.size W4 W ∧ (W.cell? ⟨w.heap.size, 0, none⟩ = some (.int .u8 k1) ∧ W.cell? ⟨w.heap.size, 1, none⟩ = some (.int .u32 i1) ∧ W.cell? ⟨w.heap.size, 2, none⟩ = some (.slice a1 len1 cap1)) ∧ (W.cell? ⟨w.heap.size + 1, 0, none⟩ = some (.int .u8 k2) ∧ W.cell? ⟨w.heap.size + 1, 1, none⟩ = some (.int .u32 i2) ∧ W.cell? ⟨w.heap.size + 1, 2, none⟩ = some (.slice a2 len2 cap2)) ∧ (W.cell? ⟨zb, 0, none⟩ = some (.int .u8 k1) ∧ W.cell? ⟨zb, 1, none⟩ = some (.int .u32 i1) ∧ W.cell? ⟨zb, 2, none⟩ = some (.slice al len1 cl)) ∧ (convert 23 9 (.slice (some ⟨ga, 0, none⟩) size size)).run Try.prog W = .ok (.string (strOfNums PA)) W ∧ ((convert 23 9 (.slice none 0 0)).run Try.prog W = .ok (.string (strOfNums [])) W)) (by kernel_rfl) (hAll _ ((Below.refl _ _).drew)) (fun hHeld => ?_)
  refine takeW (i := 0) (v := ?_) (some 52) rfl (by kernel_rfl) (by kernel_rfl) (by kernel_rfl) (by kernel_rfl) (by kernel_rfl) (by assumption) ?_ ?_
  rotate_left
  · intro w hSw; (try dsimp only at hSw); go_simp; try with_reducible rfl
  try simp only [Act.put, List.setIfInBounds_toArray, List.set_cons_zero, List.set_cons_succ]
  refine wpAnyH_ready (rs := [1]) (by kernel_rfl) (by simp) ?_
  refine AllReadyH.cons rfl (fun K hK => ?_) AllReadyH.nil
  go_simp
  refine (num_any _ _ (by omega) (by omega)).mono ?_
  rintro e w9 ⟨rfl, hw9⟩
  subst w9
  refine hK.out _ _ (by assumption) (fun hHeld => ?_)
  clear hK K
  try simp only [Act.put, List.setIfInBounds_toArray, List.set_cons_zero, List.set_cons_succ]
  refine takeW (i := 2) (v := ?_) (some 54) rfl (by kernel_rfl) (by kernel_rfl) (by kernel_rfl) (by kernel_rfl) (by kernel_rfl) (by assumption) ?_ ?_
  rotate_left
  · intro w hSw; (try dsimp only at hSw); go_simp; try with_reducible rfl
  try simp only [Act.put, List.setIfInBounds_toArray, List.set_cons_zero, List.set_cons_succ]
  refine takeW (i := 3) (v := ?_) (some 55) rfl (by kernel_rfl) (by kernel_rfl) (by kernel_rfl) (by kernel_rfl) (by kernel_rfl) (by assumption) ?_ ?_
  rotate_left
  · intro w hSw; (try dsimp only at hSw); go_simp; try with_reducible rfl
  try simp only [Act.put, List.setIfInBounds_toArray, List.set_cons_zero, List.set_cons_succ]
  refine takeW (i := 4) (v := ?_) (some 56) rfl (by kernel_rfl) (by kernel_rfl) (by kernel_rfl) (by kernel_rfl) (by kernel_rfl) (by assumption) ?_ ?_
  rotate_left
  · intro w hSw; (try dsimp only at hSw); go_simp; try with_reducible rfl
  try simp only [Act.put, List.setIfInBounds_toArray, List.set_cons_zero, List.set_cons_succ]
  refine takeW (i := 5) (v := ?_) (some 57) rfl (by kernel_rfl) (by kernel_rfl) (by kernel_rfl) (by kernel_rfl) (by kernel_rfl) (by assumption) ?_ ?_
  rotate_left
  · intro w hSw; (try dsimp only at hSw); go_simp; try with_reducible rfl
  try simp only [Act.put, List.setIfInBounds_toArray, List.set_cons_zero, List.set_cons_succ]
  refine wpAnyH_ready (rs := [6]) (by kernel_rfl) (by simp) ?_
  refine AllReadyH.cons rfl (fun K hK => ?_) AllReadyH.nil
  go_simp
  refine (hsame1 _ (And.left (by assumption))).mono ?_
  rintro e w10 ⟨rfl, hb10⟩
  refine hK.out _ _ (hAll _ (hStep _ _ hHeld.1 hb10)) (fun hHeld => ?_)
  clear hK K
  try simp only [Act.put, List.setIfInBounds_toArray, List.set_cons_zero, List.set_cons_succ]
  refine takeW (i := 7) (v := ?_) (some 59) rfl (by kernel_rfl) (by kernel_rfl) (by kernel_rfl) (by kernel_rfl) (by kernel_rfl) (by assumption) ?_ ?_
  rotate_left
  · intro w hSw; (try dsimp only at hSw); go_simp; try with_reducible rfl
  try simp only [Act.put, List.setIfInBounds_toArray, List.set_cons_zero, List.set_cons_succ]
  refine takeW (i := 8) (v := ?_) (some 60) rfl (by kernel_rfl) (by kernel_rfl) (by kernel_rfl) (by kernel_rfl) (by kernel_rfl) (by assumption) ?_ ?_
  rotate_left
  · intro w hSw; (try dsimp only at hSw); go_simp; try with_reducible rfl
  try simp only [Act.put, List.setIfInBounds_toArray, List.set_cons_zero, List.set_cons_succ]
  refine takeW (i := 9) (v := ?_) (some 61) rfl (by kernel_rfl) (by kernel_rfl) (by kernel_rfl) (by kernel_rfl) (by kernel_rfl) (by assumption) ?_ ?_
  rotate_left
  · intro w hSw; (try dsimp only at hSw); go_simp; try with_reducible rfl
  try simp only [Act.put, List.setIfInBounds_toArray, List.set_cons_zero, List.set_cons_succ]
  refine takeW (i := 10) (v := ?_) (some 62) rfl (by kernel_rfl) (by kernel_rfl) (by kernel_rfl) (by kernel_rfl) (by kernel_rfl) (by assumption) ?_ ?_
  rotate_left
  · intro w hSw; (try dsimp only at hSw); go_simp; try with_reducible rfl
  try simp only [Act.put, List.setIfInBounds_toArray, List.set_cons_zero, List.set_cons_succ]
  refine takeW (i := 11) (v := ?_) (some 63) rfl (by kernel_rfl) (by kernel_rfl) (by kernel_rfl) (by kernel_rfl) (by kernel_rfl) (by assumption) ?_ ?_
  rotate_left
  · intro w hSw; (try dsimp only at hSw); go_simp; try with_reducible rfl
  try simp only [Act.put, List.setIfInBounds_toArray, List.set_cons_zero, List.set_cons_succ]
  refine takeW (i := 12) (v := ?_) (some 64) rfl (by kernel_rfl) (by kernel_rfl) (by kernel_rfl) (by kernel_rfl) (by kernel_rfl) (by assumption) ?_ ?_
  rotate_left
  · intro w hSw; (try dsimp only at hSw); go_simp; try with_reducible rfl
  try simp only [Act.put, List.setIfInBounds_toArray, List.set_cons_zero, List.set_cons_succ]
  refine takeW (i := 13) (v := ?_) (some 65) rfl (by kernel_rfl) (by kernel_rfl) (by kernel_rfl) (by kernel_rfl) (by kernel_rfl) (by assumption) ?_ ?_
  rotate_left
  · intro w hSw; (try dsimp only at hSw); go_simp; try with_reducible rfl
  try simp only [Act.put, List.setIfInBounds_toArray, List.set_cons_zero, List.set_cons_succ]
  refine takeW (i := 14) (v := ?_) (some 66) rfl (by kernel_rfl) (by kernel_rfl) (by kernel_rfl) (by kernel_rfl) (by kernel_rfl) (by assumption) ?_ ?_
  rotate_left
  · intro w hSw; (try dsimp only at hSw); go_simp; try with_reducible rfl
  try simp only [Act.put, List.setIfInBounds_toArray, List.set_cons_zero, List.set_cons_succ]
  refine takeW (i := 15) (v := ?_) (some 67) rfl (by kernel_rfl) (by kernel_rfl) (by kernel_rfl) (by kernel_rfl) (by kernel_rfl) (by assumption) ?_ ?_
  rotate_left
  · intro w hSw; (try dsimp only at hSw); go_simp; try with_reducible rfl
  try simp only [Act.put, List.setIfInBounds_toArray, List.set_cons_zero, List.set_cons_succ]
  refine takeW (i := 16) (v := ?_) (some 68) rfl (by kernel_rfl) (by kernel_rfl) (by kernel_rfl) (by kernel_rfl) (by kernel_rfl) (by assumption) ?_ ?_
  rotate_left
  · intro w hSw; (try dsimp only at hSw); go_simp; try with_reducible rfl
  try simp only [Act.put, List.setIfInBounds_toArray, List.set_cons_zero, List.set_cons_succ]
  refine wpAnyH_ready (rs := [17]) (by kernel_rfl) (by simp) ?_
  refine AllReadyH.cons rfl (fun K hK => ?_) AllReadyH.nil
  go_simp
  refine (num_any _ _ (by omega) (by omega)).mono ?_
  rintro e w9 ⟨rfl, hw9⟩
  subst w9
  refine hK.out _ _ (by assumption) (fun hHeld => ?_)
  clear hK K
  try simp only [Act.put, List.setIfInBounds_toArray, List.set_cons_zero, List.set_cons_succ]
  refine takeW (i := 18) (v := ?_) (some 70) rfl (by kernel_rfl) (by kernel_rfl) (by kernel_rfl) (by kernel_rfl) (by kernel_rfl) (by assumption) ?_ ?_
  rotate_left
  · intro w hSw; (try dsimp only at hSw); go_simp; try with_reducible rfl
  try simp only [Act.put, List.setIfInBounds_toArray, List.set_cons_zero, List.set_cons_succ]
  refine takeW (i := 19) (v := ?_) (some 71) rfl (by kernel_rfl) (by kernel_rfl) (by kernel_rfl) (by kernel_rfl) (by kernel_rfl) (by assumption) ?_ ?_
  rotate_left
  · intro w hSw; (try dsimp only at hSw); go_simp; try with_reducible rfl
  try simp only [Act.put, List.setIfInBounds_toArray, List.set_cons_zero, List.set_cons_succ]
  refine skipW (i := 20) (some 72) rfl (by kernel_rfl) (by kernel_rfl) (by kernel_rfl) (by kernel_rfl) (by kernel_rfl) (by assumption) ?_
  try simp only [Act.put, List.setIfInBounds_toArray, List.set_cons_zero, List.set_cons_succ]
  refine skipW (i := 21) (some 73) rfl (by kernel_rfl) (by kernel_rfl) (by kernel_rfl) (by kernel_rfl) (by kernel_rfl) (by assumption) ?_
  try simp only [Act.put, List.setIfInBounds_toArray, List.set_cons_zero, List.set_cons_succ]
  refine skipW (i := 22) (some 74) rfl (by kernel_rfl) (by kernel_rfl) (by kernel_rfl) (by kernel_rfl) (by kernel_rfl) (by assumption) ?_
  try simp only [Act.put, List.setIfInBounds_toArray, List.set_cons_zero, List.set_cons_succ]
  refine skipW (i := 23) (some 75) rfl (by kernel_rfl) (by kernel_rfl) (by kernel_rfl) (by kernel_rfl) (by kernel_rfl) (by assumption) ?_
  try simp only [Act.put, List.setIfInBounds_toArray, List.set_cons_zero, List.set_cons_succ]
  refine skipW (i := 24) (some 76) rfl (by kernel_rfl) (by kernel_rfl) (by kernel_rfl) (by kernel_rfl) (by kernel_rfl) (by assumption) ?_
  try simp only [Act.put, List.setIfInBounds_toArray, List.set_cons_zero, List.set_cons_succ]
  refine skipW (i := 25) (some 77) rfl (by kernel_rfl) (by kernel_rfl) (by kernel_rfl) (by kernel_rfl) (by kernel_rfl) (by assumption) ?_
  try simp only [Act.put, List.setIfInBounds_toArray, List.set_cons_zero, List.set_cons_succ]
  refine skipW (i := 26) (some 78) rfl (by kernel_rfl) (by kernel_rfl) (by kernel_rfl) (by kernel_rfl) (by kernel_rfl) (by assumption) ?_
  try simp only [Act.put, List.setIfInBounds_toArray, List.set_cons_zero, List.set_cons_succ]
  refine skipW (i := 27) (some 79) rfl (by kernel_rfl) (by kernel_rfl) (by kernel_rfl) (by kernel_rfl) (by kernel_rfl) (by assumption) ?_
  try simp only [Act.put, List.setIfInBounds_toArray, List.set_cons_zero, List.set_cons_succ]
  refine skipW (i := 28) (some 80) rfl (by kernel_rfl) (by kernel_rfl) (by kernel_rfl) (by kernel_rfl) (by kernel_rfl) (by assumption) ?_
  try simp only [Act.put, List.setIfInBounds_toArray, List.set_cons_zero, List.set_cons_succ]
  refine takeW (i := 29) (v := ?_) (some 81) rfl (by kernel_rfl) (by kernel_rfl) (by kernel_rfl) (by kernel_rfl) (by kernel_rfl) (by assumption) ?_ ?_
  rotate_left
  · intro w hSw; (try dsimp only at hSw); go_simp; try with_reducible rfl
  try simp only [Act.put, List.setIfInBounds_toArray, List.set_cons_zero, List.set_cons_succ]
  refine takeW (i := 30) (v := ?_) (some 82) rfl (by kernel_rfl) (by kernel_rfl) (by kernel_rfl) (by kernel_rfl) (by kernel_rfl) (by assumption) ?_ ?_
  rotate_left
  · intro w hSw; (try dsimp only at hSw); go_simp; try with_reducible rfl
  try simp only [Act.put, List.setIfInBounds_toArray, List.set_cons_zero, List.set_cons_succ]
  refine wpAnyH_done (by kernel_rfl) ?_ _
  refine NoPanic.normal ?_
  obtain ⟨hH1, -⟩ := hHeld
  have hBh : Below w.heap.size w w10 := hB4.trans (hH1.mono hB4.size)
  have hra5 : Row w10 ga PA := Row.keep hra4.out (hH1.block _ (Row.lt hra4.out))
  have hcut : ∀ W, (Instr.slice 23 (.slice (some ⟨ga, 0, none⟩) size size) none (some (.int .i64 ((size : Int) - 1))) none).run Try.prog W = .ok (.slice (some ⟨ga, 0, none⟩) (size - 1) size) W := fun W => by
    have := cut_to size ga (size - 1) (by omega) (by omega) W
    unfold slV at this
    rw [show (size : Int) - 1 = ((size - 1 : Nat) : Int) by omega, this]
  have hbs := bts_take hra5 (size - 1) size (by rw [hpl.out]; omega) (by omega)
  have hget := get_some _ _ _ hbs (hPb.take _)
  have hlt : (PA.take (size - 1)).length = size - 1 := by rw [List.length_take, hpl.out]; omega
  rw [hlt] at hget
  clear hra4 hra5 hbs hsame1 hAll hStep hlt hH1 
  go_wp2_with (first | (go_at_call 12; refine hget.mono ?_; rintro e w12 ⟨kx, ix, ax, nx, cx, ex, rfl, hex, hin, hb12⟩; replace hex : Hid _ := hex))
  by_cases h64 : size = 64
  · have e30 : (ex == 30) = true := by have := hex.out (by omega); simp [this]
    go_wp2_with (first | (go_at_call 14; refine (num_any _ _ (by omega) (by omega)).mono ?_; rintro e w9 ⟨rfl, hw9⟩; subst w9) | (go_at_call 9; refine (live_any _).mono ?_; rintro e w13 ⟨rfl, hb13⟩))
    go_ret
    have hB12 := hBh.trans (hb12.mono hBh.size)
    have hB13 := hB12.alloc hB12.size (.cells #[.int .u8 kx, .int .u32 ix, .slice ax nx cx] 25)
    exact ⟨rfl, hB13.trans (hb13.mono hB13.size)⟩
  · have e64 : decide (64 ≤ (size : Int) - 1) = true := by simp; omega
    by_cases hx : ex = 30
    · have e30 : (ex == 30) = true := by simp [hx]
      clear hx
      go_wp2_with (first | (go_at_call 14; refine (num_any _ _ (by omega) (by omega)).mono ?_; rintro e w9 ⟨rfl, hw9⟩; subst w9) | (go_at_call 9; refine (live_any _).mono ?_; rintro e w13 ⟨rfl, hb13⟩))
      go_ret
      have hB12 := hBh.trans (hb12.mono hBh.size)
      have hB13 := hB12.alloc hB12.size (.cells #[.int .u8 kx, .int .u32 ix, .slice ax nx cx] 25)
      exact ⟨rfl, hB13.trans (hb13.mono hB13.size)⟩
    · have e30 : (ex == 30) = false := by simp [hx]
      clear hx
      go_wp2_with (first | (go_at_call 14; refine (num_any _ _ (by omega) (by omega)).mono ?_; rintro e w9 ⟨rfl, hw9⟩; subst w9) | (go_at_call 9; refine (live_any _).mono ?_; rintro e w13 ⟨rfl, hb13⟩))
      go_ret
      have hB12 := hBh.trans (hb12.mono hBh.size)
      have hB13 := hB12.alloc hB12.size (.cells #[.int .u8 kx, .int .u32 ix, .slice ax nx cx] 25)
      exact ⟨rfl, hB13.trans (hb13.mono hB13.size)⟩
set_option maxRecDepth 100000 in
set_option maxHeartbeats 4000000 in
theorem out_len (a0 : Int) (k1 k2 : Int) (i1 i2 : Nat) (a1 a2 : Option Addr) (len1 cap1 len2 cap2 : Nat) (w : World) (h : (20000 : Int) < (len1 : Int) ∨ ¬ (20000 : Int) < (len1 : Int) ∧ (20000 : Int) < (len2 : Int)) :
    Calls Try.prog 5 #[.int .i64 a0, .agg #[.int .u8 k1, .int .u32 i1, .slice a1 len1 cap1], .agg #[.int .u8 k2, .int .u32 i2, .slice a2 len2 cap2]] w fun e w' => e = .returned (.bool true) ∧ Below w.heap.size w w' := by
  have hB0 : Below w.heap.size w ((w.alloc (.cells #[.int .u8 k1, .int .u32 i1, .slice a1 len1 cap1] 25)).alloc (.cells #[.int .u8 k2, .int .u32 i2, .slice a2 len2 cap2] 25)) := ((Below.refl _ w).alloc (Nat.le_refl _) _).alloc (by simp) _
  rcases h with h | ⟨h0, h⟩
  · go_enter Try.func5, Try.ntmps5
    go_wp2_with (first | (go_at_call 9; refine (live_any _).mono ?_; rintro e w2 ⟨rfl, hb2⟩))
    go_ret
    exact ⟨rfl, hB0.trans (hb2.mono hB0.size)⟩
  · have h0' : decide ((20000 : Int) < (len1 : Int)) = false := by simpa using h0
    go_enter Try.func5, Try.ntmps5
    go_wp2_with (first | (go_at_call 9; refine (live_any _).mono ?_; rintro e w2 ⟨rfl, hb2⟩))
    go_ret
    exact ⟨rfl, hB0.trans (hb2.mono hB0.size)⟩
/-- Put, whatever it answers. -/
theorem put_some (a0 k2 : Int) (i2 : Nat) (a2 : Option Addr) (len2 cap2 : Nat) (B : List Int) (w : World) (hk2 : 0 ≤ k2 ∧ k2 < 256) (hi2 : i2 < 2 ^ 32) (hb2 : Bts w (.slice a2 len2 cap2) B) (hB : IsBytes B) (hlB : len2 = B.length) :
    Calls Try.prog 10 #[.int .i64 a0, .agg #[.int .u8 k2, .int .u32 i2, .slice a2 len2 cap2]] w fun e w' => ∃ v x, e = .returned (.tuple #[v, .int .i64 x]) ∧ Below w.heap.size w w' := by
  by_cases hE : putE a0 k2 len2 = 0
  · obtain ⟨h1, h2, h3, h4⟩ := putE_zero hE
    obtain ⟨size, rfl⟩ : ∃ s : Nat, a0 = s := ⟨a0.toNat, by omega⟩
    exact (put_ok size k2 i2 _ B w (by omega) (by omega) ⟨by omega, hk2.2⟩ hi2 hb2 hB (by omega)).mono fun e w' h => ⟨_, _, h.1, h.2.2⟩
  · exact (put_bad a0 k2 i2 a2 len2 cap2 w hk2.1 hE).mono fun e w' h => ⟨_, _, h.1, h.2⟩
set_option maxRecDepth 100000 in
set_option maxHeartbeats 4000000 in
theorem out_put (a0 : Int) (k1 k2 : Int) (i1 i2 : Nat) (a1 a2 : Option Addr) (len1 cap1 len2 cap2 : Nat) (w : World) (B : List Int) (hl1 : len1 ≤ 20000) (hl2 : len2 ≤ 20000) (hk1 : 0 ≤ k1) (hk2 : 0 ≤ k2 ∧ k2 < 256) (hi2 : i2 < 2 ^ 32) (hb2 : Bts w (.slice a2 len2 cap2) B) (hB : IsBytes B) (hlB : len2 = B.length) (hE : putE a0 k1 len1 ≠ 0) :
    Calls Try.prog 5 #[.int .i64 a0, .agg #[.int .u8 k1, .int .u32 i1, .slice a1 len1 cap1], .agg #[.int .u8 k2, .int .u32 i2, .slice a2 len2 cap2]] w fun e w' => e = .returned (.bool true) ∧ Below w.heap.size w w' := by
  have g1 : decide ((20000 : Int) < (len1 : Int)) = false := by simp; omega
  have g2 : decide ((20000 : Int) < (len2 : Int)) = false := by simp; omega
  have hx0 : PageAt ((w.alloc (.cells #[.int .u8 k1, .int .u32 i1, .slice a1 len1 cap1] 25)).alloc (.cells #[.int .u8 k2, .int .u32 i2, .slice a2 len2 cap2] 25)) w.heap.size k1 i1 (.slice a1 len1 cap1) := heap2f w _ _
  have hy0 : PageAt ((w.alloc (.cells #[.int .u8 k1, .int .u32 i1, .slice a1 len1 cap1] 25)).alloc (.cells #[.int .u8 k2, .int .u32 i2, .slice a2 len2 cap2] 25)) (w.heap.size + 1) k2 i2 (.slice a2 len2 cap2) := heap2 w _ _
  have hB0 : Below w.heap.size w ((w.alloc (.cells #[.int .u8 k1, .int .u32 i1, .slice a1 len1 cap1] 25)).alloc (.cells #[.int .u8 k2, .int .u32 i2, .slice a2 len2 cap2] 25)) := ((Below.refl _ w).alloc (Nat.le_refl _) _).alloc (by simp) _
  have hputx := fun W => put_bad a0 k1 i1 a1 len1 cap1 W hk1 hE
  have hputy := fun W h => put_some a0 k2 i2 a2 len2 cap2 B W hk2 hi2 h hB hlB
  have hin := putE_in a0 k1 len1
  generalize putE a0 k1 len1 = E at *
  have hE' : (E == 0) = false := by simpa using hE
  have hE2 : (E != 0) = true := by simpa using hE
  clear hlB
  go_enter Try.func5, Try.ntmps5
  go_wp2_with fail
  refine (hputx _).mono ?_
  rintro e w1 ⟨rfl, hbe1⟩
  have hy1 := hy0.keep (hbe1.block _ hy0.lt)
  have hB1 := hB0.trans (hbe1.mono hB0.size)
  obtain ⟨y10, y11, y12⟩ := hy1.cells
  go_wp2_with fail
  refine (hputy _ (hb2.grow hB1)).mono ?_
  rintro e w2 ⟨v2, x2, rfl, hbe2⟩
  have hB2 := hB1.trans (hbe2.mono hB1.size)
  clear hputx hputy hx0 hy0 hy1 y10 y11 y12
  go_wp2_with (first | (go_at_call 14; refine (num_any _ _ (by omega) (by omega)).mono ?_; rintro e w9 ⟨rfl, hw9⟩; subst w9) | (go_at_call 9; refine (live_any _).mono ?_; rintro e w3 ⟨rfl, hb3⟩))
  go_ret
  exact ⟨rfl, hB2.trans (hb3.mono hB2.size)⟩
theorem walk (a0 : Int) (k1 : Int) (i1 : Nat) (a1 : Option Addr) (len1 cap1 : Nat) (z1 : List Int) (k2 : Int) (i2 : Nat) (a2 : Option Addr) (len2 cap2 : Nat) (z2 : List Int) (w : World) (w0 : (Lit.int .i64 a0).wf = true) (hk1 : 0 ≤ k1 ∧ k1 < 256) (hi1 : i1 < 2 ^ 32) (w1 : IsRow .u8 w a1 len1 cap1 z1) (hk2 : 0 ≤ k2 ∧ k2 < 256) (hi2 : i2 < 2 ^ 32) (w2 : IsRow .u8 w a2 len2 cap2 z2) :
    Calls Try.prog 5 #[.int .i64 a0, .agg #[.int .u8 k1, .int .u32 i1, .slice a1 len1 cap1], .agg #[.int .u8 k2, .int .u32 i2, .slice a2 len2 cap2]] w fun e w' => e = .returned (.bool true) ∧ Below w.heap.size w w' := by
  by_cases hl : (20000 : Int) < (len1 : Int) ∨ ¬ (20000 : Int) < (len1 : Int) ∧ (20000 : Int) < (len2 : Int)
  · exact out_len a0 k1 k2 i1 i2 a1 a2 len1 cap1 len2 cap2 w hl
  by_cases hE : putE a0 k1 len1 = 0
  · obtain ⟨h1, h2, h3, h4⟩ := putE_zero hE
    obtain ⟨size, rfl⟩ : ∃ s : Nat, a0 = s := ⟨a0.toNat, by omega⟩
    by_cases hE2 : putE size k2 len2 = 0
    · exact main0 size k1 k2 i1 i2 a1 a2 len1 cap1 len2 cap2 _ _ w hk1 hk2 hi1 hi2 w1.bts w2.bts w1.isBytes w2.isBytes w1.len.symm w2.len.symm (by omega) (by omega) hE hE2
    · exact main1 size k1 k2 i1 i2 a1 a2 len1 cap1 len2 cap2 _ _ w hk1 hk2 hi1 hi2 w1.bts w2.bts w1.isBytes w2.isBytes w1.len.symm w2.len.symm (by omega) (by omega) hE hE2
  · exact out_put a0 k1 k2 i1 i2 a1 a2 len1 cap1 len2 cap2 w _ (by omega) (by omega) hk1.1 hk2 hi2 w2.bts w2.isBytes w2.len.symm hE

/-! ### THE ROW's STEP: WRITTEN OUT: LEAVE IT -/
set_option maxRecDepth 100000 in
theorem lifted (os : Os) (started : os.Started) (H : Type) (enc : TypeId × Value → H) :
    ReturnsInHanded {} Try.checked os 5 .any (Rows.pageBackSpec.pre6 enc Try.prog Try.f5 Rows.pageBackRow.domain false) (Rows.pageBackSpec.post enc Try.prog Try.f5 false true false false) := by
  refine returnsInHanded_of_change (C := Try.checked) own started (by kernel_rfl) Try.func5
    (ChangeSpec.witness6 (enc := enc) (C := Try.checked) false ⟨#[], #[.int .i64 0, .agg #[.int .u8 0, .int .u32 0, .slice none 0 0], .agg #[.int .u8 0, .int .u32 0, .slice none 0 0]], []⟩ 8 (by kernel_rfl) (by kernel_rfl) (by kernel_rfl) (by kernel_rfl)) ?_
  intro W base args ds gs before hval0 hW hcnd _
  have hval : ∀ (j : Nat) t v, Try.f5.params[j]? = some t → args[j]? = some v → Value.okWide Try.prog W .any base t v := hval0
  have hW' := hW
  obtain ⟨p, q, hA0, hV, rfl, hfz, hnd⟩ := hW
  have hA : DataW.TrodAll enc Try.prog W 0 (fun _ => true) true Try.f5.params.toList args.toList ds p := hA0
  rw [Try.params5] at hA hval
  obtain ⟨v0, vs0, d0, ds0, p0, q0, hargs, rfl, rfl, h0, r0⟩ := trodAll_cons hA
  obtain ⟨v1, vs1, d1, ds1, p1, q1, rfl, rfl, rfl, h1, r1⟩ := trodAll_cons r0
  obtain ⟨v2, vs2, d2, ds2, p2, q2, rfl, rfl, rfl, h2, r2⟩ := trodAll_cons r1
  obtain ⟨rfl, rfl, rfl⟩ := trodAll_nil r2
  obtain rfl : args = #[v0, v1, v2] := by cases args; simp_all
  obtain ⟨rfl, rfl⟩ := trodVars_none hV
  obtain ⟨a0, rfl, rfl, rfl, w0⟩ := open_int Try.underlying3 (hval 0 3 v0 rfl rfl) h0
  have k1 := h1
  have lt1 : ∀ x ∈ p1, x.block < W.heap.size := by obtain ⟨m, hm⟩ := k1; exact DataW.trod_lt m _ _ _ hm
  obtain ⟨kd1, id1, a1, len1, cap1, z1, rfl, hk1, hi1, w1⟩ := page_arg (hval 1 25 v1 rfl rfl) h1
  have k2 := h2
  have lt2 : ∀ x ∈ p2, x.block < W.heap.size := by obtain ⟨m, hm⟩ := k2; exact DataW.trod_lt m _ _ _ hm
  obtain ⟨kd2, id2, a2, len2, cap2, z2, rfl, hk2, hi2, w2⟩ := page_arg (hval 2 25 v2 rfl rfl) h2
  clear hA0 hval0
  refine (walk a0 kd1 id1 a1 len1 cap1 z1 kd2 id2 a2 len2 cap2 z2 W w0 hk1 hi1 w1 hk2 hi2 w2).mono fun e W' ⟨he, bel⟩ => ?_
  subst he
  exact ⟨_, rfl, _, _, _, [], _, [], hW', trodAll_mk1 (shut_bool Try.underlying4 _), (trodAll_cons_mk (shut_int Try.underlying3 w0) (trodAll_cons_mk (Below.trod laidOut (by kernel_rfl) (of_decide_eq_true (by kernel_rfl)) k1 bel lt1) (trodAll_cons_mk (Below.trod laidOut (by kernel_rfl) (of_decide_eq_true (by kernel_rfl)) k2 bel lt2) trodAll_mk0))), rfl, bel.frame _, fun h => by cases h⟩

theorem over : Rows.pageBackRow.holds Try.pinned (OpenSpec.ofChange Rows.pageBackSpec) :=
  OpenClaim.holds_of_wide 5 Try.f5 rfl rfl rfl rfl rfl rfl rfl ⟨rfl, rfl, rfl, rfl, rfl⟩ rfl rfl rfl rfl rfl (by kernel_rfl) Try.func5 (by kernel_rfl)
    (of_decide_eq_true (by kernel_rfl)) (by unfold Func.isWrapper; first | (rw [if_pos (by decide +kernel)]; kernel_rfl) | (rw [if_neg (by decide +kernel)]; exact ⟨rfl, rfl⟩))
    (fun os started H enc _ => lifted os started H enc)

end Go.Proofs.Ytcgjolonapndgaa.pageBack
namespace Go.Proofs.Ytcgjolonapndgaa
/-- The statement. -/
theorem pageBack_holds : Rows.PageBackSaid := pageBack.over
#print axioms pageBack_holds
end Go.Proofs.Ytcgjolonapndgaa
