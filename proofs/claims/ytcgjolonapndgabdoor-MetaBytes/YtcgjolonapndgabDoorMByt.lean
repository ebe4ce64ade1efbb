/- MetaBytes: every meta as bytes, every bytes as a meta: as the document has it. Conditions: none beyond the row's. -/
import Derived.Test.YtcgjolonapndgabDoorRMGet
import Derived.Test.YtcgjolonapndgabDoorMOpen
import Derived.Test.YtcgjolonapndgabDoorTie
import Derived.Test.YtcgjolonapndgabDoorCards
import Derived.SevenTiedAt
namespace Go.Proofs.YtcgjolonapndgabDoor.metaBytes
open Go.ChangeShapes Go.WideShapes Go.ChangeAt Go.RowKit Go.Maps Go.ChangeMaps Go.MapKept
set_option linter.unusedVariables false
theorem getE_in (bs : List Int) : 0 ≤ getE bs ∧ getE bs ≤ 40 := by
  unfold getE; split <;> omega
set_option maxRecDepth 100000 in
set_option maxHeartbeats 4000000 in
theorem out_len (q : Nat) (r k d : Int) (a1 : Option Addr) (len1 cap1 : Nat) (w : World) (h : (20000 : Int) < (len1 : Int)) :
    Calls Tryd.prog 3 #[.agg #[.int .u64 q, .int .i64 r, .int .i64 k, .int .i64 d], .slice a1 len1 cap1] w fun e w' => e = .returned (.bool true) ∧ Below w.heap.size w w' := by
  have hB0 : Below w.heap.size w (w.alloc (.cells #[.int .u64 q, .int .i64 r, .int .i64 k, .int .i64 d] 24)) := (Below.refl _ w).alloc (Nat.le_refl _) _
  go_enter Tryd.func3, Tryd.ntmps3
  go_wp2_with (first | (go_at_call 9; refine (live_any _).mono ?_; rintro e w2 ⟨rfl, hb2⟩))
  go_ret
  exact ⟨rfl, hB0.trans (hb2.mono hB0.size)⟩
set_option maxRecDepth 100000 in
set_option maxHeartbeats 8000000 in
theorem main (q : Nat) (r k d : Int) (a1 : Option Addr) (len1 cap1 : Nat) (B : List Int) (w : World) (hq : q < 2 ^ 64) (hb1 : Bts w (.slice a1 len1 cap1) B) (hB : IsBytes B) (hlB : len1 = B.length) (hl : len1 ≤ 20000) :
    Calls Tryd.prog 3 #[.agg #[.int .u64 q, .int .i64 r, .int .i64 k, .int .i64 d], .slice a1 len1 cap1] w fun e w' => e = .returned (.bool true) ∧ Below w.heap.size w w' := by
  have g1 : decide ((20000 : Int) < (len1 : Int)) = false := by simp; omega
  have hm0 : MetaAt (w.alloc (.cells #[.int .u64 q, .int .i64 r, .int .i64 k, .int .i64 d] 24)) w.heap.size q r k d := heap_alloc_new w _
  have hB0 : Below w.heap.size w (w.alloc (.cells #[.int .u64 q, .int .i64 r, .int .i64 k, .int .i64 d] 24)) := (Below.refl _ w).alloc (Nat.le_refl _) _
  have hgetu := fun v W h => mget_any v B W h hB
  have hrgetu := fun W => rmget_any B W hB (by omega)
  have hgE := getE_in B
  have hput := fun W => mput_ex q r k d W hq
  have hrput := fun W => rmput_any q r k d W hq
  have hml := metaB_len q r k d
  generalize (getM B).q = gq at *
  generalize (getM B).r = gr at *
  generalize (getM B).k = gk at *
  generalize (getM B).d = gd at *
  generalize getE B = ge at *
  generalize metaB q r k d = MB at *
  replace hlB : Hid _ := hlB
  go_enter Tryd.func3, Tryd.ntmps3
  go_upto_region 3 with fail
  generalize w.alloc (.cells #[.int .u64 q, .int .i64 r, .int .i64 k, .int .i64 d] 24) = W0 at *
  have hb0 := hb1.grow hB0
  go_upto_region 4 with (first
    | (at_builtin; refine appX rfl (.tmp 14) (.tmp 15) rfl W0.heap.size _ (.slice a1 len1 cap1) [] B rfl rfl (own_empty W0) (hb0.alloc _) (by simp) (by rw [← hlB.out]; simp; omega) ?_; intro v2 w2 ho2 hb2 _; rw [List.nil_append] at ho2)
    | (go_at_call 10; refine (hgetu _ _ ho2.bts).mono ?_; rintro e w3 ⟨rfl, hb3⟩))
  have hB02 : Below W0.heap.size W0 w2 := ((Below.refl _ W0).alloc (Nat.le_refl _) _).trans hb2
  have hB03 := hB02.trans (hb3.mono hB02.size)
  have hm3 := hm0.keep (hB03.block _ hm0.lt)
  have hB3 := hB0.trans (hB03.mono hB0.size)
  have hB4 := hB3.alloc hB3.size (.cells #[.int .u64 gq, .int .i64 gr, .int .i64 gk, .int .i64 gd] 24)
  have hm4 : MetaAt (w3.alloc (.cells #[.int .u64 gq, .int .i64 gr, .int .i64 gk, .int .i64 gd] 24)) w.heap.size q r k d := hm3.keep ((heap_alloc w3 _).2 _ hm3.lt)
  have hx4 : MetaAt (w3.alloc (.cells #[.int .u64 gq, .int .i64 gr, .int .i64 gk, .int .i64 gd] 24)) w3.heap.size gq gr gk gd := heap_alloc_new w3 _
  generalize w3.alloc (.cells #[.int .u64 gq, .int .i64 gr, .int .i64 gk, .int .i64 gd] 24) = W4 at *
  generalize w3.heap.size = xb at *
  have hcv := conv_str (hb1.grow hB4)
  clear hB02 hB03 hm3 hB3 hb2 hb3 ho2 hm0 hB0 hb0 hgetu
  go_upto_region 5 with (first | (go_at_call 11; refine (hrgetu _).mono ?_; rintro e w5 ⟨rfl, hb5⟩))
  have hm5 := hm4.keep (hb5.block _ hm4.lt)
  have hx5 := hx4.keep (hb5.block _ hx4.lt)
  have hB5 := hB4.trans (hb5.mono hB4.size)
  have hB6 := hB5.alloc hB5.size (.cells #[.int .u64 gq, .int .i64 gr, .int .i64 gk, .int .i64 gd] 24)
  have hm6 : MetaAt (w5.alloc (.cells #[.int .u64 gq, .int .i64 gr, .int .i64 gk, .int .i64 gd] 24)) w.heap.size q r k d := hm5.keep ((heap_alloc w5 _).2 _ hm5.lt)
  have hx6 : MetaAt (w5.alloc (.cells #[.int .u64 gq, .int .i64 gr, .int .i64 gk, .int .i64 gd] 24)) xb gq gr gk gd := hx5.keep ((heap_alloc w5 _).2 _ hx5.lt)
  have hy6 : MetaAt (w5.alloc (.cells #[.int .u64 gq, .int .i64 gr, .int .i64 gk, .int .i64 gd] 24)) w5.heap.size gq gr gk gd := heap_alloc_new w5 _
  generalize w5.alloc (.cells #[.int .u64 gq, .int .i64 gr, .int .i64 gk, .int .i64 gd] 24) = W6 at *
  generalize w5.heap.size = yb at *
  clear hm5 hx5 hB5 hb5 hm4 hx4 hB4 hcv hrgetu
  have hS : ∀ W, Below W6.heap.size W6 W → (W.cell? ⟨w.heap.size, 0, none⟩ = some (.int .u64 q) ∧ W.cell? ⟨w.heap.size, 1, none⟩ = some (.int .i64 r) ∧ W.cell? ⟨w.heap.size, 2, none⟩ = some (.int .i64 k) ∧ W.cell? ⟨w.heap.size, 3, none⟩ = some (.int .i64 d)) ∧ (W.cell? ⟨xb, 0, none⟩ = some (.int .u64 gq) ∧ W.cell? ⟨xb, 1, none⟩ = some (.int .i64 gr) ∧ W.cell? ⟨xb, 2, none⟩ = some (.int .i64 gk) ∧ W.cell? ⟨xb, 3, none⟩ = some (.int .i64 gd)) ∧ (W.cell? ⟨yb, 0, none⟩ = some (.int .u64 gq) ∧ W.cell? ⟨yb, 1, none⟩ = some (.int .i64 gr) ∧ W.cell? ⟨yb, 2, none⟩ = some (.int .i64 gk) ∧ W.cell? ⟨yb, 3, none⟩ = some (.int .i64 gd)) := fun W h => ⟨(hm6.keep (h.block _ hm6.lt)).cells, (hx6.keep (h.block _ hx6.lt)).cells, (hy6.keep (h.block _ hy6.lt)).cells⟩
  have hb6 := Below.refl W6.heap.size W6
  refine wp_region_noPanic ?_
  refine wp_region_held_drew (S := (fun W : World => (W.cell? ⟨w.heap.size, 0, none⟩ = some (.int .u64 q) ∧ W.cell? ⟨w.heap.size, 1, none⟩ = some (.int .i64 r) ∧ W.cell? ⟨w.heap.size, 2, none⟩ = some (.int .i64 k) ∧ W.cell? ⟨w.heap.size, 3, none⟩ = some (.int .i64 d)) ∧ (W.cell? ⟨xb, 0, none⟩ = some (.int .u64 gq) ∧ W.cell? ⟨xb, 1, none⟩ = some (.int .i64 gr) ∧ W.cell? ⟨xb, 2, none⟩ = some (.int .i64 gk) ∧ W.cell? ⟨xb, 3, none⟩ = some (.int .i64 gd)) ∧ (W.cell? ⟨yb, 0, none⟩ = some (.int .u64 gq) ∧ W.cell? ⟨yb, 1, none⟩ = some (.int .i64 gr) ∧ W.cell? ⟨yb, 2, none⟩ = some (.int .i64 gk) ∧ W.cell? ⟨yb, 3, none⟩ = some (.int .i64 gd)))) (by kernel_rfl) (hS _ hb6.drew) (fun hHeld => ?_)
  have hS6 : (fun W : World => (W.cell? ⟨w.heap.size, 0, none⟩ = some (.int .u64 q) ∧ W.cell? ⟨w.heap.size, 1, none⟩ = some (.int .i64 r) ∧ W.cell? ⟨w.heap.size, 2, none⟩ = some (.int .i64 k) ∧ W.cell? ⟨w.heap.size, 3, none⟩ = some (.int .i64 d)) ∧ (W.cell? ⟨xb, 0, none⟩ = some (.int .u64 gq) ∧ W.cell? ⟨xb, 1, none⟩ = some (.int .i64 gr) ∧ W.cell? ⟨xb, 2, none⟩ = some (.int .i64 gk) ∧ W.cell? ⟨xb, 3, none⟩ = some (.int .i64 gd)) ∧ (W.cell? ⟨yb, 0, none⟩ = some (.int .u64 gq) ∧ W.cell? ⟨yb, 1, none⟩ = some (.int .i64 gr) ∧ W.cell? ⟨yb, 2, none⟩ = some (.int .i64 gk) ∧ W.cell? ⟨yb, 3, none⟩ = some (.int .i64 gd))) W6.drew := hS _ hb6.drew
  refine takeW (i := 0) (v := ?_) (some 26) rfl (by kernel_rfl) (by kernel_rfl) (by kernel_rfl) (by kernel_rfl) (by kernel_rfl) (by assumption) ?_ ?_
  rotate_left
  · intro w hSw; (try dsimp only at hSw); go_simp; try with_reducible rfl
  try simp only [Act.put, List.setIfInBounds_toArray, List.set_cons_zero, List.set_cons_succ]
  refine takeW (i := 3) (v := ?_) (some 29) rfl (by kernel_rfl) (by kernel_rfl) (by kernel_rfl) (by kernel_rfl) (by kernel_rfl) (by assumption) ?_ ?_
  rotate_left
  · intro w hSw; (try dsimp only at hSw); go_simp; try with_reducible rfl
  try simp only [Act.put, List.setIfInBounds_toArray, List.set_cons_zero, List.set_cons_succ]
  refine wpAnyH_ready (rs := [1]) (by kernel_rfl) (by simp) ?_
  refine AllReadyH.cons rfl (fun K hK => ?_) AllReadyH.nil
  go_simp
  refine (hput _).mono ?_
  rintro e w7 ⟨b7, rfl, hg7, hrow7, hb67⟩
  have hb7 : Below W6.heap.size W6 w7 := hb6.drew.trans hb67
  have hbt := hrow7.bts
  rw [hml] at hbt
  have hcv := conv_str hbt
  have hS7 : (fun W : World => (W.cell? ⟨w.heap.size, 0, none⟩ = some (.int .u64 q) ∧ W.cell? ⟨w.heap.size, 1, none⟩ = some (.int .i64 r) ∧ W.cell? ⟨w.heap.size, 2, none⟩ = some (.int .i64 k) ∧ W.cell? ⟨w.heap.size, 3, none⟩ = some (.int .i64 d)) ∧ (W.cell? ⟨xb, 0, none⟩ = some (.int .u64 gq) ∧ W.cell? ⟨xb, 1, none⟩ = some (.int .i64 gr) ∧ W.cell? ⟨xb, 2, none⟩ = some (.int .i64 gk) ∧ W.cell? ⟨xb, 3, none⟩ = some (.int .i64 gd)) ∧ (W.cell? ⟨yb, 0, none⟩ = some (.int .u64 gq) ∧ W.cell? ⟨yb, 1, none⟩ = some (.int .i64 gr) ∧ W.cell? ⟨yb, 2, none⟩ = some (.int .i64 gk) ∧ W.cell? ⟨yb, 3, none⟩ = some (.int .i64 gd))) w7 := hS _ hb7
  refine hK.out _ _ hS7 (fun hHeld => ?_)
  clear hK K
  try simp only [Act.put, List.setIfInBounds_toArray, List.set_cons_zero, List.set_cons_succ]
  refine wpAnyH_ready (rs := [2, 4]) (by kernel_rfl) (by simp) ?_
  refine AllReadyH.cons rfl (fun K hK => ?_) (AllReadyH.cons rfl (fun K hK => ?_) AllReadyH.nil)
  · as_aux_lemma =>
    go_simp
    refine hK.out _ _ (by assumption) (fun hHeld => ?_)
    clear hK K
    try simp only [Act.put, List.setIfInBounds_toArray, List.set_cons_zero, List.set_cons_succ]
    refine wpAnyH_ready (rs := [4]) (by kernel_rfl) (by simp) ?_
    refine AllReadyH.cons rfl (fun K hK => ?_) AllReadyH.nil
    go_simp
    refine (hrput _).mono ?_
    rintro e w8 ⟨rfl, hb78⟩
    have hb8 : Below W6.heap.size W6 w8 := hb7.trans (hb78.mono hb7.size)
    have hcv8 := conv_str (hbt.grow hb78)
    have hS8 : (fun W : World => (W.cell? ⟨w.heap.size, 0, none⟩ = some (.int .u64 q) ∧ W.cell? ⟨w.heap.size, 1, none⟩ = some (.int .i64 r) ∧ W.cell? ⟨w.heap.size, 2, none⟩ = some (.int .i64 k) ∧ W.cell? ⟨w.heap.size, 3, none⟩ = some (.int .i64 d)) ∧ (W.cell? ⟨xb, 0, none⟩ = some (.int .u64 gq) ∧ W.cell? ⟨xb, 1, none⟩ = some (.int .i64 gr) ∧ W.cell? ⟨xb, 2, none⟩ = some (.int .i64 gk) ∧ W.cell? ⟨xb, 3, none⟩ = some (.int .i64 gd)) ∧ (W.cell? ⟨yb, 0, none⟩ = some (.int .u64 gq) ∧ W.cell? ⟨yb, 1, none⟩ = some (.int .i64 gr) ∧ W.cell? ⟨yb, 2, none⟩ = some (.int .i64 gk) ∧ W.cell? ⟨yb, 3, none⟩ = some (.int .i64 gd))) w8 := hS _ hb8
    refine hK.out _ _ hS8 (fun hHeld => ?_)
    clear hK K
    try simp only [Act.put, List.setIfInBounds_toArray, List.set_cons_zero, List.set_cons_succ]
    refine takeW (i := 5) (v := ?_) (some 31) rfl (by kernel_rfl) (by kernel_rfl) (by kernel_rfl) (by kernel_rfl) (by kernel_rfl) (by assumption) ?_ ?_
    rotate_left
    · intro w hSw; (try dsimp only at hSw); go_simp; try with_reducible rfl
    try simp only [Act.put, List.setIfInBounds_toArray, List.set_cons_zero, List.set_cons_succ]
    refine takeW (i := 6) (v := ?_) (some 32) rfl (by kernel_rfl) (by kernel_rfl) (by kernel_rfl) (by kernel_rfl) (by kernel_rfl) (by assumption) ?_ ?_
    rotate_left
    · intro w hSw; (try dsimp only at hSw); go_simp; try with_reducible rfl
    try simp only [Act.put, List.setIfInBounds_toArray, List.set_cons_zero, List.set_cons_succ]
    refine takeW (i := 7) (v := ?_) (some 33) rfl (by kernel_rfl) (by kernel_rfl) (by kernel_rfl) (by kernel_rfl) (by kernel_rfl) (by assumption) ?_ ?_
    rotate_left
    · intro w hSw; (try dsimp only at hSw); go_simp; try with_reducible rfl
    try simp only [Act.put, List.setIfInBounds_toArray, List.set_cons_zero, List.set_cons_succ]
    refine takeW (i := 8) (v := ?_) (some 34) rfl (by kernel_rfl) (by kernel_rfl) (by kernel_rfl) (by kernel_rfl) (by kernel_rfl) (by assumption) ?_ ?_
    rotate_left
    · intro w hSw; (try dsimp only at hSw); go_simp; try with_reducible rfl
    try simp only [Act.put, List.setIfInBounds_toArray, List.set_cons_zero, List.set_cons_succ]
    refine takeW (i := 9) (v := ?_) (some 35) rfl (by kernel_rfl) (by kernel_rfl) (by kernel_rfl) (by kernel_rfl) (by kernel_rfl) (by assumption) ?_ ?_
    rotate_left
    · intro w hSw; (try dsimp only at hSw); go_simp; try with_reducible rfl
    try simp only [Act.put, List.setIfInBounds_toArray, List.set_cons_zero, List.set_cons_succ]
    refine takeW (i := 10) (v := ?_) (some 36) rfl (by kernel_rfl) (by kernel_rfl) (by kernel_rfl) (by kernel_rfl) (by kernel_rfl) (by assumption) ?_ ?_
    rotate_left
    · intro w hSw; (try dsimp only at hSw); go_simp; try with_reducible rfl
    try simp only [Act.put, List.setIfInBounds_toArray, List.set_cons_zero, List.set_cons_succ]
    refine takeW (i := 11) (v := ?_) (some 37) rfl (by kernel_rfl) (by kernel_rfl) (by kernel_rfl) (by kernel_rfl) (by kernel_rfl) (by assumption) ?_ ?_
    rotate_left
    · intro w hSw; (try dsimp only at hSw); go_simp; try with_reducible rfl
    try simp only [Act.put, List.setIfInBounds_toArray, List.set_cons_zero, List.set_cons_succ]
    refine takeW (i := 12) (v := ?_) (some 38) rfl (by kernel_rfl) (by kernel_rfl) (by kernel_rfl) (by kernel_rfl) (by kernel_rfl) (by assumption) ?_ ?_
    rotate_left
    · intro w hSw; (try dsimp only at hSw); go_simp; try with_reducible rfl
    try simp only [Act.put, List.setIfInBounds_toArray, List.set_cons_zero, List.set_cons_succ]
    refine takeW (i := 14) (v := ?_) (some 40) rfl (by kernel_rfl) (by kernel_rfl) (by kernel_rfl) (by kernel_rfl) (by kernel_rfl) (by assumption) ?_ ?_
    rotate_left
    · intro w hSw; (try dsimp only at hSw); go_simp; try with_reducible rfl
    try simp only [Act.put, List.setIfInBounds_toArray, List.set_cons_zero, List.set_cons_succ]
    refine wpAnyH_ready (rs := [13]) (by kernel_rfl) (by simp) ?_
    refine AllReadyH.cons rfl (fun K hK => ?_) AllReadyH.nil
    go_simp
    refine (num_any _ _ (by omega) (by omega)).mono ?_
    rintro e w' ⟨rfl, hw'⟩
    subst w'
    refine hK.out _ _ hS8 (fun hHeld => ?_)
    clear hK K
    try simp only [Act.put, List.setIfInBounds_toArray, List.set_cons_zero, List.set_cons_succ]
    refine takeW (i := 15) (v := ?_) (some 41) rfl (by kernel_rfl) (by kernel_rfl) (by kernel_rfl) (by kernel_rfl) (by kernel_rfl) (by assumption) ?_ ?_
    rotate_left
    · intro w hSw; (try dsimp only at hSw); go_simp; try with_reducible rfl
    try simp only [Act.put, List.setIfInBounds_toArray, List.set_cons_zero, List.set_cons_succ]
    refine takeW (i := 16) (v := ?_) (some 42) rfl (by kernel_rfl) (by kernel_rfl) (by kernel_rfl) (by kernel_rfl) (by kernel_rfl) (by assumption) ?_ ?_
    rotate_left
    · intro w hSw; (try dsimp only at hSw); go_simp; try with_reducible rfl
    try simp only [Act.put, List.setIfInBounds_toArray, List.set_cons_zero, List.set_cons_succ]
    refine takeW (i := 17) (v := ?_) (some 43) rfl (by kernel_rfl) (by kernel_rfl) (by kernel_rfl) (by kernel_rfl) (by kernel_rfl) (by assumption) ?_ ?_
    rotate_left
    · intro w hSw; (try dsimp only at hSw); go_simp; try with_reducible rfl
    try simp only [Act.put, List.setIfInBounds_toArray, List.set_cons_zero, List.set_cons_succ]
    refine wpAnyH_ready (rs := [18]) (by kernel_rfl) (by simp) ?_
    refine AllReadyH.cons rfl (fun K hK => ?_) AllReadyH.nil
    go_simp
    refine (live_any _).mono ?_
    rintro e w9 ⟨rfl, hb89⟩
    have hb9 : Below W6.heap.size W6 w9 := hb8.trans (hb89.mono hb8.size)
    have hS9 : (fun W : World => (W.cell? ⟨w.heap.size, 0, none⟩ = some (.int .u64 q) ∧ W.cell? ⟨w.heap.size, 1, none⟩ = some (.int .i64 r) ∧ W.cell? ⟨w.heap.size, 2, none⟩ = some (.int .i64 k) ∧ W.cell? ⟨w.heap.size, 3, none⟩ = some (.int .i64 d)) ∧ (W.cell? ⟨xb, 0, none⟩ = some (.int .u64 gq) ∧ W.cell? ⟨xb, 1, none⟩ = some (.int .i64 gr) ∧ W.cell? ⟨xb, 2, none⟩ = some (.int .i64 gk) ∧ W.cell? ⟨xb, 3, none⟩ = some (.int .i64 gd)) ∧ (W.cell? ⟨yb, 0, none⟩ = some (.int .u64 gq) ∧ W.cell? ⟨yb, 1, none⟩ = some (.int .i64 gr) ∧ W.cell? ⟨yb, 2, none⟩ = some (.int .i64 gk) ∧ W.cell? ⟨yb, 3, none⟩ = some (.int .i64 gd))) w9 := hS _ hb9
    refine hK.out _ _ hS9 (fun hHeld => ?_)
    clear hK K
    try simp only [Act.put, List.setIfInBounds_toArray, List.set_cons_zero, List.set_cons_succ]
    refine takeW (i := 19) (v := ?_) (some 45) rfl (by kernel_rfl) (by kernel_rfl) (by kernel_rfl) (by kernel_rfl) (by kernel_rfl) (by assumption) ?_ ?_
    rotate_left
    · intro w hSw; (try dsimp only at hSw); go_simp; try with_reducible rfl
    try simp only [Act.put, List.setIfInBounds_toArray, List.set_cons_zero, List.set_cons_succ]
    refine takeW (i := 20) (v := ?_) (some 4) rfl (by kernel_rfl) (by kernel_rfl) (by kernel_rfl) (by kernel_rfl) (by kernel_rfl) (by assumption) ?_ ?_
    rotate_left
    · intro w hSw; (try dsimp only at hSw); go_simp; try with_reducible rfl
    try simp only [Act.put, List.setIfInBounds_toArray, List.set_cons_zero, List.set_cons_succ]
    refine wpAnyH_done (by kernel_rfl) ?_ _
    refine NoPanic.normal ?_
    go_wp2_with fail
    go_ret
    exact ⟨rfl, hB6.trans (hb9.mono hB6.size)⟩
  · as_aux_lemma =>
    go_simp
    refine (hrput _).mono ?_
    rintro e w8 ⟨rfl, hb78⟩
    have hb8 : Below W6.heap.size W6 w8 := hb7.trans (hb78.mono hb7.size)
    have hcv8 := conv_str (hbt.grow hb78)
    have hS8 : (fun W : World => (W.cell? ⟨w.heap.size, 0, none⟩ = some (.int .u64 q) ∧ W.cell? ⟨w.heap.size, 1, none⟩ = some (.int .i64 r) ∧ W.cell? ⟨w.heap.size, 2, none⟩ = some (.int .i64 k) ∧ W.cell? ⟨w.heap.size, 3, none⟩ = some (.int .i64 d)) ∧ (W.cell? ⟨xb, 0, none⟩ = some (.int .u64 gq) ∧ W.cell? ⟨xb, 1, none⟩ = some (.int .i64 gr) ∧ W.cell? ⟨xb, 2, none⟩ = some (.int .i64 gk) ∧ W.cell? ⟨xb, 3, none⟩ = some (.int .i64 gd)) ∧ (W.cell? ⟨yb, 0, none⟩ = some (.int .u64 gq) ∧ W.cell? ⟨yb, 1, none⟩ = some (.int .i64 gr) ∧ W.cell? ⟨yb, 2, none⟩ = some (.int .i64 gk) ∧ W.cell? ⟨yb, 3, none⟩ = some (.int .i64 gd))) w8 := hS _ hb8
    refine hK.out _ _ hS8 (fun hHeld => ?_)
    clear hK K
    try simp only [Act.put, List.setIfInBounds_toArray, List.set_cons_zero, List.set_cons_succ]
    refine wpAnyH_ready (rs := [2]) (by kernel_rfl) (by simp) ?_
    refine AllReadyH.cons rfl (fun K hK => ?_) AllReadyH.nil
    go_simp
    refine hK.out _ _ (by assumption) (fun hHeld => ?_)
    clear hK K
    try simp only [Act.put, List.setIfInBounds_toArray, List.set_cons_zero, List.set_cons_succ]
    refine takeW (i := 5) (v := ?_) (some 31) rfl (by kernel_rfl) (by kernel_rfl) (by kernel_rfl) (by kernel_rfl) (by kernel_rfl) (by assumption) ?_ ?_
    rotate_left
    · intro w hSw; (try dsimp only at hSw); go_simp; try with_reducible rfl
    try simp only [Act.put, List.setIfInBounds_toArray, List.set_cons_zero, List.set_cons_succ]
    refine takeW (i := 6) (v := ?_) (some 32) rfl (by kernel_rfl) (by kernel_rfl) (by kernel_rfl) (by kernel_rfl) (by kernel_rfl) (by assumption) ?_ ?_
    rotate_left
    · intro w hSw; (try dsimp only at hSw); go_simp; try with_reducible rfl
    try simp only [Act.put, List.setIfInBounds_toArray, List.set_cons_zero, List.set_cons_succ]
    refine takeW (i := 7) (v := ?_) (some 33) rfl (by kernel_rfl) (by kernel_rfl) (by kernel_rfl) (by kernel_rfl) (by kernel_rfl) (by assumption) ?_ ?_
    rotate_left
    · intro w hSw; (try dsimp only at hSw); go_simp; try with_reducible rfl
    try simp only [Act.put, List.setIfInBounds_toArray, List.set_cons_zero, List.set_cons_succ]
    refine takeW (i := 8) (v := ?_) (some 34) rfl (by kernel_rfl) (by kernel_rfl) (by kernel_rfl) (by kernel_rfl) (by kernel_rfl) (by assumption) ?_ ?_
    rotate_left
    · intro w hSw; (try dsimp only at hSw); go_simp; try with_reducible rfl
    try simp only [Act.put, List.setIfInBounds_toArray, List.set_cons_zero, List.set_cons_succ]
    refine takeW (i := 9) (v := ?_) (some 35) rfl (by kernel_rfl) (by kernel_rfl) (by kernel_rfl) (by kernel_rfl) (by kernel_rfl) (by assumption) ?_ ?_
    rotate_left
    · intro w hSw; (try dsimp only at hSw); go_simp; try with_reducible rfl
    try simp only [Act.put, List.setIfInBounds_toArray, List.set_cons_zero, List.set_cons_succ]
    refine takeW (i := 10) (v := ?_) (some 36) rfl (by kernel_rfl) (by kernel_rfl) (by kernel_rfl) (by kernel_rfl) (by kernel_rfl) (by assumption) ?_ ?_
    rotate_left
    · intro w hSw; (try dsimp only at hSw); go_simp; try with_reducible rfl
    try simp only [Act.put, List.setIfInBounds_toArray, List.set_cons_zero, List.set_cons_succ]
    refine takeW (i := 11) (v := ?_) (some 37) rfl (by kernel_rfl) (by kernel_rfl) (by kernel_rfl) (by kernel_rfl) (by kernel_rfl) (by assumption) ?_ ?_
    rotate_left
    · intro w hSw; (try dsimp only at hSw); go_simp; try with_reducible rfl
    try simp only [Act.put, List.setIfInBounds_toArray, List.set_cons_zero, List.set_cons_succ]
    refine takeW (i := 12) (v := ?_) (some 38) rfl (by kernel_rfl) (by kernel_rfl) (by kernel_rfl) (by kernel_rfl) (by kernel_rfl) (by assumption) ?_ ?_
    rotate_left
    · intro w hSw; (try dsimp only at hSw); go_simp; try with_reducible rfl
    try simp only [Act.put, List.setIfInBounds_toArray, List.set_cons_zero, List.set_cons_succ]
    refine takeW (i := 14) (v := ?_) (some 40) rfl (by kernel_rfl) (by kernel_rfl) (by kernel_rfl) (by kernel_rfl) (by kernel_rfl) (by assumption) ?_ ?_
    rotate_left
    · intro w hSw; (try dsimp only at hSw); go_simp; try with_reducible rfl
    try simp only [Act.put, List.setIfInBounds_toArray, List.set_cons_zero, List.set_cons_succ]
    refine wpAnyH_ready (rs := [13]) (by kernel_rfl) (by simp) ?_
    refine AllReadyH.cons rfl (fun K hK => ?_) AllReadyH.nil
    go_simp
    refine (num_any _ _ (by omega) (by omega)).mono ?_
    rintro e w' ⟨rfl, hw'⟩
    subst w'
    refine hK.out _ _ hS8 (fun hHeld => ?_)
    clear hK K
    try simp only [Act.put, List.setIfInBounds_toArray, List.set_cons_zero, List.set_cons_succ]
    refine takeW (i := 15) (v := ?_) (some 41) rfl (by kernel_rfl) (by kernel_rfl) (by kernel_rfl) (by kernel_rfl) (by kernel_rfl) (by assumption) ?_ ?_
    rotate_left
    · intro w hSw; (try dsimp only at hSw); go_simp; try with_reducible rfl
    try simp only [Act.put, List.setIfInBounds_toArray, List.set_cons_zero, List.set_cons_succ]
    refine takeW (i := 16) (v := ?_) (some 42) rfl (by kernel_rfl) (by kernel_rfl) (by kernel_rfl) (by kernel_rfl) (by kernel_rfl) (by assumption) ?_ ?_
    rotate_left
    · intro w hSw; (try dsimp only at hSw); go_simp; try with_reducible rfl
    try simp only [Act.put, List.setIfInBounds_toArray, List.set_cons_zero, List.set_cons_succ]
    refine takeW (i := 17) (v := ?_) (some 43) rfl (by kernel_rfl) (by kernel_rfl) (by kernel_rfl) (by kernel_rfl) (by kernel_rfl) (by assumption) ?_ ?_
    rotate_left
    · intro w hSw; (try dsimp only at hSw); go_simp; try with_reducible rfl
    try simp only [Act.put, List.setIfInBounds_toArray, List.set_cons_zero, List.set_cons_succ]
    refine wpAnyH_ready (rs := [18]) (by kernel_rfl) (by simp) ?_
    refine AllReadyH.cons rfl (fun K hK => ?_) AllReadyH.nil
    go_simp
    refine (live_any _).mono ?_
    rintro e w9 ⟨rfl, hb89⟩
    have hb9 : Below W6.heap.size W6 w9 := hb8.trans (hb89.mono hb8.size)
    have hS9 : (fun W : World => (W.cell? ⟨w.heap.size, 0, none⟩ = some (.int .u64 q) ∧ W.cell? ⟨w.heap.size, 1, none⟩ = some (.int .i64 r) ∧ W.cell? ⟨w.heap.size, 2, none⟩ = some (.int .i64 k) ∧ W.cell? ⟨w.heap.size, 3, none⟩ = some (.int .i64 d)) ∧ (W.cell? ⟨xb, 0, none⟩ = some (.int .u64 gq) ∧ W.cell? ⟨xb, 1, none⟩ = some (.int .i64 gr) ∧ W.cell? ⟨xb, 2, none⟩ = some (.int .i64 gk) ∧ W.cell? ⟨xb, 3, none⟩ = some (.int .i64 gd)) ∧ (W.cell? ⟨yb, 0, none⟩ = some (.int .u64 gq) ∧ W.cell? ⟨yb, 1, none⟩ = some (.int .i64 gr) ∧ W.cell? ⟨yb, 2, none⟩ = some (.int .i64 gk) ∧ W.cell? ⟨yb, 3, none⟩ = some (.int .i64 gd))) w9 := hS _ hb9
    refine hK.out _ _ hS9 (fun hHeld => ?_)
    clear hK K
    try simp only [Act.put, List.setIfInBounds_toArray, List.set_cons_zero, List.set_cons_succ]
    refine takeW (i := 19) (v := ?_) (some 45) rfl (by kernel_rfl) (by kernel_rfl) (by kernel_rfl) (by kernel_rfl) (by kernel_rfl) (by assumption) ?_ ?_
    rotate_left
    · intro w hSw; (try dsimp only at hSw); go_simp; try with_reducible rfl
    try simp only [Act.put, List.setIfInBounds_toArray, List.set_cons_zero, List.set_cons_succ]
    refine takeW (i := 20) (v := ?_) (some 4) rfl (by kernel_rfl) (by kernel_rfl) (by kernel_rfl) (by kernel_rfl) (by kernel_rfl) (by assumption) ?_ ?_
    rotate_left
    · intro w hSw; (try dsimp only at hSw); go_simp; try with_reducible rfl
    try simp only [Act.put, List.setIfInBounds_toArray, List.set_cons_zero, List.set_cons_succ]
    refine wpAnyH_done (by kernel_rfl) ?_ _
    refine NoPanic.normal ?_
    go_wp2_with fail
    go_ret
    exact ⟨rfl, hB6.trans (hb9.mono hB6.size)⟩
theorem walk (q : Nat) (r k d : Int) (a1 : Option Addr) (len1 cap1 : Nat) (z1 : List Int) (w : World) (hq : q < 2 ^ 64) (hr : In6 r) (hk : In6 k) (hd : In6 d) (w1 : IsRow .u8 w a1 len1 cap1 z1) :
    Calls Tryd.prog 3 #[.agg #[.int .u64 q, .int .i64 r, .int .i64 k, .int .i64 d], .slice a1 len1 cap1] w fun e w' => e = .returned (.bool true) ∧ Below w.heap.size w w' := by
  by_cases hl : (20000 : Int) < (len1 : Int)
  · exact out_len q r k d a1 len1 cap1 w hl
  · exact main q r k d a1 len1 cap1 _ w hq w1.bts w1.isBytes w1.len.symm (by omega)
/-! ### THE ROW's STEP -/
theorem own : ownKnob Tryd.prog.godebug = none := by kernel_rfl
theorem laidOut : laidOutB Tryd.prog = true := by kernel_rfl
set_option maxRecDepth 100000 in
theorem lifted (os : Os) (started : os.Started) (H : Type) (enc : TypeId × Value → H) :
    ReturnsInHanded {} Tryd.checked os 3 .any (fun w args => (Rows.metaBytesSpec.pre enc Tryd.prog Tryd.f3 [] false w args ∧ laidMetH Tryd.prog laidV w) ∧ sizedMet enc Tryd.prog Tryd.f3 (OpenSpec.ofChange Rows.metaBytesSpec) false w args)
      (Rows.metaBytesSpec.post enc Tryd.prog Tryd.f3 false true false false) := by
  refine returnsInHanded_of_change_and (C := Tryd.checked) (X := fun w _ => laidMetH Tryd.prog laidV w) (fun _ _ _ hh h => h.of_heap hh) own started (by kernel_rfl) Tryd.func3
    (ChangeSpec.witness_shaped (enc := enc) (C := Tryd.checked) (os := os) (X := fun w _ => laidMetH Tryd.prog laidV w) false (World.laidAll Tryd.prog os laidV) #[.agg #[.int .u64 0, .int .i64 0, .int .i64 0, .int .i64 0], .slice none 0 0] 8 (World.laidAll_os _ _ _)
      (World.shaped_of_ZipB (by kernel_rfl) (by kernel_rfl)) (by kernel_rfl) (by kernel_rfl) (by kernel_rfl) (laidV_ok os _)) ?_
  intro W base args ds gs before hval0 hW _ _ hL _
  have hval : ∀ (j : Nat) t v, Tryd.f3.params[j]? = some t → args[j]? = some v → Value.okWide Tryd.prog W .any base t v := hval0
  have hW' := hW
  obtain ⟨p, q, hA0, hV, rfl, _, _⟩ := hW
  have hA : DataW.TrodAll enc Tryd.prog W 0 (fun _ => true) true Tryd.f3.params.toList args.toList ds p := hA0
  rw [Tryd.params3] at hA hval
  obtain ⟨v0, vs0, d0, ds0, p0, q0, hargs, rfl, rfl, h0, r0⟩ := trodAll_cons hA
  obtain ⟨v1, vs1, d1, ds1, p1, q1, rfl, rfl, rfl, h1, r1⟩ := trodAll_cons r0
  obtain ⟨rfl, rfl, rfl⟩ := trodAll_nil r1
  obtain rfl : args = #[v0, v1] := by cases args; simp_all
  obtain ⟨rfl, rfl⟩ := trodVars_none hV
  have k0 := h0
  have lt0 : ∀ x ∈ p0, x.block < W.heap.size := by obtain ⟨m, hm⟩ := k0; exact DataW.trod_lt m _ _ _ hm
  obtain ⟨q0', r0', k0', d0', rfl, b00, b01, b02, b03⟩ := meta_arg (hval 0 24 v0 rfl rfl) h0
  obtain ⟨a1, len1, cap1, rfl⟩ := okWide_slice Tryd.underlying25 (hval 1 25 v1 rfl rfl)
  have k1 := h1
  have lt1 : ∀ x ∈ p1, x.block < W.heap.size := by obtain ⟨m, hm⟩ := k1; exact DataW.trod_lt m _ _ _ hm
  obtain ⟨z1, w1⟩ : ∃ zs, IsRow .u8 W a1 len1 cap1 zs := by
    obtain ⟨fuel, hf⟩ := h1
    obtain ⟨x, l, c, zs, e, hr⟩ := bytes_of_trod hf
    cases e
    exact ⟨zs, hr⟩
  clear hA0 hval0 hL
  refine (walk q0' r0' k0' d0' a1 len1 cap1 z1 W b00 b01 b02 b03 w1).mono fun e W' ⟨he, bel⟩ => ?_
  subst he
  exact ⟨_, rfl, _, _, _, [], _, [], hW', trodAll_mk1 (shut_bool Tryd.underlying4 _), (trodAll_cons_mk (Below.trod laidOut (by kernel_rfl) (of_decide_eq_true (by kernel_rfl)) k0 bel lt0) (trodAll_cons_mk (Below.trod laidOut (by kernel_rfl) (of_decide_eq_true (by kernel_rfl)) k1 bel lt1) trodAll_mk0)), rfl, bel.frame _, fun h => by cases h⟩

theorem over : Rows.MetaBytesSaid :=
  OpenClaim.holds_of_wide 3 Tryd.f3 rfl rfl rfl rfl rfl rfl rfl ⟨rfl, rfl, rfl, rfl, rfl⟩ rfl rfl rfl rfl rfl (by kernel_rfl) Tryd.func3 (by kernel_rfl)
    (of_decide_eq_true (by kernel_rfl)) (by unfold Func.isWrapper; first | (rw [if_pos (by decide +kernel)]; kernel_rfl) | (rw [if_neg (by decide +kernel)]; exact ⟨rfl, rfl⟩))
    (fun os started H enc _ => lifted os started H enc)
end Go.Proofs.YtcgjolonapndgabDoor.metaBytes
namespace Go.Proofs.YtcgjolonapndgabDoor
open Go
/-- The card. -/
theorem metaBytes_card : Rows.MetaBytesCardSaid :=
  Claim7.holds_tied_plain_at .later [] [.data, .pinned] true (true, "95dc7a7c040b1451739586a7f6944ef4aae404b000e64647a562c9b24fc2bce7") false metaBytes.over (fun _ h => by cases h) (by kernel_rfl) (fun _ h => by cases h) metaBytes_row_tie rfl ⟨rfl, rfl⟩ (by kernel_rfl) rfl
    (fun f fn hf hfn => by
      obtain rfl : f = 3 := Option.some.inj ((show Tryd.prog.funcNamed "klaxon/klaxonlaw04.MetaBytes" = some 3 by kernel_rfl).symm.trans hf) |>.symm
      obtain rfl : fn = Tryd.f3 := (Option.some.inj (Tryd.func3.symm.trans hfn)).symm
      exact ⟨by kernel_rfl, fun j t ht => by
        rw [Tryd.params3] at ht
        have hm : t ∈ [24, 25] := by simpa using Array.mem_of_getElem? ht
        have hall : ([24, 25].all fun u => !Tryd.prog.wantsStandIn u) = true := by kernel_rfl
        exact (show Tryd.prog.wantsStandIn t = false by simpa using List.all_eq_true.1 hall t hm)⟩)
    (by kernel_rfl)
#print axioms metaBytes_card
end Go.Proofs.YtcgjolonapndgabDoor
