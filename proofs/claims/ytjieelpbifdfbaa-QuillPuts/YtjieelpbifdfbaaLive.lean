/- live(): the first line of every statement of this stage answers true; nothing that was there has turned. -/
import Derived.Test.YtjieelpbifdfbaaTakeT
import Derived.Test.YtjieelpbifdfbaaTell
import Derived.Test.YtjieelpbifdfbaaMark
import Derived.Lib.SlBytesConst
namespace Go.Proofs.Ytjieelpbifdfbaa
open Go.RowKit
theorem live_enc : cat enc [300] = [130, 44] := by decide +kernel
theorem live_encS : cat encS [-1] = [45, 1] := by decide +kernel
theorem live_bytes : IsBytes [130, 44, 45, 1] := by intro c hc; simp at hc; omega
theorem live_bytes2 : IsBytes [128, 1] := by intro c hc; simp at hc; omega
section
variable {lo g : Nat} {w : World}
theorem live1 (hs : IsStrip w lo g [130, 44, 45, 1] 0 0) : Calls Try.prog 21 #[.pointer (some ⟨g, 0, none⟩)] w fun e w' => e = .returned (.int .u64 300) ∧ IsStrip w' lo g [130, 44, 45, 1] 2 0 ∧ w.grownBy w' (some g) :=
  stripNumber_any lo g [130, 44, 45, 1] 0 0 w hs live_bytes (by simp)
theorem live2 (hs : IsStrip w lo g [130, 44, 45, 1] 2 0) : Calls Try.prog 23 #[.pointer (some ⟨g, 0, none⟩)] w fun e w' => e = .returned (.int .i64 (-1)) ∧ IsStrip w' lo g [130, 44, 45, 1] 4 0 ∧ w.grownBy w' (some g) :=
  stripSigned_any lo g [130, 44, 45, 1] 2 0 w hs live_bytes (by simp)
theorem live3 (hs : IsStrip w lo g [128, 1] 0 0) : Calls Try.prog 21 #[.pointer (some ⟨g, 0, none⟩)] w fun e w' => e = .returned (.int .u64 0) ∧ IsStrip w' lo g [128, 1] 0 10 ∧ w.grownBy w' (some g) :=
  stripNumber_any lo g [128, 1] 0 0 w hs live_bytes2 (by simp)
theorem live4 (hs : IsStrip w lo g [130, 44, 45, 1] 4 0) : Calls Try.prog 33 #[.pointer (some ⟨g, 0, none⟩)] w fun e w' => e = .returned (.int .i64 0) ∧ ∃ m, w' = w.drewN m :=
  over_any lo g [130, 44, 45, 1] 4 0 w hs (by simp)
theorem live5 (hs : IsStrip w lo g [128, 1] 0 10) : Calls Try.prog 29 #[.pointer (some ⟨g, 0, none⟩)] w fun e w' => e = .returned (.tuple #[.int .i64 10, .int .i64 0]) ∧ ∃ m, w' = w.drewN m :=
  bad_any lo g [128, 1] 0 10 w hs
end
set_option maxRecDepth 100000 in
theorem num_any (x : Int) (w : World) (_h1 : -9223372036854775808 ≤ x) (_h2 : x ≤ 9223372036854775807) : Calls Try.prog 30 #[.int .i64 x] w fun e w' => e = .returned (.int .i64 x) ∧ w' = w := by
  go_enter Try.func30, Try.ntmps30
  go_wp2
  go_ret
  exact ⟨rfl, rfl⟩
theorem const1 (w : World) (C : Array Value) (n c : Nat) : (convert 22 22 (.slice (some ⟨w.heap.size, 0, none⟩) n c)).run Try.prog (w.alloc (.cells C 5)) = .ok (.slice (some ⟨w.heap.size, 0, none⟩) n c) (w.alloc (.cells C 5 (C.size, C.size + 1))) :=
  Lib.run_convert_bytes_const (P := Try.prog) w 22 5 C n c Try.underlying22 Try.underlying5
theorem const2 (w : World) (o : Obj) (C : Array Value) (n c : Nat) : (convert 22 22 (.slice (some ⟨w.heap.size + 1, 0, none⟩) n c)).run Try.prog ((w.alloc o).alloc (.cells C 5)) = .ok (.slice (some ⟨w.heap.size + 1, 0, none⟩) n c) ((w.alloc o).alloc (.cells C 5 (C.size, C.size + 1))) := by
  have := const1 (w.alloc o) C n c
  rwa [World.size_alloc] at this
theorem live_mark : mfold 4294967295 [[49, 50, 51, 52], [53, 54, 55, 56, 57]].flatten = 3535941457 := by decide +kernel
theorem live_built (w : World) : Bts (w.alloc (.cells #[.int .u8 128, .int .u8 1] 5)) (.slice (some ⟨w.heap.size, 0, none⟩) 2 2) [128, 1] := by
  refine ⟨_, 2, rfl, ⟨(fun e => by cases e), Nat.le_refl _⟩, .inr ⟨w.heap.size, 0, rfl, fun t _ ht => ?_⟩⟩
  match t, ht with
  | 0, _ => simp
  | 1, _ => simp
theorem live_str : strOfNums [130, 44, 45, 1] = ⟨#[130, 44, 45, 1]⟩ := rfl
/-- A block of bytes, whatever is frozen in it, read as a slice. -/
theorem bts_block {W : World} {g : Nat} {fr : Nat × Nat} (xs : List Int) (h : W.heap[g]? = some (.cells (xs.map (Value.int .u8)).toArray 5 fr)) : Bts W (.slice (some ⟨g, 0, none⟩) xs.length xs.length) xs := by
  refine ⟨_, xs.length, rfl, ⟨(fun e => by cases e), Nat.le_refl _⟩, .inr ⟨g, 0, rfl, fun t _ ht => ?_⟩⟩
  simp [World.cell?, h, ht]
theorem heap3 (w : World) (a b c : Obj) : (((w.alloc a).alloc b).alloc c).heap[w.heap.size]? = some a ∧ (((w.alloc a).alloc b).alloc c).heap[w.heap.size + 1]? = some b ∧ (((w.alloc a).alloc b).alloc c).heap[w.heap.size + 1 + 1]? = some c := by
  refine ⟨?_, ?_, ?_⟩
  · show (((w.heap.push a).push b).push c)[w.heap.size]? = _
    simp only [Array.getElem?_push, Array.size_push]; rw [if_neg (by omega), if_neg (by omega), if_pos trivial]
  · show (((w.heap.push a).push b).push c)[w.heap.size + 1]? = _
    simp only [Array.getElem?_push, Array.size_push]; rw [if_neg (by omega), if_pos trivial]
  · show (((w.heap.push a).push b).push c)[w.heap.size + 1 + 1]? = _
    simp only [Array.getElem?_push, Array.size_push]; rw [if_pos trivial]
theorem live6 (w : World) (a b : Nat × Nat) (W : World) (hW : W = ((w.alloc (.cells #[.int .u8 49, .int .u8 50, .int .u8 51, .int .u8 52] 5 a)).alloc (.cells #[.int .u8 53, .int .u8 54, .int .u8 55, .int .u8 56, .int .u8 57] 5 b)).alloc (.cells #[.slice (some ⟨w.heap.size, 0, none⟩) 4 4, .slice (some ⟨w.heap.size + 1, 0, none⟩) 5 5] 22)) :
    Calls Try.prog 17 #[.slice (some ⟨w.heap.size + 1 + 1, 0, none⟩) 2 2] W fun e w' => e = .returned (.int .u32 3535941457) ∧ w' = W := by
  have h3 := heap3 w (.cells #[.int .u8 49, .int .u8 50, .int .u8 51, .int .u8 52] 5 a) (.cells #[.int .u8 53, .int .u8 54, .int .u8 55, .int .u8 56, .int .u8 57] 5 b) (.cells #[.slice (some ⟨w.heap.size, 0, none⟩) 4 4, .slice (some ⟨w.heap.size + 1, 0, none⟩) 5 5] 22)
  rw [← hW] at h3
  have hb1 : Bts W (.slice (some ⟨w.heap.size, 0, none⟩) 4 4) [49, 50, 51, 52] := bts_block [49, 50, 51, 52] h3.1
  have hb2 : Bts W (.slice (some ⟨w.heap.size + 1, 0, none⟩) 5 5) [53, 54, 55, 56, 57] := bts_block [53, 54, 55, 56, 57] h3.2.1
  have h := mark_some [[49, 50, 51, 52], [53, 54, 55, 56, 57]] (w.heap.size + 1 + 1) 0 2 W (by intro p hp; simp at hp; rcases hp with rfl | rfl <;> (intro c hc; simp at hc; omega)) (by intro p hp; simp at hp; rcases hp with rfl | rfl <;> simp) (by simp) (by
    intro t ht
    match t, ht with
    | 0, _ => exact ⟨_, by simp [World.cell?, h3.2.2], hb1⟩
    | 1, _ => exact ⟨_, by simp [World.cell?, h3.2.2], hb2⟩)
  rw [live_mark] at h
  exact h
set_option maxRecDepth 100000 in
set_option maxHeartbeats 4000000 in
theorem live_any (w : World) : Calls Try.prog 10 #[] w fun e w' => e = .returned (.bool true) ∧ Below w.heap.size w w' := by
  go_enter Try.func10, Try.ntmps10
  go_wp2_with fail
  refine (number_any w.heap.size _ [] [300] _ _ _ (by simp) (World.ownsRow_nil _ _ _ _) (by simp) (by simp) (.inr ⟨w.heap.size, 0, rfl, ?_, .inr (by simp)⟩)).mono ?_
  · intro t _ ht
    have : t = 0 := by simp at ht; omega
    subst this
    simp
  rintro e w1 ⟨v1, rfl, ho1, hb1⟩
  rw [live_enc, List.nil_append] at ho1
  go_wp2_with fail
  have hz1 : w.heap.size ≤ w1.heap.size := by have := hb1.size; simp at this; omega
  refine (signed_any w.heap.size v1 [130, 44] [-1] _ _ _ (by simp) (ho1.alloc _) (by simp; omega) (by simp) (.inr ⟨w1.heap.size, 0, rfl, ?_, .inr (by simp)⟩)).mono ?_
  · intro t _ ht
    have : t = 0 := by simp at ht; omega
    subst this
    simp
  rintro e w2 ⟨v2, rfl, ho2, hb2⟩
  rw [live_encS] at ho2
  have ho2' : Own w2 w.heap.size v2 [130, 44, 45, 1] := ho2
  clear ho2
  have hz2 : w1.heap.size ≤ w2.heap.size := by have := hb2.size; simp at this; omega
  have hB2 : Below w.heap.size w w2 := (((Below.refl _ w).alloc (Nat.le_refl _) _).trans hb1).trans (((Below.refl _ w1).alloc hz1 _).trans hb2)
  clear hb1 hb2 ho1
  go_wp2_with fail
  refine (unroll_any [130, 44, 45, 1] v2 w2 (by simp) ho2'.bts).mono ?_
  rintro e w3 ⟨g1, rfl, hg1, hs1, hb3⟩
  go_wp2_with fail
  refine (unroll_any [128, 1] _ _ (by simp) (live_built w3)).mono ?_
  rintro e w4 ⟨g2, rfl, hg2, hs2, hb4⟩
  have hz3 := hb3.size
  have hz4 := hb4.size
  have hlt1 := hs1.lt
  simp only [World.size_alloc] at hg2 hs2 hb4 hz4
  have hB34 : Below w3.heap.size w3 w4 := ((Below.refl _ w3).alloc (Nat.le_refl _) _).trans (hb4.mono (by omega))
  have hB24 : Below w2.heap.size w2 w4 := hb3.trans (hB34.mono hz3)
  have hs1' := (strip_stay hs1 hB34).1
  have hconv := conv_str (ho2'.bts.grow hB24)
  rw [live_str] at hconv
  have hB4 : Below w.heap.size w w4 := hB2.trans (hB24.mono (by omega))
  clear hs1 ho2' hb3 hb4 hB34 hB24 hB2
  go_wp2_with fail
  refine (live1 hs1').mono ?_
  rintro e w5 ⟨rfl, hs5, hG5⟩
  have hs2_5 := strip_other hs2 hG5 (.inl (by omega))
  have hB5 : Below w.heap.size w w5 := hB4.grown hG5 (by omega) (by intro k hk; cases hk; omega)
  have hz5 := hG5.size
  clear hs1' hs2 hG5 hB4 hconv
  go_wp2_with fail
  refine (live2 hs5).mono ?_
  rintro e w6 ⟨rfl, hs6, hG6⟩
  have hs2_6 := strip_other hs2_5 hG6 (.inl (by omega))
  have hB6 : Below w.heap.size w w6 := hB5.grown hG6 (by omega) (by intro k hk; cases hk; omega)
  have hz6 := hG6.size
  clear hs5 hs2_5 hG6 hB5
  go_wp2_with fail
  refine (live3 hs2_6).mono ?_
  rintro e w7 ⟨rfl, hs7, hG7⟩
  have hs1_7 := strip_other hs6 hG7 (.inr (by omega))
  have hB7 : Below w.heap.size w w7 := hB6.grown hG7 (by omega) (by intro k hk; cases hk; omega)
  have hz7 := hG7.size
  clear hs6 hs2_6 hG7 hB6
  go_wp2_with fail
  refine (live4 hs1_7).mono ?_
  rintro e w8 ⟨rfl, m8, rfl⟩
  have hs8 := hs7.drewN m8
  have hB8 := below_drewN hB7 m8
  clear hs7 hs1_7 hB7
  have kc := const1
  have kc2 := const2
  go_wp2_with (first | (go_at_call 30; refine (num_any _ _ (by omega) (by omega)).mono ?_; rintro e w9 ⟨rfl, hw9⟩; subst w9) | (go_at_call 29; refine (live5 hs8).mono ?_; rintro e w9 ⟨rfl, hw9⟩; have hB9 : Below w.heap.size w w9 := (by obtain ⟨m9, rfl⟩ := hw9; exact below_drewN hB8 m9); clear hw9 hs8) | (go_at_call 17; refine (live6 w9 _ _ _ rfl).mono ?_; rintro e w10 ⟨rfl, hw10⟩; subst w10))
  go_ret
  exact ⟨rfl, ((hB9.alloc (by have := hB9.size; omega) _).alloc (by have := hB9.size; simp; omega) _).alloc (by have := hB9.size; simp; omega) _⟩
end Go.Proofs.Ytjieelpbifdfbaa
