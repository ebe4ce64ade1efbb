/- The contract of the document's text. -/
import Derived.Test.YtkhnhnaefmcngaaRnm
namespace Go.Proofs.Ytkhnhnaefmcngaa
set_option linter.unusedVariables false
open Go.RowKit
theorem own_nn {w : World} {base : Nat} {v : Value} {xs : List Int} (h : Own w base v xs) (hx : 0 < xs.length) : v ≠ .slice none 0 0 := by
  rintro rfl
  rcases h.2 with ⟨_, h⟩ | ⟨g, cap, cur, e, _⟩
  · omega
  · cases e
theorem extract_all (T : ByteArray) : numsS (T.extract 0 T.size) = numsS T := by
  rw [numsS_extract, List.take_of_length_le (by rw [numsS_length]; omega), List.drop_zero]
set_option maxRecDepth 100000 in
set_option maxHeartbeats 4000000 in
theorem rtext_any (s : ByteArray) (w : World) (hs : s.size ≤ 100000) : Calls Try.prog 25 #[.string s] w fun e w' => e = .returned (.string (strOfNums (textB s))) ∧ Below w.heap.size w w' := by
  go_enter Try.func25, Try.ntmps25
  go_wp2
  go_loopw [0, 3] (fun t u wr => ∃ (T : ByteArray) (done : List Int), t = .string T ∧ T.size ≤ s.size ∧ done.length + 2 * T.size ≤ 2 * s.size ∧ Hid (done ++ groups (numsS T) = groups (numsS s)) ∧ Own wr w.heap.size u ([160] ++ done) ∧ Below w.heap.size w wr)
    (fun t _ _ => match t with | .string T => T.size | _ => 0)
  case atStart => exact ⟨s, [], rfl, Nat.le_refl _, by simp, rfl, own_one _ _ _ (Nat.le_refl _), (Below.refl _ w).alloc (Nat.le_refl _) _⟩
  case round =>
    obtain ⟨T, done, rfl, hT, hd, hgr, ho, hb⟩ := hrel
    have hz := hb.size
    by_cases h8 : 8 < T.size
    · have h8i : (8 : Int) < (T.size : Int) := by omega
      have hx0 : numsS (T.extract 0 8) = (numsS T).take 8 := by rw [numsS_extract, List.drop_zero]
      have hx1 : numsS (T.extract 8 T.size) = (numsS T).drop 8 := by rw [numsS_extract, List.take_of_length_le (by rw [numsS_length]; omega)]
      have hl0 : (T.extract 0 8).size = 8 := by rw [← numsS_length, hx0, List.length_take, numsS_length]; omega
      have hl1 : (T.extract 8 T.size).size = T.size - 8 := by rw [← numsS_length, hx1, List.length_drop, numsS_length]
      have he : (T.extract 8 T.size).toList.isEmpty = false := by rw [empty_iff]; simp; omega
      have hst : Hid ((done ++ (numsS (T.extract 0 8) ++ [9])) ++ groups (numsS (T.extract 8 T.size)) = groups (numsS s)) := by
        show _ = _
        rw [← hgr.out, hx0, hx1, groups_more (numsS T) (by rw [numsS_length]; omega)]
        simp
      have hl0' : (numsS (T.extract 0 8)).length = 8 := by rw [numsS_length, hl0]
      clear hx0 hx1
      replace hl1 : Hid _ := hl1
      go_wp2_with (first
        | (at_builtin; refine appS rfl (.tmp 9) (.tmp 12) rfl w.heap.size _ _ _ rfl rfl ho (by omega) (by rw [hl0]; simp; omega) ?_; intro v1 w1 ho1 hb1; obtain ⟨v2, w2, hzr, ho2, hg2, hv2⟩ := run_zeros ho1 (own_nn ho1 (by simp)) 0 (by rw [List.length_append, hl0']; simp; omega) (by have := hb1.size; omega); have hb2 := ho1.grows (by have := hb1.size; omega) hg2)
        | (at_builtin; refine Lib.wpList_append_run _ rfl (.tmp 14) (.tmp 16) 47 3 rfl v1 (.int .i64 0) rfl rfl v2 w2 (hzr _) ?_)
        | (at_builtin; refine app1 rfl (.tmp 29) (.tmp 30) rfl w.heap.size v2 _ _ rfl rfl ho2 (by have := hb1.size; have := hb2.size; omega) (by simp [zeros, hl0']; omega) ?_; intro v3 w3 ho3 hb3))
      refine ⟨⟨T.extract 8 T.size, done ++ (numsS (T.extract 0 8) ++ [9]), rfl, by have := hl1.out; omega, by have := hl1.out; simp [hl0']; omega, hst, ho3.cast (by simp [zeros]), ((hb.trans hb1).trans hb2).trans hb3⟩, ?_⟩
      simp only [hl1.out]
      omega
    · by_cases hlt : T.size < 8
      · have h8i : (T.size : Int) < 8 := by omega
        have hx1 : (T.extract T.size T.size).toList.isEmpty = true := by
          rw [empty_iff, ← numsS_length, numsS_extract]
          simp
        have hw : IntKind.u8.wrap (T.size : Int) = (T.size : Int) := by
          simp only [IntKind.wrap, IntKind.bits, IntKind.signed]
          simp
          omega
        have hfin : Hid ([160] ++ done ++ numsS T ++ zeros (8 - T.size) ++ [(T.size : Int)] = textB s) := by
          show _ = _
          rw [textB, ← hgr.out, groups_last (numsS T) (by rw [numsS_length]; omega), padN_short 8 (numsS T) (by rw [numsS_length]; omega), numsS_length, zeros]
          simp
        have hl0' : (numsS T).length = T.size := numsS_length T
        have h8n : (8 : Int) - (T.size : Int) = ((8 - T.size : Nat) : Int) := by omega
        go_wp2_with (first
          | (at_builtin; refine appS rfl (.tmp 9) (.tmp 12) rfl w.heap.size _ _ T rfl rfl ho (by omega) (by simp; omega) ?_; intro v1 w1 ho1 hb1; obtain ⟨v2, w2, hzr, ho2, hg2, hv2⟩ := run_zeros ho1 (own_nn ho1 (by simp)) (8 - T.size) (by rw [List.length_append, hl0']; simp; omega) (by have := hb1.size; omega); have hb2 := ho1.grows (by have := hb1.size; omega) hg2)
          | (at_builtin; refine Lib.wpList_append_run _ rfl (.tmp 14) (.tmp 16) 47 3 rfl v1 (.int .i64 ((8 - T.size : Nat) : Int)) rfl rfl v2 w2 (hzr _) ?_)
          | (at_builtin; refine app1 rfl (.tmp 23) (.tmp 26) rfl w.heap.size v2 _ _ rfl rfl ho2 (by have := hb1.size; have := hb2.size; omega) (by rw [List.length_append, List.length_append, hl0']; simp [zeros]; omega) ?_; intro v3 w3 ho3 hb3; have hcv := conv_str ho3.bts; rw [hfin.out] at hcv))
        go_ret
        exact ⟨rfl, ((hb.trans hb1).trans hb2).trans hb3⟩
      · have hT8 : T.size = 8 := by omega
        have hx0 : numsS (T.extract 0 8) = numsS T := by rw [← hT8]; exact extract_all T
        have hx1 : (T.extract 8 8).toList.isEmpty = true := by
          rw [empty_iff, ← numsS_length, numsS_extract]
          simp
        have hfin : Hid ([160] ++ done ++ numsS (T.extract 0 8) ++ zeros 0 ++ [8] = textB s) := by
          show _ = _
          rw [hx0, textB, ← hgr.out, groups_last (numsS T) (by rw [numsS_length]; omega), padN_short 8 (numsS T) (by rw [numsS_length]; omega), numsS_length, zeros, hT8]
          simp
        have hl0 : (T.extract 0 8).size = 8 := by rw [← numsS_length, hx0, numsS_length, hT8]
        have hl0' : (numsS (T.extract 0 8)).length = 8 := by rw [numsS_length, hl0]
        clear hx0
        go_wp2_with (first
          | (at_builtin; refine appS rfl (.tmp 9) (.tmp 12) rfl w.heap.size _ _ (T.extract 0 8) rfl rfl ho (by omega) (by rw [hl0]; simp; omega) ?_; intro v1 w1 ho1 hb1; obtain ⟨v2, w2, hzr, ho2, hg2, hv2⟩ := run_zeros ho1 (own_nn ho1 (by simp)) 0 (by rw [List.length_append, hl0']; simp; omega) (by have := hb1.size; omega); have hb2 := ho1.grows (by have := hb1.size; omega) hg2)
          | (at_builtin; refine Lib.wpList_append_run _ rfl (.tmp 14) (.tmp 16) 47 3 rfl v1 (.int .i64 0) rfl rfl v2 w2 (hzr _) ?_)
          | (at_builtin; refine app1 rfl (.tmp 23) (.tmp 26) rfl w.heap.size v2 _ _ rfl rfl ho2 (by have := hb1.size; have := hb2.size; omega) (by rw [List.length_append, List.length_append, hl0']; simp [zeros]; omega) ?_; intro v3 w3 ho3 hb3; have hcv := conv_str ho3.bts; (first | rw [hfin.out] at hcv | skip)))
        go_ret
        exact ⟨rfl, ((hb.trans hb1).trans hb2).trans hb3⟩
end Go.Proofs.Ytkhnhnaefmcngaa
