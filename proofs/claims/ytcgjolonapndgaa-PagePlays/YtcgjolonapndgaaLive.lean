/- The contracts of Same and of live. -/
import Derived.Test.YtcgjolonapndgaaGet
namespace Go.Proofs.Ytcgjolonapndgaa
open Go.RowKit Go.Maps Go.ChangeMaps Go.MapKept
set_option maxRecDepth 100000 in
set_option maxHeartbeats 2000000 in
theorem same_any (k1 k2 : Int) (i1 i2 : Nat) (v1 v2 : Value) (a b : List Int) (w : World) (h1 : Bts w v1 a) (h2 : Bts w v2 b) (ha : IsBytes a) (hb : IsBytes b) :
    Calls Try.prog 15 #[.agg #[.int .u8 k1, .int .u32 i1, v1], .agg #[.int .u8 k2, .int .u32 i2, v2]] w fun e w' => e = .returned (.bool (decide (k1 = k2 ∧ i1 = i2 ∧ a = b))) ∧ Below w.heap.size w w' := by
  have c1 := conv_str ((h1.alloc (.cells #[.int .u8 k1, .int .u32 i1, v1] 25)).alloc (.cells #[.int .u8 k2, .int .u32 i2, v2] 25))
  have c2 := conv_str ((h2.alloc (.cells #[.int .u8 k1, .int .u32 i1, v1] 25)).alloc (.cells #[.int .u8 k2, .int .u32 i2, v2] 25))
  have hq := str_beq ha hb
  have hB : Below w.heap.size w ((w.alloc (.cells #[.int .u8 k1, .int .u32 i1, v1] 25)).alloc (.cells #[.int .u8 k2, .int .u32 i2, v2] 25)) := ((Below.refl _ w).alloc (Nat.le_refl _) _).alloc (by simp) _
  obtain ⟨a1, n1, rfl⟩ := h1.split
  obtain ⟨a2, n2, rfl⟩ := h2.split
  by_cases hk : k1 = k2
  · have dk : (k1 == k2) = true := by simp [hk]
    by_cases hi : i1 = i2
    · have di : ((i1 : Int) == (i2 : Int)) = true := by simp [hi]
      have hd : Hid (decide (k1 = k2 ∧ i1 = i2 ∧ a = b) = decide (a = b)) := by show _ = _; simp [hk, hi]
      clear hk hi
      go_enter Try.func15, Try.ntmps15
      go_wp2
      go_ret
      exact ⟨by rw [hd.out]; rfl, hB⟩
    · have di : ((i1 : Int) == (i2 : Int)) = false := by simp; omega
      have hd : Hid (decide (k1 = k2 ∧ i1 = i2 ∧ a = b) = false) := by show _ = _; simp [hi]
      clear hk hi
      go_enter Try.func15, Try.ntmps15
      go_wp2
      go_ret
      exact ⟨by rw [hd.out]; rfl, hB⟩
  · have dk : (k1 == k2) = false := by simp [hk]
    have hd : Hid (decide (k1 = k2 ∧ i1 = i2 ∧ a = b) = false) := by show _ = _; simp [hk]
    clear hk
    go_enter Try.func15, Try.ntmps15
    go_wp2
    go_ret
    exact ⟨by rw [hd.out]; rfl, hB⟩

theorem live_take : (pageB 64 107 5 [97, 98]).take 10 = [107, 0, 0, 0, 5, 0, 2, 97, 98, 0] := by
  unfold pageB
  rw [List.take_append_of_le_length (by rw [laid_len _ _ _ _ (by simp)]; omega)]
  decide
theorem live_zero : isPage (zeros 64) = false := by
  unfold isPage
  simp [kindOf, zeros]
theorem live_str : strOfNums [107, 0, 0, 0, 5, 0, 2, 97, 98, 0] = ⟨#[107, 0, 0, 0, 5, 0, 2, 97, 98, 0]⟩ := by decide
theorem live_bytes : IsBytes [97, 98] := by intro c h; simp at h; omega
theorem live_page : isPage (pageB 64 107 5 [97, 98]) = true := isPage_page 64 107 5 [97, 98] (by omega) (by omega) (by decide) (by decide) (by simp)
set_option maxRecDepth 100000 in
set_option maxHeartbeats 4000000 in
theorem live_any (w : World) : Calls Try.prog 9 #[] w fun e w' => e = .returned (.bool true) ∧ Below w.heap.size w w' := by
  have kc := const1 w #[.int .u8 97, .int .u8 98] 2 2
  have hW1 : (w.alloc (.cells #[.int .u8 97, .int .u8 98] 5 (2, 3))).heap[w.heap.size]? = some (.cells #[.int .u8 97, .int .u8 98] 5 (2, 3)) := heap_alloc_new w _
  have hb1 : Bts (w.alloc (.cells #[.int .u8 97, .int .u8 98] 5 (2, 3))) (.slice (some ⟨w.heap.size, 0, none⟩) 2 2) [97, 98] := bts_block [97, 98] hW1
  have hB1 : Below w.heap.size w (w.alloc (.cells #[.int .u8 97, .int .u8 98] 5 (2, 3))) := (Below.refl _ w).alloc (Nat.le_refl _) _
  replace kc : (convert 23 23 (.slice (some ⟨w.heap.size, 0, none⟩) 2 2)).run Try.prog (w.alloc (.cells #[.int .u8 97, .int .u8 98] 5)) = .ok (.slice (some ⟨w.heap.size, 0, none⟩) 2 2) (w.alloc (.cells #[.int .u8 97, .int .u8 98] 5 (2, 3))) := kc
  generalize w.alloc (.cells #[.int .u8 97, .int .u8 98] 5 (2, 3)) = W1 at kc hb1 hB1
  clear hW1
  go_enter Try.func9, Try.ntmps9
  go_wp2_with fail
  refine (put_ok 64 107 5 _ [97, 98] W1 (by omega) (by omega) (by omega) (by decide) hb1 live_bytes (by simp)).mono ?_
  rintro e w2 ⟨rfl, hrow2, hb2⟩
  have hz1 := hB1.size
  have hB2 := hB1.trans (hb2.mono hz1)
  have hbt : Bts w2 (.slice (some ⟨W1.heap.size + 1, 0, none⟩) 64 64) (pageB 64 107 5 [97, 98]) := by
    have := hrow2.bts
    rwa [pageB_len _ _ _ _ (by simp)] at this
  clear kc hb1 hb2 hrow2 hB1
  go_wp2_with fail
  refine (get_yes _ _ w2 hbt (pageB_bytes _ _ _ _ (by omega) live_bytes) live_page).mono ?_
  rintro e w3 ⟨lv, rfl, ⟨base, hbase, hol⟩, hb3⟩
  rw [loadOf_page _ _ _ _ (by simp)] at hol
  rw [kindOf_page, idOf_page _ _ _ _ (by decide)]
  have hz2 := hB2.size
  have hB3 := hB2.trans (hb3.mono hz2)
  have hbt3 := hbt.grow hb3
  clear hbt hb3 hB2
  obtain ⟨al, cl, hlv⟩ := hol.bts.split
  subst hlv
  obtain ⟨W4, hmk, hrow4, hpx4, hbe4, _⟩ := makeB w3 64 (by omega) (.cells #[.int .u8 107, .int .u32 5, .slice al 2 cl] 25)
  replace hmk : (Instr.makeSlice 23 (.int .i64 64) (.int .i64 64)).run Try.prog (w3.alloc (.cells #[.int .u8 107, .int .u32 5, .slice al 2 cl] 25)) = .ok (.slice (some ⟨w3.heap.size + 1, 0, none⟩) 64 64) W4 := hmk
  have hz3 := hB3.size
  have hB4 := hB3.trans (hbe4.mono hz3)
  have hbt4 := hbt3.grow hbe4
  have hol4 := hol.grow hbe4
  replace hpx4 : PageAt W4 w3.heap.size 107 5 (.slice al 2 cl) := hpx4
  have hbz : Bts W4 (.slice (some ⟨w3.heap.size + 1, 0, none⟩) 64 64) (zeros 64) := hrow4.bts
  clear hbt3 hol hbe4 hrow4 hB3
  go_wp2_with fail
  refine (get_no _ _ W4 hbz (fun c h => by rw [List.eq_of_mem_replicate h]; omega) live_zero).mono ?_
  rintro e w5 ⟨rfl, hb5⟩
  have hz4 := hB4.size
  have hB5 := hB4.trans (hb5.mono hz4)
  have hB6 := hB5.alloc hB5.size (.cells #[.int .u8 0, .int .u32 0, .slice none 0 0] 25)
  have hbt6 := (hbt4.grow hb5).alloc (.cells #[.int .u8 0, .int .u32 0, .slice none 0 0] 25)
  have hol6 := ((hol4.grow hb5).bts).alloc (.cells #[.int .u8 0, .int .u32 0, .slice none 0 0] 25)
  have hpx6 : PageAt (w5.alloc (.cells #[.int .u8 0, .int .u32 0, .slice none 0 0] 25)) w3.heap.size 107 5 (.slice al 2 cl) := (hpx4.keep (hb5.block _ hpx4.lt)).keep ((heap_alloc w5 _).2 _ (by have := hpx4.lt; have := hb5.size; omega))
  clear hmk hbt4 hol4 hbz hb5 hpx4 hB5 hB4
  go_upto_region 4 with fail
  have hbe6 : W1.heap.size + 1 = W1.heap.size + 1 := rfl
  generalize w5.alloc (.cells #[.int .u8 0, .int .u32 0, .slice none 0 0] 25) = W6 at hB6 hbt6 hol6 hpx6 ⊢
  have h10 : Bts W6 (.slice (some ⟨W1.heap.size + 1, 0, none⟩) 10 64) [107, 0, 0, 0, 5, 0, 2, 97, 98, 0] := by
    obtain ⟨a, c, e, ⟨_, hc⟩, hr⟩ := hbt6
    cases e
    have hl : (pageB 64 107 5 [97, 98]).length = 64 := pageB_len _ _ _ _ (by simp)
    rcases hr with hr | ⟨b, o, e, hr⟩
    · rw [hr] at hl; cases hl
    · cases e
      have := bts_cut hc hr 0 10 (by rw [hl]; omega)
      rw [List.drop_zero, live_take] at this
      exact this
  have c10 := conv_str h10
  rw [live_str] at c10
  obtain ⟨p60, p61, p62⟩ := hpx6.cells
  have kc := const1 W6 #[.int .u8 97, .int .u8 98] 2 2
  have hW7 : (W6.alloc (.cells #[.int .u8 97, .int .u8 98] 5 (2, 3))).heap[W6.heap.size]? = some (.cells #[.int .u8 97, .int .u8 98] 5 (2, 3)) := heap_alloc_new W6 _
  have hb7 : Bts (W6.alloc (.cells #[.int .u8 97, .int .u8 98] 5 (2, 3))) (.slice (some ⟨W6.heap.size, 0, none⟩) 2 2) [97, 98] := bts_block [97, 98] hW7
  have hol7 := hol6.alloc (.cells #[.int .u8 97, .int .u8 98] 5 (2, 3))
  have hB7 : Below w.heap.size w (W6.alloc (.cells #[.int .u8 97, .int .u8 98] 5 (2, 3))) := hB6.alloc hB6.size _
  replace kc : (convert 23 23 (.slice (some ⟨W6.heap.size, 0, none⟩) 2 2)).run Try.prog (W6.alloc (.cells #[.int .u8 97, .int .u8 98] 5)) = .ok (.slice (some ⟨W6.heap.size, 0, none⟩) 2 2) (W6.alloc (.cells #[.int .u8 97, .int .u8 98] 5 (2, 3))) := kc
  generalize W6.alloc (.cells #[.int .u8 97, .int .u8 98] 5 (2, 3)) = W7 at kc hb7 hol7 hB7
  clear hW7 hbt6 hol6 h10 hbe6
  go_wp2_with (first | (go_at_call 14; refine (num_any _ _ (by omega) (by omega)).mono ?_; rintro e w9 ⟨rfl, hw9⟩; subst w9) | (go_at_call 15; refine (same_any 107 107 5 5 _ _ _ _ _ hol7 hb7 live_bytes live_bytes).mono ?_; rintro e w8 ⟨rfl, hb8⟩))
  go_ret
  exact ⟨rfl, hB7.trans (hb8.mono hB7.size)⟩
end Go.Proofs.Ytcgjolonapndgaa
