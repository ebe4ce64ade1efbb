/- The document's Put. -/
import Derived.Test.YtfbeilninpapaaaWf
import Derived.Test.YtfbeilninpapaaaRv
namespace Go.Proofs.Ytfbeilninpapaaa
set_option linter.unusedVariables false
open Go.RowKit
set_option maxRecDepth 100000 in
set_option maxHeartbeats 8000000 in
/-- The document's Put, where nothing is wrong. -/
theorem rput_ok (m : ByteArray) (gv : Value) (l : List Gr) (z : Int) (w : World) (hm : m.size ≤ 24) (hv : Grs w gv l) (hl : GrS l) (hz : -9223372036854775808 ≤ z ∧ z ≤ 9223372036854775807) (hnb : nmB m = true) (hz1 : 1 ≤ z) (hck : ckE l = 0) :
    Calls Try.prog 18 #[.agg #[.string m, gv, .int .i64 z]] w fun e w' => ∃ v', e = .returned (.tuple #[v', .int .i64 0]) ∧ Own w' w.heap.size v' (foB m l z) ∧ Below w.heap.size w w' := by
  obtain ⟨a, c, rfl⟩ := hv.shape
  obtain ⟨hl16, hgs⟩ := hl
  obtain ⟨w1, hw1⟩ : ∃ w1, w1 = w.alloc (.cells #[.string m, .slice a l.length c, .int .i64 z] 39) := ⟨_, rfl⟩
  have hsz : w1.heap.size = w.heap.size + 1 := by rw [hw1]; simp
  have hb1 : Hid (Below w.heap.size w w1) := by rw [hw1]; exact (Below.refl _ _).alloc (Nat.le_refl _) _
  have hvk : Hid (∀ W, Below w1.heap.size w1 W → Grs W (.slice a l.length c) l) := fun W h => (by rw [hw1]; exact hv.alloc _ : Grs w1 (.slice a l.length c) l).grow h
  have hc0 : Hid (∀ W, Below w1.heap.size w1 W → W.cell? ⟨w.heap.size, 0, none⟩ = some (.string m)) := fun W h => (h.cell (p := ⟨w.heap.size, 0, none⟩) (by rw [hsz]; exact Nat.lt_succ_self _)).trans (by rw [hw1]; simp)
  have hc1 : Hid (∀ W, Below w1.heap.size w1 W → W.cell? ⟨w.heap.size, 1, none⟩ = some (.slice a l.length c)) := fun W h => (h.cell (p := ⟨w.heap.size, 1, none⟩) (by rw [hsz]; exact Nat.lt_succ_self _)).trans (by rw [hw1]; simp)
  have hc2 : Hid (∀ W, Below w1.heap.size w1 W → W.cell? ⟨w.heap.size, 2, none⟩ = some (.int .i64 z)) := fun W h => (h.cell (p := ⟨w.heap.size, 2, none⟩) (by rw [hsz]; exact Nat.lt_succ_self _)).trans (by rw [hw1]; simp)
  have hT : Hid (∀ W : World, w1.heap.size ≤ W.heap.size → ∀ s v xs, s.size ≤ 24 → Own W w1.heap.size v xs → xs.length ≤ 5000 → Calls Try.prog 33 #[v, .string s] W fun e w' => ∃ v', e = .returned v' ∧ Own w' w1.heap.size v' (xs ++ encT s) ∧ Below w1.heap.size W w' ∧ Kb W w') := fun W hW s v xs hs ho hx => rtext_k s w1.heap.size v xs W (by omega) ho hW (by omega)
  have hN : Hid (∀ W : World, w1.heap.size ≤ W.heap.size → ∀ (n : Nat) v xs, n ≤ 16 → Own W w1.heap.size v xs → xs.length ≤ 5000 → Calls Try.prog 32 #[v, .int .u64 n] W fun e w' => ∃ v', e = .returned v' ∧ Own w' w1.heap.size v' (xs ++ enc n) ∧ Below w1.heap.size W w' ∧ Kb W w') := fun W hW n v xs hs ho hx => ruint_k n w1.heap.size v xs W (by omega) ho hW (by omega)
  have hS : Hid (∀ W : World, w1.heap.size ≤ W.heap.size → ∀ (y : Int) v xs, (-9223372036854775808 ≤ y ∧ y ≤ 9223372036854775807) → Own W w1.heap.size v xs → xs.length ≤ 5000 → Calls Try.prog 34 #[v, .int .i64 y] W fun e w' => ∃ v', e = .returned v' ∧ Own w' w1.heap.size v' (xs ++ encS y) ∧ Below w1.heap.size W w' ∧ Kb W w') := fun W hW y v xs hs ho hx => rint_k y w1.heap.size v xs W hs.1 hs.2 ho hW (by omega)
  have hal : Hid (∀ W o, Below w1.heap.size w1 W → Below w1.heap.size w1 (W.alloc o)) := fun W o h => h.alloc h.size o
  have hml := encT_len m (by omega)
  have hnl := enc_len10 l.length (by omega)
  have hcl : Hid (∀ k, (cat grB (l.take k)).length ≤ 896) := fun k => by
    have := catG_len (l.take k) (fun g hg => hgs g (List.mem_of_mem_take hg))
    have : (l.take k).length ≤ 16 := by rw [List.length_take]; omega
    omega
  have hC := rcheck_any (.slice a l.length c) l w1 (by rw [hw1]; exact hv.alloc _) (by omega) (fun g hg => by have := (hgs g hg).2; omega)
  rw [hck] at hC
  have hNm := fun W => rname_any m W (by omega)
  rw [hnb] at hNm
  replace hgs : Hid (∀ g ∈ l, GrI g ∧ g.name.size ≤ 24) := hgs
  have hB1 : Hid (Below w1.heap.size w1 w1) := Below.refl _ _
  have p0 := hc0.out _ hB1.out
  have p1 := hc1.out _ hB1.out
  have p2 := hc2.out _ hB1.out
  have hz1n : ¬ z < 1 := by omega
  clear hv hsz hnb hck hz1
  go_enter Try.func18, Try.ntmps18
  go_upto_region 1 with fail
  rw [← hw1]
  replace hw1 : Hid _ := hw1
  go_wp2_with (first
    | (go_at_call 24; refine (hNm _).mono ?_; rintro e wx ⟨rfl, hwx⟩; subst wx)
    | (go_at_call 11; refine hC.mono ?_; rintro e w2 ⟨rfl, hb2⟩; replace hb2 : Hid (Below w1.heap.size w1 w2) := hb2))
  clear p0 p1 p2 hC hNm
  have d0 := hc0.out _ hb2.out
  have d1 := hc1.out _ hb2.out
  have hcS : ∀ X, Below w1.heap.size w1 X → X.cell? ⟨w.heap.size, 0, none⟩ = some (.string m) ∧ X.cell? ⟨w.heap.size, 1, none⟩ = some (.slice a l.length c) := fun X h => ⟨hc0.out X h, hc1.out X h⟩
  have hB2d : Below w1.heap.size w1 w2.drew := hb2.out.trans ((Below.refl _ _).drew)
  have hwu : IntKind.u64.wrap ((l.length : Nat) : Int) = ((l.length : Nat) : Int) := by
    simp only [IntKind.wrap, IntKind.bits, IntKind.signed]; simp; omega
  have hT1 := hT.out w2.drew hB2d.size m (.slice none 0 0) [] hm (World.ownsRow_nil _ _ _ _) (by simp)
  go_region_held3 (fun X => X.cell? ⟨w.heap.size, 0, none⟩ = some (.string m) ∧ X.cell? ⟨w.heap.size, 1, none⟩ = some (.slice a l.length c)) (first | go_keep | exact hcS _ hB2d | exact hcS _ hB3 | exact hcS _ hB4) (first
    | (go_at_call 33; with_reducible refine hT1.mono ?_; rintro e w3 ⟨v3, rfl, ho3, hb3, hk3⟩; rw [List.nil_append] at ho3; have hB3 := hB2d.trans hb3; have hN3 := hN.out w3 hB3.size l.length v3 (encT m) hl16 ho3 (by omega))
    | (go_at_call 32; with_reducible refine hN3.mono ?_; rintro e w4 ⟨v4, rfl, ho4, hb4, hk4⟩; have hB4 := hB3.trans hb4))
  replace hB4 : Hid (Below w1.heap.size w1 w4) := hB4
  replace ho4 : Hid (Own w4 w1.heap.size v4 (encT m ++ enc l.length)) := ho4
  clear d0 d1 hcS hB2d hT1 hN3 hb3 hk3 ho3 hB3 hb4 hk4
  go_wp2
  go_loopw [5, 6] (fun y i wr => ∃ k : Nat, k ≤ l.length ∧ i = .int .i64 k ∧ Hid (Own wr w1.heap.size y (encT m ++ enc l.length ++ cat grB (l.take k))) ∧ Hid (Below w1.heap.size w1 wr)) (fun _ i _ => l.length - (intOf i).toNat)
  case atStart => exact ⟨0, Nat.zero_le _, rfl, (show Own _ _ _ _ from ho4.out.cast (by simp [cat])), hB4⟩
  case round =>
    obtain ⟨k, hk, rfl, hown, hB⟩ := hrel
    obtain ⟨bv, rfl⟩ : ∃ bv, bv = u5 := ⟨_, rfl⟩
    clear ho4 hB4
    have hlk := hcl.out k
    have f1 := hc1.out _ hB.out
    by_cases hlt : k < l.length
    · have hki : (k : Int) < (l.length : Int) := by omega
      obtain ⟨b, o, rfl, x0, x1, x2⟩ := gr_at (hvk.out wr hB.out) k hlt
      have hg1 := hgs.out _ (getD_mem l gr0 k hlt)
      have hct : Hid (cat grB (l.take (k + 1)) = cat grB (l.take k) ++ grB (l.getD k gr0)) := cat_take grB l gr0 k hlt
      generalize l.getD k gr0 = g at *
      obtain ⟨gk, gm, gl⟩ := g
      obtain ⟨⟨i1, i2⟩, i3⟩ := hg1
      simp only at x0 x1 x2 i1 i2 i3
      have e1 := encS_len11 gk i1.1 i1.2
      have e2 := encT_len gm (by omega)
      generalize hX : encT m ++ enc l.length ++ cat grB (l.take k) = X at *
      have hXl : X.length ≤ 950 := by rw [← hX]; simp only [List.length_append]; omega
      replace hX : Hid _ := hX
      obtain ⟨w5, hw5⟩ : ∃ w5, w5 = wr.alloc (.cells #[.int .i64 gk, .string gm, .int .i64 gl] 52) := ⟨_, rfl⟩
      have hH5 : w5.heap[wr.heap.size]? = some (.cells #[.int .i64 gk, .string gm, .int .i64 gl] 52 (0, 0)) := by rw [hw5]; exact heap_new _ _
      have hHk : ∀ W W' : World, W.heap[wr.heap.size]? = some (.cells #[.int .i64 gk, .string gm, .int .i64 gl] 52 (0, 0)) → Kb W W' → W'.heap[wr.heap.size]? = some (.cells #[.int .i64 gk, .string gm, .int .i64 gl] 52 (0, 0)) := fun W W' h hK => (hK.block _ (lt_of_block h) (nob_of h (by decide))).trans h
      have hHc : ∀ W : World, W.heap[wr.heap.size]? = some (.cells #[.int .i64 gk, .string gm, .int .i64 gl] 52 (0, 0)) → W.cell? ⟨wr.heap.size, 0, none⟩ = some (.int .i64 gk) ∧ W.cell? ⟨wr.heap.size, 1, none⟩ = some (.string gm) ∧ W.cell? ⟨wr.heap.size, 2, none⟩ = some (.int .i64 gl) := fun W h => by simp [World.cell?, h]
      have hB5 : Below w1.heap.size w1 w5 := by rw [hw5]; exact hal.out _ _ hB.out
      have ho5 : Own w5 w1.heap.size bv X := by rw [hw5]; exact hown.out.alloc _
      have hB5d : Below w1.heap.size w1 w5.drew := hB5.trans ((Below.refl _ _).drew)
      have ho5d : Own w5.drew w1.heap.size bv X := ho5
      have hH5d : w5.drew.heap[wr.heap.size]? = some (.cells #[.int .i64 gk, .string gm, .int .i64 gl] 52 (0, 0)) := hH5
      have hS5 := hS.out w5.drew hB5d.size gk bv X i1 ho5d (by omega)
      have t1 : True := trivial
      go_upto_region 11 with fail
      rw [← hw5]
      have c50 := hHc _ hH5
      replace hw5 : Hid _ := hw5
      go_region_held3 (fun X => X.cell? ⟨wr.heap.size, 0, none⟩ = some (.int .i64 gk) ∧ X.cell? ⟨wr.heap.size, 1, none⟩ = some (.string gm) ∧ X.cell? ⟨wr.heap.size, 2, none⟩ = some (.int .i64 gl)) (first | go_keep | exact hHc _ hH5d | exact hHc _ hH6 | exact hHc _ hH7 | exact hHc _ hH8) (first
        | (go_at_call 34; have _t := t1; with_reducible refine hS5.mono ?_; rintro e w6 ⟨v6, rfl, ho6, hb6, hk6⟩; clear t1; have hB6 := hB5d.trans hb6; have hH6 := hHk _ _ hH5d hk6; have hT6 := hT.out w6 hB6.size gm v6 (X ++ encS gk) i3 ho6 (by simp only [List.length_append]; omega))
        | (go_at_call 33; with_reducible refine hT6.mono ?_; rintro e w7 ⟨v7, rfl, ho7, hb7, hk7⟩; have hB7 := hB6.trans hb7; have hH7 := hHk _ _ hH6 hk7; have hS7 := hS.out w7 hB7.size gl v7 (X ++ encS gk ++ encT gm) i2 ho7 (by simp only [List.length_append]; omega))
        | (go_at_call 34; with_reducible refine hS7.mono ?_; rintro e w8 ⟨v8, rfl, ho8, hb8, hk8⟩; have hB8 := hB7.trans hb8; have hH8 := hHk _ _ hH7 hk8))
      replace hB8 : Hid (Below w1.heap.size w1 w8) := hB8
      replace ho8 : Hid (Own w8 w1.heap.size v8 (X ++ encS gk ++ encT gm ++ encS gl)) := ho8
      clear hHk hHc hH5 hH5d hB5 ho5 hB5d ho5d hS5 c50 hb6 hk6 ho6 hB6 hH6 hT6 hb7 hk7 ho7 hB7 hH7 hS7 hb8 hk8 hH8
      go_wp2
      refine ⟨⟨k + 1, by omega, by go_num, ?_, hB8⟩, ?_⟩
      · show Own _ _ _ _
        refine ho8.out.cast ?_
        rw [hct.out, ← hX.out]
        simp [grB]
      · simp [intOf]; omega
    · obtain rfl : l.length = k := by omega
      have hki : ¬ (l.length : Int) < (l.length : Int) := by omega
      rw [List.take_of_length_le (Nat.le_refl _)] at hown hlk
      have r2 := hc2.out _ hB.out
      generalize hX : encT m ++ enc l.length ++ cat grB l = X at *
      have hXl : X.length ≤ 950 := by rw [← hX]; simp only [List.length_append]; omega
      replace hX : Hid _ := hX
      have hS5 := hS.out wr hB.out.size z bv X hz hown.out (by omega)
      go_wp2_with (first
        | (go_at_call 34; refine hS5.mono ?_; rintro e w6 ⟨v6, rfl, ho6, hb6, hk6⟩; have hB6 := hB.out.trans hb6; replace hB6 : Hid (Below w1.heap.size w1 w6) := hB6; replace ho6 : Hid (Own w6 w1.heap.size v6 (X ++ encS z)) := ho6; replace hb6 : Hid _ := hb6; replace hk6 : Hid _ := hk6))
      go_ret2
      refine ⟨v6, rfl, ?_, hb1.out.trans (hB6.out.mono hb1.out.size)⟩
      have hw : Own w6 w.heap.size v6 (X ++ encS z) := by
        refine ⟨ho6.out.1, ?_⟩
        rcases ho6.out.2 with h | ⟨g, cap, cur, e, h1, h2⟩
        · exact .inl h
        · exact .inr ⟨g, cap, cur, e, Nat.le_trans hb1.out.size h1, h2⟩
      refine hw.cast ?_
      rw [← hX.out]
      simp [foB]
set_option maxRecDepth 100000 in
set_option maxHeartbeats 4000000 in
/-- The document's Put. -/
theorem rput_any (m : ByteArray) (gv : Value) (l : List Gr) (z : Int) (w : World) (hm : m.size ≤ 1000000000000000) (hv : Grs w gv l) (hl : l.length ≤ 1000000000000000) (hr : GrR l) (hi : ∀ g ∈ l, GrI g) (hz : -9223372036854775808 ≤ z ∧ z ≤ 9223372036854775807) :
    Calls Try.prog 18 #[.agg #[.string m, gv, .int .i64 z]] w (PuQ w m l z .i64) := by
  by_cases hok : puE m l z = 0
  · obtain ⟨h1, h2, h3⟩ := puE_ok hok
    refine (rput_ok m gv l z w (nmB_len h1).2 hv (grS_of h3 hi) hz h1 h2 h3).mono ?_
    rintro e w' ⟨v', rfl, h4, h5⟩
    exact ⟨v', by rw [hok], by rw [if_pos hok]; exact h4, h5⟩
  · have hC := rcheck_any gv l (w.alloc (.cells #[.string m, gv, .int .i64 z] 39)) (hv.alloc _) hl hr
    have hN := fun W => rname_any m W (by omega)
    obtain ⟨a, c, rfl⟩ := hv.shape
    have hb1 : Hid (Below w.heap.size w (w.alloc (.cells #[.string m, .slice a l.length c, .int .i64 z] 39))) := (Below.refl _ _).alloc (Nat.le_refl _) _
    have hE : Hid (puE m l z = if nmB m then (if 1 ≤ z then ckE l else 150) else 150) := rfl
    have hbad : Hid (∀ W e, puE m l z = e → e ≠ 0 → Below w.heap.size w W → PuQ w m l z .i64 (.returned (.tuple #[.slice none 0 0, .int .i64 e])) W) := fun W e h1 h2 h3 => ⟨_, by rw [h1], by rw [if_neg (by rw [h1]; exact h2)]; exact World.ownsRow_nil _ _ _ _, h3⟩
    replace hok : Hid (¬ puE m l z = 0) := hok
    clear hv hi hr
    cases hnb : nmB m with
    | false =>
      rw [hnb] at hN hE
      have h150 : Hid (puE m l z = 150) := hE.out
      clear hC
      go_enter Try.func18, Try.ntmps18
      go_wp2_with (first | (go_at_call 24; refine (hN _).mono ?_; rintro e wx ⟨rfl, hwx⟩; subst wx))
      go_ret2
      exact hbad.out _ _ h150.out (by decide) hb1.out
    | true =>
      rw [hnb] at hN hE
      by_cases hz1 : z < 1
      · have h150 : Hid (puE m l z = 150) := hE.out.trans ((if_pos rfl).trans (if_neg (by omega)))
        clear hC
        go_enter Try.func18, Try.ntmps18
        go_wp2_with (first | (go_at_call 24; refine (hN _).mono ?_; rintro e wx ⟨rfl, hwx⟩; subst wx))
        go_ret2
        exact hbad.out _ _ h150.out (by decide) hb1.out
      · have hck : Hid (puE m l z = ckE l) := hE.out.trans ((if_pos rfl).trans (if_pos (by omega)))
        have hne : Hid (ckE l ≠ 0) := fun h => hok.out (hck.out.trans h)
        have hcz : (ckE l == 0) = false := by simpa using hne.out
        have hcn : (ckE l != 0) = true := by simpa using hne.out
        clear hE
        generalize ckE l = CE at *
        go_enter Try.func18, Try.ntmps18
        go_wp2_with (first
          | (go_at_call 24; refine (hN _).mono ?_; rintro e wx ⟨rfl, hwx⟩; subst wx)
          | (go_at_call 11; refine hC.mono ?_; rintro e w2 ⟨rfl, hb2⟩; have hB2 : Below w.heap.size w w2 := hb1.out.trans (hb2.mono (by simp)); replace hB2 : Hid (Below w.heap.size w w2) := hB2; replace hb2 : Hid _ := hb2))
        go_ret2
        exact hbad.out _ _ hck.out hne.out hB2.out
end Go.Proofs.Ytfbeilninpapaaa
