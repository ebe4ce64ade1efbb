/- The document's Reader: Uint, Text, Done, New. -/
import Derived.Test.YtfbeilninpapaaaRr
import Derived.Test.YtfbeilninpapaaaLeastM
namespace Go.Proofs.Ytfbeilninpapaaa
set_option linter.unusedVariables false
open Go.RowKit
theorem rrN_z (bs : List Int) : ∀ (f : Bool) (n i : Nat), (rrN f n i bs).2.2 ≠ 0 → (rrN f n i bs).1 = 0 := by
  induction bs with
  | nil => intro f n i _; rfl
  | cons c r ih =>
    intro f n i
    rw [rrN]
    split
    · intro _; rfl
    · split
      · intro _; rfl
      · split
        · intro h; exact absurd rfl h
        · exact ih _ _ _
set_option maxRecDepth 100000 in
set_option maxHeartbeats 1000000 in
theorem rnumber_bad (lo g : Nat) (bs : List Int) (pl p : Nat) (err : Int) (w : World) (hs : IsRd w lo g bs pl err) (he : err ≠ 0) :
    Calls Try.prog 55 #[.pointer (some ⟨g, 0, none⟩), .int .i64 p] w fun e w' => e = .returned (.int .u64 0) ∧ w' = w := by
  obtain ⟨a, n0, c, sp, hg, hb, hk, _⟩ := hs
  obtain ⟨c2, f2⟩ := rd_cells hg 2 _ rfl
  have heb : (err == 0) = false := by simpa using he
  clear hg hb hk
  go_enter Try.func55, Try.ntmps55
  go_wp2
  go_ret
  exact ⟨rfl, rfl⟩
/-- What a reading leaves: the place. -/
theorem nextP_ok {α : Type} (pl : Nat) (R : α × Nat × Int) : nextP pl 0 R = rnQ pl pl R := by unfold nextP rnQ; rw [if_pos rfl]
set_option maxRecDepth 100000 in
set_option maxHeartbeats 1000000 in
/-- Uint. -/
theorem ruint_any (lo g : Nat) (bs : List Int) (pl : Nat) (err : Int) (w : World) (hs : IsRd w lo g bs pl err) (hby : IsBytes bs) (hlen : bs.length ≤ 1000000000) :
    Calls Try.prog 40 #[.pointer (some ⟨g, 0, none⟩)] w fun e w' => e = .returned (.int .u64 ((nextV 0 err (rrN true 0 0 (bs.drop pl)) : Nat) : Int)) ∧ IsRd w' lo g bs (nextP pl err (rrN true 0 0 (bs.drop pl))) (nextE err (rrN true 0 0 (bs.drop pl))) ∧ w.grownBy w' (some g) := by
  have hpl : pl ≤ bs.length := by obtain ⟨_, _, _, _, _, _, _, h⟩ := hs; exact h
  by_cases he : err = 0
  · subst he
    have hN := rnumber_ok lo g bs pl pl w hs hby hlen hpl
    have hz := rrN_z (bs.drop pl) true 0 0
    rw [nextP_ok]
    have hv : nextV 0 0 (rrN true 0 0 (bs.drop pl)) = (rrN true 0 0 (bs.drop pl)).1 := by
      unfold nextV; rw [if_pos rfl]
      by_cases h : (rrN true 0 0 (bs.drop pl)).2.2 = 0
      · rw [if_pos h]
      · rw [if_neg h, hz h]
    have hE : nextE 0 (rrN true 0 0 (bs.drop pl)) = (rrN true 0 0 (bs.drop pl)).2.2 := by unfold nextE; rw [if_pos rfl]
    rw [hv, hE]
    obtain ⟨a, n0, c, sp, hg, hb, hk, _⟩ := hs
    obtain ⟨c1, f1⟩ := rd_cells hg 1 _ rfl
    clear hg hb hk hv hE hz
    generalize rrN true 0 0 (bs.drop pl) = R at *
    go_enter Try.func40, Try.ntmps40
    go_wp2_with (first | (go_at_call 55; refine hN.mono ?_; rintro e w1 ⟨rfl, hI1, hg1⟩; replace hI1 : Hid (IsRd w1 lo g bs (rnQ pl pl R) R.2.2) := hI1; replace hg1 : Hid _ := hg1))
    go_ret
    exact ⟨rfl, hI1.out, hg1.out⟩
  · have hN := rnumber_bad lo g bs pl pl err w hs he
    have hv : nextV 0 err (rrN true 0 0 (bs.drop pl)) = 0 := by unfold nextV; rw [if_neg he]
    have hP : nextP pl err (rrN true 0 0 (bs.drop pl)) = pl := by unfold nextP; rw [if_neg he]
    have hE : nextE err (rrN true 0 0 (bs.drop pl)) = err := by unfold nextE; rw [if_neg he]
    rw [hv, hP, hE]
    have hs2 : Hid (IsRd w lo g bs pl err) := hs
    obtain ⟨a, n0, c, sp, hg, hb, hk, _⟩ := hs
    obtain ⟨c1, f1⟩ := rd_cells hg 1 _ rfl
    clear hg hb hk hv hP hE he
    go_enter Try.func40, Try.ntmps40
    go_wp2_with (first | (go_at_call 55; refine hN.mono ?_; rintro e w1 ⟨rfl, hw1⟩; subst w1))
    go_ret
    exact ⟨rfl, hs2.out, grown_refl _ _⟩
/-- What the document's Text answers. -/
def rrT (most : Nat) (bs : List Int) : List Int × Nat × Int :=
  if (rrN true 0 0 bs).2.2 = 0 then
    (if most < (rrN true 0 0 bs).1 then ([], 0, 1) else if bs.length - (rrN true 0 0 bs).2.1 < (rrN true 0 0 bs).1 then ([], 0, 3)
      else ((bs.drop (rrN true 0 0 bs).2.1).take (rrN true 0 0 bs).1, (rrN true 0 0 bs).2.1 + (rrN true 0 0 bs).1, 0))
  else ([], 0, (rrN true 0 0 bs).2.2)
theorem rrT_encT (most : Nat) (s : ByteArray) (h : s.size ≤ most) (hs : s.size < 2 ^ 64) (rest : List Int) : rrT most (encT s ++ rest) = (numsS s, (encT s).length, 0) := by
  have h1 := rdN_enc s.size hs (numsS s ++ rest)
  have h2 := rrN_of _ _ _ _ _ _ (by decide) h1
  have e : encT s ++ rest = enc s.size ++ (numsS s ++ rest) := by unfold encT; simp
  unfold rrT
  rw [e, h2]
  simp only [if_true]
  rw [if_neg (by omega), if_neg (by simp [numsS_length]), List.drop_left, ← numsS_length s, List.take_left]
  unfold encT
  simp [numsS_length]
theorem rrT_size (most : Nat) (bs : List Int) : (rrT most bs).1.length ≤ most := by
  unfold rrT
  split
  · split
    · simp
    · split
      · simp
      · simp only [List.length_take]; omega
  · simp
theorem rrT_more (most : Nat) (bs : List Int) (h : (rrT most bs).2.2 = 0) : 1 ≤ (rrT most bs).2.1 ∧ (rrT most bs).2.1 ≤ bs.length := by
  have hb := (rrN_bounds bs true 0 0 (by decide)).2
  unfold rrT at *
  split at h
  · rename_i h0
    have := hb h0
    rw [if_pos h0]
    split at h
    · simp at h
    · split at h
      · simp at h
      · rw [if_neg (by assumption), if_neg (by assumption)]
        simp only
        omega
  · rename_i h0
    exact absurd h h0
/-- v[i:j]. -/
theorem slice_ij {w : World} {v : Value} {bs : List Int} (hb : Bts w v bs) (i j : Nat) (hij : i ≤ j) (hj : j ≤ bs.length) :
    ∃ v2, (∀ W, (Instr.slice 40 v (some (.int .i64 (i : Int))) (some (.int .i64 (j : Int))) none).run Try.prog W = .ok v2 W) ∧ Bts w v2 ((bs.drop i).take (j - i)) := by
  obtain ⟨a, c, rfl, ⟨hn, hc⟩, h1⟩ := hb
  refine ⟨sliced a i j c 1, fun W => ?_, ⟨if c = i then a else a.map (·.add (i * 1)), c - i, ?_, ⟨fun e => ?_, by simp; omega⟩, ?_⟩⟩
  · rw [run_slice_lh W 40 a bs.length c elem22 .i64 .i64 i j (by omega) (by omega) (by omega), size5]; simp [Result.andThen]
  · simp only [sliced, List.length_take, List.length_drop]; congr 1; omega
  · by_cases h : c = i
    · omega
    · rw [if_neg h] at e
      simp at e; have := hn e; omega
  · rcases h1 with rfl | ⟨b, o, rfl, hr⟩
    · exact .inl (by simp)
    · by_cases h : i = j
      · exact .inl (by simp [h])
      · refine .inr ⟨b, o + i, ?_, fun t _ ht => ?_⟩
        · rw [if_neg (by omega)]; simp [add_at]
        · rw [List.length_take, List.length_drop] at ht
          have := hr (i + t) (Nat.zero_le _) (by omega)
          rw [show o + i + t = o + (i + t) by omega, this]
          simp [show t < j - i by omega]
set_option maxRecDepth 100000 in
set_option maxHeartbeats 1000000 in
theorem rtext_bad (lo g : Nat) (bs : List Int) (pl most : Nat) (err : Int) (w : World) (hs : IsRd w lo g bs pl err) (hby : IsBytes bs) (hlen : bs.length ≤ 1000000000) (he : err ≠ 0) :
    Calls Try.prog 39 #[.pointer (some ⟨g, 0, none⟩), .int .i64 most] w fun e w' => e = .returned (.string ⟨#[]⟩) ∧ IsRd w' lo g bs pl err ∧ w.grownBy w' (some g) := by
  have hN := ruint_any lo g bs pl err w hs hby hlen
  have hv : nextV 0 err (rrN true 0 0 (bs.drop pl)) = 0 := by unfold nextV; rw [if_neg he]
  have hP : nextP pl err (rrN true 0 0 (bs.drop pl)) = pl := by unfold nextP; rw [if_neg he]
  have hE : nextE err (rrN true 0 0 (bs.drop pl)) = err := by unfold nextE; rw [if_neg he]
  rw [hv, hP, hE] at hN
  obtain ⟨a, n0, c, sp, hg, hb, hk, _⟩ := hs
  obtain ⟨c1, f1⟩ := rd_cells hg 1 _ rfl
  have heb : (err == 0) = false := by simpa using he
  clear hg hb hk hv hP hE he
  go_enter Try.func39, Try.ntmps39
  go_wp2_with (first | (go_at_call 40; refine hN.mono ?_; rintro e w1 ⟨rfl, hI1, hg1⟩; obtain ⟨a1, n1, c1', sp1, hh1, hb1, hk1, hp1⟩ := id hI1; have d2 := (rd_cells hh1 2 _ rfl).1; clear hh1 hb1 hk1 hp1; replace hI1 : Hid (IsRd w1 lo g bs pl err) := hI1; replace hg1 : Hid _ := hg1))
  go_ret
  exact ⟨rfl, hI1.out, hg1.out⟩
set_option maxRecDepth 100000 in
set_option maxHeartbeats 4000000 in
theorem rtext_ok (lo g : Nat) (bs : List Int) (pl most : Nat) (w : World) (hs : IsRd w lo g bs pl 0) (hby : IsBytes bs) (hlen : bs.length ≤ 1000000000) (hmost : most ≤ 1000000000) :
    Calls Try.prog 39 #[.pointer (some ⟨g, 0, none⟩), .int .i64 most] w fun e w' => e = .returned (.string (strOfNums (rrT most (bs.drop pl)).1)) ∧ IsRd w' lo g bs (rnQ pl pl (rrT most (bs.drop pl))) (rrT most (bs.drop pl)).2.2 ∧ w.grownBy w' (some g) := by
  have hpl : pl ≤ bs.length := by obtain ⟨_, _, _, _, _, _, _, h⟩ := hs; exact h
  have hN := ruint_any lo g bs pl 0 w hs hby hlen
  rw [nextP_ok] at hN
  have hE : nextE 0 (rrN true 0 0 (bs.drop pl)) = (rrN true 0 0 (bs.drop pl)).2.2 := by unfold nextE; rw [if_pos rfl]
  rw [hE] at hN
  obtain ⟨a, n0, c, sp, hg, hb, hk, _⟩ := hs
  obtain ⟨c1, f1⟩ := rd_cells hg 1 _ rfl
  clear hg hb hk hE
  have hRb := rrN_bounds (bs.drop pl) true 0 0 (by decide)
  have hT : Hid (rrT most (bs.drop pl) = if (rrN true 0 0 (bs.drop pl)).2.2 = 0 then (if most < (rrN true 0 0 (bs.drop pl)).1 then ([], 0, 1) else if (bs.drop pl).length - (rrN true 0 0 (bs.drop pl)).2.1 < (rrN true 0 0 (bs.drop pl)).1 then ([], 0, 3) else (((bs.drop pl).drop (rrN true 0 0 (bs.drop pl)).2.1).take (rrN true 0 0 (bs.drop pl)).1, (rrN true 0 0 (bs.drop pl)).2.1 + (rrN true 0 0 (bs.drop pl)).1, 0)) else ([], 0, (rrN true 0 0 (bs.drop pl)).2.2)) := rfl
  generalize rrT most (bs.drop pl) = T at *
  generalize hRR : rrN true 0 0 (bs.drop pl) = R at *
  obtain ⟨n, k, er⟩ := R
  simp only at hRb hT hN
  by_cases her : er = 0
  · subst her
    have hv : nextV 0 0 ((n, k, (0 : Int)) : Nat × Nat × Int) = n := by simp [nextV]
    have hq : rnQ pl pl ((n, k, (0 : Int)) : Nat × Nat × Int) = pl + k := by simp [rnQ]
    rw [hv, hq] at hN
    have hT2 := hT.out.trans (if_pos rfl)
    have hkb := hRb.2 rfl
    have hnb := hRb.1
    rw [List.length_drop] at hkb hT2
    clear hv hq hT hRR
    by_cases h1 : most < n
    · have hT3 : Hid (T = ([], 0, 1)) := hT2.trans (if_pos h1)
      have h1i : (most : Int) < (n : Int) := by omega
      clear hT2
      go_enter Try.func39, Try.ntmps39
      go_wp2_with (first
        | (go_at_call 40; refine hN.mono ?_; rintro e w1 ⟨rfl, hI1, hg1⟩; have hF1 := rfail_ok lo g bs (pl + k) 1 pl w1 hI1 hpl; obtain ⟨a1, n1, c1', sp1, hh1, hb1, hk1, hp1⟩ := id hI1; have d2 := (rd_cells hh1 2 _ rfl).1; clear hh1 hb1 hk1 hp1; replace hI1 : Hid (IsRd w1 lo g bs (pl + k) 0) := hI1; replace hg1 : Hid (w.grownBy w1 (some g)) := hg1)
        | (go_at_call 54; refine hF1.mono ?_; rintro e w2 ⟨rfl, hI2, hg2⟩; replace hI2 : Hid (IsRd w2 lo g bs pl 1) := hI2; replace hg2 : Hid (w1.grownBy w2 (some g)) := hg2))
      all_goals first
        | (exfalso; omega)
        | (go_ret
           exact ⟨by rw [hT3.out]; rfl, by rw [hT3.out]; exact hI2.out, grown_trans hg1.out hg2.out⟩)
    · have hT3 := hT2.trans (if_neg h1)
      have h1i : ¬ (most : Int) < (n : Int) := by omega
      clear hT2
      replace hT3 : Hid _ := hT3
      go_enter Try.func39, Try.ntmps39
      go_wp2_with (first
        | (go_at_call 40; refine hN.mono ?_; rintro e w1 ⟨rfl, hI1, hg1⟩; obtain ⟨a1, n1, c1', sp1, hh1, hb1, hk1, hp1⟩ := id hI1; have d2 := (rd_cells hh1 2 _ rfl).1; clear hh1 hb1 hk1 hp1; replace hI1 : Hid (IsRd w1 lo g bs (pl + k) 0) := hI1; replace hg1 : Hid (w.grownBy w1 (some g)) := hg1))
      all_goals try (exfalso; omega)
      obtain ⟨a1, n1, c1', sp1, hh1, hb1, hk1, hp1⟩ := hI1.out
      have e0 : ∀ p : Bel w1, p.W.cell? ⟨g, 0, none⟩ = some (.slice a1 n1 c1') := fun p => p.cell (rd_cells hh1 0 _ rfl).1
      have e1 : ∀ p : Bel w1, p.W.cell? ⟨g, 1, none⟩ = some (.int .i64 ((pl + k : Nat) : Int)) := fun p => p.cell (rd_cells hh1 1 _ rfl).1
      have hll : ∀ W, (Builtin.len_ #[40] 3 #[.slice a1 n1 c1']).run Try.prog W = .ok (.int .i64 (bs.length : Nat)) W := fun W => len_bts hb1 W
      obtain ⟨v, hv⟩ : ∃ v, v = Value.slice a1 n1 c1' := ⟨_, rfl⟩
      rw [← hv] at e0 hll
      have hbv : Hid (Bts w1 v bs) := by rw [hv]; exact hb1
      have hvk : Hid (∀ q, v.ownBlock = some q → q ≠ g) := fun q h => by rw [hv] at h; exact Nat.ne_of_lt (hk1.2 q h).2
      have hcv : Hid (w1.cell? ⟨g, 0, none⟩ = some v) := by rw [hv]; exact (rd_cells hh1 0 _ rfl).1
      clear hv hh1 hb1 hk1 hp1 d2
      obtain ⟨i, hi⟩ : ∃ i, i = pl + k := ⟨_, rfl⟩
      rw [← hi] at e1
      have hi2 : Hid (i = pl + k) := hi
      have hil : i ≤ bs.length := by omega
      have hsb : IntKind.u64.wrap (((bs.length : Nat) : Int) - (i : Int)) = ((bs.length - i : Nat) : Int) := by
        simp only [IntKind.wrap, IntKind.bits, IntKind.signed]; simp; omega
      by_cases h2 : bs.length - pl - k < n
      · have hT4 : Hid (T = ([], 0, 3)) := hT3.out.trans (if_pos h2)
        have h2i : ((bs.length - i : Nat) : Int) < (n : Int) := by omega
        have h2d : decide (((bs.length - i : Nat) : Int) < (n : Int)) = true := by simpa using h2i
        clear hi hT3
        refine wp_region_bel (by kernel_rfl) (by kernel_rfl) ?_
        repeat (go_big_quiet_step (fail))
        refine wpQuiet_nil ?_
        rintro wq ⟨p, hp⟩
        have hq : Below w1.heap.size w1 wq := by rw [hp]; exact p.h
        clear hp
        have hI2 := (rd_stay hI1.out hq).1
        have hF1 := rfail_ok lo g bs (pl + k) 3 pl wq hI2 hpl
        have hgq : Hid (w.grownBy wq (some g)) := grown_trans hg1.out (grownBy_below hq _)
        replace hI2 : Hid _ := hI2
        go_wp2_with (first
          | (go_at_call 54; refine hF1.mono ?_; rintro e w2 ⟨rfl, hI3, hg3⟩; replace hI3 : Hid (IsRd w2 lo g bs pl 3) := hI3; replace hg3 : Hid (wq.grownBy w2 (some g)) := hg3))
        go_ret
        exact ⟨by rw [hT4.out]; rfl, by rw [hT4.out]; exact hI3.out, grown_trans hgq.out hg3.out⟩
      · have hT4 : Hid (T = _) := hT3.out.trans (if_neg h2)
        have h2i : ¬ ((bs.length - i : Nat) : Int) < (n : Int) := by omega
        have h2d : decide (((bs.length - i : Nat) : Int) < (n : Int)) = false := by simpa using h2i
        clear hi hT3
        refine wp_region_bel (by kernel_rfl) (by kernel_rfl) ?_
        repeat (go_big_quiet_step (fail))
        refine wpQuiet_nil ?_
        rintro wq ⟨p, hp⟩
        have hq : Below w1.heap.size w1 wq := by rw [hp]; exact p.h
        clear hp
        obtain ⟨hI2, _⟩ := rd_stay hI1.out hq
        have hgq : Hid (w.grownBy wq (some g)) := grown_trans hg1.out (grownBy_below hq _)
        have hcq : wq.cell? ⟨g, 0, none⟩ = some v := (hq.cell (p := ⟨g, 0, none⟩) (World.block_lt_of_cell? w1 _ hcv.out)).trans hcv.out
        have hbq : Bts wq v bs := hbv.out.grow hq
        obtain ⟨a2, n2, c2', sp2, hh2, hb2, hk2, hp2⟩ := id hI2
        have q1 := (rd_cells hh2 1 _ rfl).1
        have q1f := (rd_cells hh2 1 _ rfl).2
        replace q1 : wq.cell? ⟨g, 1, none⟩ = some (.int .i64 (i : Int)) := by rw [q1, hi2.out]; rfl
        have hv2 : Value.slice a2 n2 c2' = v := by
          have := (rd_cells hh2 0 _ rfl).1
          rw [hcq] at this
          exact (Option.some.inj this).symm
        have hW2 := block_setCell (i := 1) (u := .int .i64 ((i : Int) + (n : Int))) hh2
        have m0 : (wq.setCell ⟨g, 1, none⟩ (.int .i64 ((i : Int) + (n : Int)))).cell? ⟨g, 0, none⟩ = some v := by
          have := (rd_cells hW2 0 _ rfl).1
          rw [← hv2]; exact this
        have m1 : (wq.setCell ⟨g, 1, none⟩ (.int .i64 ((i : Int) + (n : Int)))).cell? ⟨g, 1, none⟩ = some (.int .i64 ((i : Int) + (n : Int))) := (rd_cells hW2 1 _ rfl).1
        clear hh2 hb2 hk2 hp2 e0 e1 hW2 hv2
        have hmv := rd_move hI2 (i + n) (by omega)
        have hbm : Bts (wq.setCell ⟨g, 1, none⟩ (.int .i64 ((i : Int) + (n : Int)))) v bs := hbq.other (Below.refl _ _) hvk.out
        obtain ⟨v2, hsl, hbs2⟩ := slice_ij hbm i (i + n) (by omega) (by omega)
        replace hsl : ∀ W, (Instr.slice 40 v (some (.int .i64 (i : Int))) (some (.int .i64 ((i : Int) + (n : Int)))) none).run Try.prog W = .ok v2 W := hsl
        have hsub : (i : Int) + (n : Int) - (n : Int) = (i : Int) := by omega
        have hfin : Hid (IsRd (wq.setCell ⟨g, 1, none⟩ (.int .i64 ((i : Int) + (n : Int)))) lo g bs (i + n) 0 ∧ w.grownBy (wq.setCell ⟨g, 1, none⟩ (.int .i64 ((i : Int) + (n : Int)))) (some g)) := ⟨hmv.1, grown_trans hgq.out hmv.2⟩
        clear hmv hcq hbq
        have z0 : ∀ p : Bel (wq.setCell ⟨g, 1, none⟩ (.int .i64 ((i : Int) + (n : Int)))), p.W.cell? ⟨g, 0, none⟩ = some v := fun p => p.cell m0
        have z1 : ∀ p : Bel (wq.setCell ⟨g, 1, none⟩ (.int .i64 ((i : Int) + (n : Int)))), p.W.cell? ⟨g, 1, none⟩ = some (.int .i64 ((i : Int) + (n : Int))) := fun p => p.cell m1
        have zc : ∀ p : Bel (wq.setCell ⟨g, 1, none⟩ (.int .i64 ((i : Int) + (n : Int)))), (convert 40 9 v2).run Try.prog p.W = .ok (.string (strOfNums ((bs.drop i).take (i + n - i)))) p.W := fun p => conv_str (hbs2.grow p.h)
        generalize hS : strOfNums ((bs.drop i).take (i + n - i)) = S at zc
        replace hS : Hid _ := hS
        clear hbs2 hbm m0 m1
        replace hI2 : Hid _ := hI2
        go_wp2
        refine wp_region_bel (by kernel_rfl) (by kernel_rfl) ?_
        repeat (go_big_quiet_step (fail))
        refine wpQuiet_nil ?_
        rintro w5 ⟨p, hp⟩
        have hq5 : Below (wq.setCell ⟨g, 1, none⟩ (.int .i64 ((i : Int) + (n : Int)))).heap.size (wq.setCell ⟨g, 1, none⟩ (.int .i64 ((i : Int) + (n : Int)))) w5 := by rw [hp]; exact p.h
        clear hp
        obtain ⟨hI5, hg5⟩ := rd_stay hfin.out.1 hq5
        have hg6 : Hid (w.grownBy w5 (some g)) := grown_trans hfin.out.2 hg5
        replace hI5 : Hid (IsRd w5 lo g bs (i + n) 0) := hI5
        go_wp2
        go_ret
        refine ⟨?_, ?_, hg6.out⟩
        · rw [hT4.out]
          show Ending.returned (.string S) = _
          rw [← hS.out, show i + n - i = n by omega, hi2.out, List.drop_drop]
        · rw [hT4.out]
          show IsRd w5 lo g bs (pl + (k + n)) 0
          rw [show pl + (k + n) = i + n by have := hi2.out; omega]
          exact hI5.out
  · have hT3 : Hid (T = ([], 0, er)) := hT.out.trans (if_neg her)
    have hq : rnQ pl pl ((n, k, er) : Nat × Nat × Int) = pl := by simp [rnQ, her]
    rw [hq] at hN
    generalize nextV 0 0 ((n, k, er) : Nat × Nat × Int) = N at *
    have heb : (er == 0) = false := by simpa using her
    replace her : Hid (¬ er = 0) := her
    clear hT hRb hRR hq
    go_enter Try.func39, Try.ntmps39
    go_wp2_with (first
      | (go_at_call 40; refine hN.mono ?_; rintro e w1 ⟨rfl, hI1, hg1⟩; obtain ⟨a1, n1, c1', sp1, hh1, hb1, hk1, hp1⟩ := id hI1; have d2 := (rd_cells hh1 2 _ rfl).1; clear hh1 hb1 hk1 hp1; replace hI1 : Hid (IsRd w1 lo g bs pl er) := hI1; replace hg1 : Hid _ := hg1))
    go_ret
    exact ⟨by rw [hT3.out]; rfl, by rw [hT3.out, show rnQ pl pl (([], 0, er) : List Int × Nat × Int) = pl by simp [rnQ, her.out]]; exact hI1.out, hg1.out⟩
/-- Text. -/
theorem rtext_any (lo g : Nat) (bs : List Int) (pl most : Nat) (err : Int) (w : World) (hs : IsRd w lo g bs pl err) (hby : IsBytes bs) (hlen : bs.length ≤ 1000000000) (hmost : most ≤ 1000000000) :
    Calls Try.prog 39 #[.pointer (some ⟨g, 0, none⟩), .int .i64 most] w fun e w' => e = .returned (.string (strOfNums (nextV [] err (rrT most (bs.drop pl))))) ∧ IsRd w' lo g bs (nextP pl err (rrT most (bs.drop pl))) (nextE err (rrT most (bs.drop pl))) ∧ w.grownBy w' (some g) := by
  by_cases he : err = 0
  · subst he
    have hv : nextV [] 0 (rrT most (bs.drop pl)) = (rrT most (bs.drop pl)).1 := by
      unfold nextV; rw [if_pos rfl]
      by_cases h : (rrT most (bs.drop pl)).2.2 = 0
      · rw [if_pos h]
      · rw [if_neg h]
        unfold rrT at *
        split
        · rename_i h0
          rw [if_pos h0] at h
          split
          · rfl
          · split
            · rfl
            · rename_i h1 h2
              rw [if_neg h1, if_neg h2] at h
              exact absurd rfl h
        · rfl
    have hE : nextE 0 (rrT most (bs.drop pl)) = (rrT most (bs.drop pl)).2.2 := by unfold nextE; rw [if_pos rfl]
    rw [nextP_ok, hv, hE]
    exact rtext_ok lo g bs pl most w hs hby hlen hmost
  · have hv : nextV [] err (rrT most (bs.drop pl)) = [] := by unfold nextV; rw [if_neg he]
    have hP : nextP pl err (rrT most (bs.drop pl)) = pl := by unfold nextP; rw [if_neg he]
    have hE : nextE err (rrT most (bs.drop pl)) = err := by unfold nextE; rw [if_neg he]
    rw [hv, hP, hE]
    exact rtext_bad lo g bs pl most err w hs hby hlen he
set_option maxRecDepth 100000 in
set_option maxHeartbeats 1000000 in
/-- Done. -/
theorem rdone_any (lo g : Nat) (bs : List Int) (pl : Nat) (err : Int) (w : World) (hs : IsRd w lo g bs pl err) (hlen : bs.length ≤ 1000000000) :
    Calls Try.prog 42 #[.pointer (some ⟨g, 0, none⟩)] w fun e w' => e = .returned (.int .i64 (if err = 0 then (if pl < bs.length then 4 else 0) else err)) ∧ Below w.heap.size w w' := by
  obtain ⟨a, n0, c, sp, hg, hb, hk, hpl⟩ := hs
  obtain rfl := bts_len' hb
  have e0 : ∀ p : Bel w, p.W.cell? ⟨g, 0, none⟩ = some (.slice a bs.length c) := fun p => p.cell (rd_cells hg 0 _ rfl).1
  have e1 : ∀ p : Bel w, p.W.cell? ⟨g, 1, none⟩ = some (.int .i64 (pl : Int)) := fun p => p.cell (rd_cells hg 1 _ rfl).1
  have e2 : ∀ p : Bel w, p.W.cell? ⟨g, 2, none⟩ = some (.int .i64 err) := fun p => p.cell (rd_cells hg 2 _ rfl).1
  have f2 : Hid (∀ W, Below w.heap.size w W → W.cell? ⟨g, 2, none⟩ = some (.int .i64 err)) := fun W h => (⟨W, h⟩ : Bel w).cell (rd_cells hg 2 _ rfl).1
  clear hg hb hk
  generalize hX : (if err = 0 then (if pl < bs.length then (4 : Int) else 0) else err) = X
  rcases Bool.eq_false_or_eq_true (err == 0) with he | he
  · have he0 : Hid (err = 0) := by show _ = _; simpa using he
    rw [if_pos he0.out] at hX
    by_cases h1 : pl < bs.length
    · rw [if_pos h1] at hX
      have h1i : (pl : Int) < (bs.length : Int) := by omega
      have h1d : decide ((pl : Int) < (bs.length : Int)) = true := by simpa using h1i
      replace hX : Hid _ := hX
      go_enter Try.func42, Try.ntmps42
      go_wp2
      refine wp_region_bel (by kernel_rfl) (by kernel_rfl) ?_
      repeat (go_big_quiet_step (fail))
      refine wpQuiet_nil ?_
      rintro wq ⟨p, hp⟩
      have hq : Below w.heap.size w wq := by rw [hp]; exact p.h
      clear hp
      go_wp2
      go_ret
      exact ⟨by rw [← hX.out]; rfl, hq⟩
    · rw [if_neg h1] at hX
      have h1i : ¬ (pl : Int) < (bs.length : Int) := by omega
      have h1d : decide ((pl : Int) < (bs.length : Int)) = false := by simpa using h1i
      replace hX : Hid _ := hX
      go_enter Try.func42, Try.ntmps42
      go_wp2
      refine wp_region_bel (by kernel_rfl) (by kernel_rfl) ?_
      repeat (go_big_quiet_step (fail))
      refine wpQuiet_nil ?_
      rintro wq ⟨p, hp⟩
      have hq : Below w.heap.size w wq := by rw [hp]; exact p.h
      clear hp
      have q2 := f2.out wq hq
      go_wp2
      go_ret
      exact ⟨by rw [← hX.out, ← he0.out]; rfl, hq⟩
  · have he0 : ¬ err = 0 := by simpa using he
    rw [if_neg he0] at hX
    replace hX : Hid _ := hX
    clear he0
    go_enter Try.func42, Try.ntmps42
    go_wp2
    refine wp_region_bel (by kernel_rfl) (by kernel_rfl) ?_
    repeat (go_big_quiet_step (fail))
    refine wpQuiet_nil ?_
    rintro wq ⟨p, hp⟩
    have hq : Below w.heap.size w wq := by rw [hp]; exact p.h
    clear hp
    have q2 := f2.out wq hq
    go_wp2
    go_ret
    exact ⟨by rw [← hX.out]; rfl, hq⟩
end Go.Proofs.Ytfbeilninpapaaa
