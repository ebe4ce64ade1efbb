/- The document's Reader: Int, New. -/
import Derived.Test.YtfbeilninpapaaaRs
namespace Go.Proofs.Ytfbeilninpapaaa
set_option linter.unusedVariables false
open Go.RowKit
/-- What the document's Int answers. -/
def rrS : List Int → Int × Nat × Int
  | [] => (0, 0, 3)
  | c :: r => if c = 43 ∨ c = 45 then (if (rrN true 0 0 r).2.2 = 0 then ((wS c (rrN true 0 0 r).1).1, 1 + (rrN true 0 0 r).2.1, (wS c (rrN true 0 0 r).1).2) else (0, 0, (rrN true 0 0 r).2.2)) else (0, 0, 10)
theorem rrS_of (bs : List Int) (z : Int) (k : Nat) (h : rdS bs = (z, k, 0)) : rrS bs = (z, k, 0) := by
  cases bs with
  | nil => simp [rdS] at h
  | cons c r =>
    rw [rdS] at h
    rw [rrS]
    by_cases h1 : c = 43 ∨ c = 45
    · rw [if_pos h1] at h ⊢
      by_cases h2 : (rdN true 0 0 r).2.2 = 0
      · rw [if_pos h2] at h
        obtain ⟨n, m, e⟩ : ∃ n m, rdN true 0 0 r = (n, m, 0) := ⟨_, _, by rw [← h2]⟩
        have e2 := rrN_of r true 0 0 n m (by decide) e
        rw [e] at h
        rw [e2, if_pos rfl]
        exact h
      · rw [if_neg h2] at h
        simp only [Prod.mk.injEq] at h
        exact absurd h.2.2 h2
    · rw [if_neg h1] at h
      simp at h
theorem rrS_encS (z : Int) (h1 : -9223372036854775808 ≤ z) (h2 : z ≤ 9223372036854775807) (rest : List Int) : rrS (encS z ++ rest) = (z, (encS z).length, 0) := rrS_of _ _ _ (rdS_encS z h1 h2 rest)
theorem wS_in (c : Int) (n : Nat) : -9223372036854775808 ≤ (wS c n).1 ∧ (wS c n).1 ≤ 9223372036854775807 := by
  unfold wS
  split <;> split <;> (try split) <;> simp <;> omega
theorem rrS_in (bs : List Int) : -9223372036854775808 ≤ (rrS bs).1 ∧ (rrS bs).1 ≤ 9223372036854775807 := by
  cases bs with
  | nil => simp [rrS]
  | cons c r =>
    rw [rrS]
    split
    · split
      · exact wS_in _ _
      · simp
    · simp
theorem wS_z (c : Int) (n : Nat) (h : (wS c n).2 ≠ 0) : (wS c n).1 = 0 := by
  unfold wS at *
  split
  · rename_i hc
    rw [if_pos hc] at h
    split
    · rfl
    · rename_i h0
      rw [if_neg h0] at h
      split
      · rfl
      · rename_i h1
        rw [if_neg h1] at h
        exact absurd rfl h
  · rename_i hc
    rw [if_neg hc] at h
    split
    · rfl
    · rename_i h1
      rw [if_neg h1] at h
      exact absurd rfl h
theorem rrS_z (bs : List Int) (h : (rrS bs).2.2 ≠ 0) : (rrS bs).1 = 0 := by
  cases bs with
  | nil => rfl
  | cons c r =>
    rw [rrS] at *
    split
    · rename_i h1
      rw [if_pos h1] at h
      split
      · rename_i h2
        rw [if_pos h2] at h
        exact wS_z _ _ h
      · rfl
    · rfl
theorem rrS_more (bs : List Int) (h : (rrS bs).2.2 = 0) : 1 ≤ (rrS bs).2.1 ∧ (rrS bs).2.1 ≤ bs.length := by
  cases bs with
  | nil => simp [rrS] at h
  | cons c r =>
    have hb := (rrN_bounds r true 0 0 (by decide)).2
    rw [rrS] at *
    split
    · rename_i h1
      rw [if_pos h1] at h
      split
      · rename_i h2
        have := hb h2
        simp only [List.length_cons]
        omega
      · rename_i h2
        rw [if_neg h2] at h
        exact absurd h h2
    · rename_i h1
      rw [if_neg h1] at h
      simp at h
set_option maxRecDepth 100000 in
set_option maxHeartbeats 1000000 in
theorem rint_bad (lo g : Nat) (bs : List Int) (pl : Nat) (err : Int) (w : World) (hs : IsRd w lo g bs pl err) (he : err ≠ 0) :
    Calls Try.prog 41 #[.pointer (some ⟨g, 0, none⟩)] w fun e w' => e = .returned (.int .i64 0) ∧ w' = w := by
  obtain ⟨a, n0, c, sp, hg, hb, hk, _⟩ := hs
  obtain ⟨c1, f1⟩ := rd_cells hg 1 _ rfl
  obtain ⟨c2, f2⟩ := rd_cells hg 2 _ rfl
  have heb : (err == 0) = false := by simpa using he
  clear hg hb hk
  go_enter Try.func41, Try.ntmps41
  go_wp2
  go_ret
  exact ⟨rfl, rfl⟩
set_option maxRecDepth 100000 in
set_option maxHeartbeats 8000000 in
theorem rint_ok (lo g : Nat) (bs : List Int) (pl : Nat) (w : World) (hs : IsRd w lo g bs pl 0) (hby : IsBytes bs) (hlen : bs.length ≤ 1000000000) :
    Calls Try.prog 41 #[.pointer (some ⟨g, 0, none⟩)] w fun e w' => e = .returned (.int .i64 (rrS (bs.drop pl)).1) ∧ IsRd w' lo g bs (rnQ pl pl (rrS (bs.drop pl))) (rrS (bs.drop pl)).2.2 ∧ w.grownBy w' (some g) := by
  have hpl : pl ≤ bs.length := by obtain ⟨_, _, _, _, _, _, _, h⟩ := hs; exact h
  have hF := fun er => rfail_ok lo g bs pl er pl w hs hpl
  have hsI : Hid (IsRd w lo g bs pl 0) := hs
  obtain ⟨a, n0, c, sp, hg, hb, hk, _⟩ := hs
  obtain rfl := bts_len' hb
  obtain ⟨c0, f0⟩ := rd_cells hg 0 _ rfl
  obtain ⟨c1, f1⟩ := rd_cells hg 1 _ rfl
  obtain ⟨c2, f2⟩ := rd_cells hg 2 _ rfl
  replace hF : Hid _ := hF
  by_cases hlt : pl < bs.length
  · obtain ⟨b, o, rfl, hc⟩ := hb.at pl hlt
    have hcb := hby _ (getD_mem bs 0 pl hlt)
    have hT : Hid (rrS (bs.drop pl) = if bs.getD pl 0 = 43 ∨ bs.getD pl 0 = 45 then (if (rrN true 0 0 (bs.drop (pl + 1))).2.2 = 0 then ((wS (bs.getD pl 0) (rrN true 0 0 (bs.drop (pl + 1))).1).1, 1 + (rrN true 0 0 (bs.drop (pl + 1))).2.1, (wS (bs.getD pl 0) (rrN true 0 0 (bs.drop (pl + 1))).1).2) else (0, 0, (rrN true 0 0 (bs.drop (pl + 1))).2.2)) else (0, 0, 10)) := by
      show _ = _
      rw [drop_at bs pl hlt, rrS]
    generalize rrS (bs.drop pl) = T at *
    generalize bs.getD pl 0 = x at *
    have hli : (pl : Int) < (bs.length : Int) := by omega
    have hlj : ¬ (bs.length : Int) ≤ (pl : Int) := by omega
    have hld : decide ((bs.length : Int) ≤ (pl : Int)) = false := by simp; omega
    by_cases hx : x = 43 ∨ x = 45
    · have hT2 := hT.out.trans (if_pos hx)
      have hm2 := rd_move hsI.out (pl + 1) (by omega)
      have hN := rnumber_ok lo g bs (pl + 1) pl _ hm2.1 hby hlen hpl
      have hmg := hm2.2
      replace hmg : Hid (w.grownBy (w.setCell ⟨g, 1, none⟩ (.int .i64 ((pl + 1 : Nat) : Int))) (some g)) := hmg
      have hRb := rrN_bounds (bs.drop (pl + 1)) true 0 0 (by decide)
      clear hT hm2 hg hb hk hby
      generalize hRR : rrN true 0 0 (bs.drop (pl + 1)) = R at *
      obtain ⟨n, k, er⟩ := R
      simp only at hT2 hRb hN
      replace hN : Calls Try.prog 55 #[.pointer (some ⟨g, 0, none⟩), .int .i64 pl] (w.setCell ⟨g, 1, none⟩ (.int .i64 ((pl : Int) + 1))) fun e w' => e = .returned (.int .u64 (n : Nat)) ∧ IsRd w' lo g bs (rnQ (pl + 1) pl ((n, k, er) : Nat × Nat × Int)) er ∧ (w.setCell ⟨g, 1, none⟩ (.int .i64 ((pl : Int) + 1))).grownBy w' (some g) := hN
      replace hmg : Hid (w.grownBy (w.setCell ⟨g, 1, none⟩ (.int .i64 ((pl : Int) + 1))) (some g)) := hmg.out
      clear hRR
      by_cases her : er = 0
      · subst her
        have hT3 := hT2.trans (if_pos rfl)
        rw [show rnQ (pl + 1) pl ((n, k, (0 : Int)) : Nat × Nat × Int) = pl + 1 + k by simp [rnQ]] at hN
        have hnb := hRb.1
        have hkb := hRb.2 rfl
        rw [List.length_drop] at hkb
        clear hT2 hRb
        replace hT3 : Hid _ := hT3
        rcases hx with rfl | rfl
        · by_cases h1 : 9223372036854775807 < n
          · have hW : wS 43 n = (0, 11) := by unfold wS; rw [if_neg (by decide), if_pos h1]
            have hT4 : Hid (T = (0, 1 + k, 11)) := by show _ = _; rw [hT3.out, hW]
            have h1i : (9223372036854775807 : Int) < (n : Int) := by omega
            clear hT3 hW
            go_enter Try.func41, Try.ntmps41
            go_wp2_with (first
              | (go_at_call 55; refine hN.mono ?_; rintro e w3 ⟨rfl, hI3, hg3⟩; have hF3 := rfail_ok lo g bs (pl + 1 + k) 11 pl w3 hI3 hpl; obtain ⟨a3, n3, c3, sp3, hh3, _, _, _⟩ := id hI3; have d2 := (rd_cells hh3 2 _ rfl).1; clear hh3; replace hI3 : Hid (IsRd w3 lo g bs (pl + 1 + k) 0) := hI3; replace hg3 : Hid _ := hg3)
              | (go_at_call 54; refine hF3.mono ?_; rintro e w4 ⟨rfl, hI4, hg4⟩; replace hI4 : Hid (IsRd w4 lo g bs pl 11) := hI4; replace hg4 : Hid _ := hg4))
            go_ret
            exact ⟨by rw [hT4.out]; rfl, by rw [hT4.out]; exact hI4.out, grown_trans (grown_trans hmg.out hg3.out) hg4.out⟩
          · have hW : wS 43 n = ((n : Int), 0) := by unfold wS; rw [if_neg (by decide), if_neg h1]
            have hT4 : Hid (T = ((n : Int), 1 + k, 0)) := by show _ = _; rw [hT3.out, hW]
            have h1i : ¬ (9223372036854775807 : Int) < (n : Int) := by omega
            have h2i : ¬ (9223372036854775808 : Int) < (n : Int) := by omega
            clear hT3 hW
            go_enter Try.func41, Try.ntmps41
            go_wp2_with (first
              | (go_at_call 55; refine hN.mono ?_; rintro e w3 ⟨rfl, hI3, hg3⟩; obtain ⟨a3, n3, c3, sp3, hh3, _, _, _⟩ := id hI3; have d2 := (rd_cells hh3 2 _ rfl).1; clear hh3; replace hI3 : Hid (IsRd w3 lo g bs (pl + 1 + k) 0) := hI3; replace hg3 : Hid _ := hg3))
            go_ret
            exact ⟨by rw [hT4.out]; first | rfl | (show Ending.returned (.int .i64 _) = Ending.returned (.int .i64 _); congr 2; omega), by rw [hT4.out]; show IsRd w3 lo g bs (pl + (1 + k)) 0; rw [← Nat.add_assoc]; exact hI3.out, grown_trans hmg.out hg3.out⟩
        · by_cases h0 : n = 0
          · have hW : wS 45 n = (0, 10) := by unfold wS; rw [if_pos rfl, if_pos h0]
            have hT4 : Hid (T = (0, 1 + k, 10)) := by show _ = _; rw [hT3.out, hW]
            have h0i : ((n : Int) == 0) = true := by rw [h0]; rfl
            clear h0
            clear hT3 hW
            go_enter Try.func41, Try.ntmps41
            go_wp2_with (first
              | (go_at_call 55; refine hN.mono ?_; rintro e w3 ⟨rfl, hI3, hg3⟩; have hF3 := rfail_ok lo g bs (pl + 1 + k) 10 pl w3 hI3 hpl; obtain ⟨a3, n3, c3, sp3, hh3, _, _, _⟩ := id hI3; have d2 := (rd_cells hh3 2 _ rfl).1; clear hh3; replace hI3 : Hid (IsRd w3 lo g bs (pl + 1 + k) 0) := hI3; replace hg3 : Hid _ := hg3)
              | (go_at_call 54; refine hF3.mono ?_; rintro e w4 ⟨rfl, hI4, hg4⟩; replace hI4 : Hid (IsRd w4 lo g bs pl 10) := hI4; replace hg4 : Hid _ := hg4))
            go_ret
            exact ⟨by rw [hT4.out]; rfl, by rw [hT4.out]; exact hI4.out, grown_trans (grown_trans hmg.out hg3.out) hg4.out⟩
          · have h0i : ((n : Int) == 0) = false := by simpa using h0
            by_cases h1 : 9223372036854775808 < n
            · have hW : wS 45 n = (0, 11) := by unfold wS; rw [if_pos rfl, if_neg h0, if_pos h1]
              have hT4 : Hid (T = (0, 1 + k, 11)) := by show _ = _; rw [hT3.out, hW]
              have h1i : (9223372036854775808 : Int) < (n : Int) := by omega
              clear hT3 hW
              go_enter Try.func41, Try.ntmps41
              go_wp2_with (first
                | (go_at_call 55; refine hN.mono ?_; rintro e w3 ⟨rfl, hI3, hg3⟩; have hF3 := rfail_ok lo g bs (pl + 1 + k) 11 pl w3 hI3 hpl; obtain ⟨a3, n3, c3, sp3, hh3, _, _, _⟩ := id hI3; have d2 := (rd_cells hh3 2 _ rfl).1; clear hh3; replace hI3 : Hid (IsRd w3 lo g bs (pl + 1 + k) 0) := hI3; replace hg3 : Hid _ := hg3)
                | (go_at_call 54; refine hF3.mono ?_; rintro e w4 ⟨rfl, hI4, hg4⟩; replace hI4 : Hid (IsRd w4 lo g bs pl 11) := hI4; replace hg4 : Hid _ := hg4))
              go_ret
              exact ⟨by rw [hT4.out]; rfl, by rw [hT4.out]; exact hI4.out, grown_trans (grown_trans hmg.out hg3.out) hg4.out⟩
            · have hW : wS 45 n = (-(n : Int), 0) := by unfold wS; rw [if_pos rfl, if_neg h0, if_neg h1]
              have hT4 : Hid (T = (-(n : Int), 1 + k, 0)) := by show _ = _; rw [hT3.out, hW]
              have h1i : ¬ (9223372036854775808 : Int) < (n : Int) := by omega
              have h3i : (1 : Int) ≤ (n : Int) := by omega
              clear hT3 hW
              go_enter Try.func41, Try.ntmps41
              go_wp2_with (first
                | (go_at_call 55; refine hN.mono ?_; rintro e w3 ⟨rfl, hI3, hg3⟩; obtain ⟨a3, n3, c3, sp3, hh3, _, _, _⟩ := id hI3; have d2 := (rd_cells hh3 2 _ rfl).1; clear hh3; replace hI3 : Hid (IsRd w3 lo g bs (pl + 1 + k) 0) := hI3; replace hg3 : Hid _ := hg3))
              go_ret
              exact ⟨by rw [hT4.out]; first | rfl | (show Ending.returned (.int .i64 _) = Ending.returned (.int .i64 _); congr 2; omega), by rw [hT4.out]; show IsRd w3 lo g bs (pl + (1 + k)) 0; rw [← Nat.add_assoc]; exact hI3.out, grown_trans hmg.out hg3.out⟩
      · have hT3 : Hid (T = (0, 0, er)) := hT2.trans (if_neg her)
        have hq : Hid (rnQ pl pl (((0, 0, er)) : Int × Nat × Int) = pl) := by show _ = _; simp [rnQ, her]
        rw [show rnQ (pl + 1) pl ((n, k, er) : Nat × Nat × Int) = pl by simp [rnQ, her]] at hN
        have heb : (er == 0) = false := by simpa using her
        clear hT2 hRb her
        rcases hx with rfl | rfl
        · skip
          go_enter Try.func41, Try.ntmps41
          go_wp2_with (first | (go_at_call 55; refine hN.mono ?_; rintro e w3 ⟨rfl, hI3, hg3⟩; obtain ⟨a3, n3, c3, sp3, hh3, _, _, _⟩ := id hI3; have d2 := (rd_cells hh3 2 _ rfl).1; clear hh3; replace hI3 : Hid (IsRd w3 lo g bs pl er) := hI3; replace hg3 : Hid _ := hg3))
          go_ret
          exact ⟨by rw [hT3.out]; rfl, by rw [hT3.out, hq.out]; exact hI3.out, grown_trans hmg.out hg3.out⟩
        · skip
          go_enter Try.func41, Try.ntmps41
          go_wp2_with (first | (go_at_call 55; refine hN.mono ?_; rintro e w3 ⟨rfl, hI3, hg3⟩; obtain ⟨a3, n3, c3, sp3, hh3, _, _, _⟩ := id hI3; have d2 := (rd_cells hh3 2 _ rfl).1; clear hh3; replace hI3 : Hid (IsRd w3 lo g bs pl er) := hI3; replace hg3 : Hid _ := hg3))
          go_ret
          exact ⟨by rw [hT3.out]; rfl, by rw [hT3.out, hq.out]; exact hI3.out, grown_trans hmg.out hg3.out⟩
    · have hT3 : Hid (T = (0, 0, 10)) := hT.out.trans (if_neg hx)
      have x1 : (x == 43) = false := by simp; omega
      have x2 : (x == 45) = false := by simp; omega
      have x3 : (x != 43) = true := by simp; omega
      have x4 : (x != 45) = true := by simp; omega
      clear hT hx hg hb hk
      go_enter Try.func41, Try.ntmps41
      go_wp2_with (first | (go_at_call 54; refine (hF.out 10).mono ?_; rintro e w1 ⟨rfl, hI1, hg1⟩; replace hI1 : Hid _ := hI1; replace hg1 : Hid _ := hg1))
      go_ret
      exact ⟨by rw [hT3.out]; rfl, by rw [hT3.out]; exact hI1.out, hg1.out⟩
  · have hT3 : Hid (rrS (bs.drop pl) = (0, 0, 3)) := by show _ = _; rw [List.drop_of_length_le (by omega)]; rfl
    have hli : (bs.length : Int) ≤ (pl : Int) := by omega
    have hld : decide ((bs.length : Int) ≤ (pl : Int)) = true := by simp; omega
    generalize rrS (bs.drop pl) = T at *
    clear hg hb hk
    go_enter Try.func41, Try.ntmps41
    go_wp2_with (first | (go_at_call 54; refine (hF.out 3).mono ?_; rintro e w1 ⟨rfl, hI1, hg1⟩; replace hI1 : Hid _ := hI1; replace hg1 : Hid _ := hg1))
    go_ret
    exact ⟨by rw [hT3.out]; rfl, by rw [hT3.out]; exact hI1.out, hg1.out⟩
/-- Int. -/
theorem rint_any (lo g : Nat) (bs : List Int) (pl : Nat) (err : Int) (w : World) (hs : IsRd w lo g bs pl err) (hby : IsBytes bs) (hlen : bs.length ≤ 1000000000) :
    Calls Try.prog 41 #[.pointer (some ⟨g, 0, none⟩)] w fun e w' => e = .returned (.int .i64 (nextV 0 err (rrS (bs.drop pl)))) ∧ IsRd w' lo g bs (nextP pl err (rrS (bs.drop pl))) (nextE err (rrS (bs.drop pl))) ∧ w.grownBy w' (some g) := by
  by_cases he : err = 0
  · subst he
    have hv : nextV 0 0 (rrS (bs.drop pl)) = (rrS (bs.drop pl)).1 := by
      unfold nextV; rw [if_pos rfl]
      by_cases h : (rrS (bs.drop pl)).2.2 = 0
      · rw [if_pos h]
      · rw [if_neg h, rrS_z _ h]
    have hE : nextE 0 (rrS (bs.drop pl)) = (rrS (bs.drop pl)).2.2 := by unfold nextE; rw [if_pos rfl]
    rw [nextP_ok, hv, hE]
    exact rint_ok lo g bs pl w hs hby hlen
  · have hv : nextV 0 err (rrS (bs.drop pl)) = 0 := by unfold nextV; rw [if_neg he]
    have hP : nextP pl err (rrS (bs.drop pl)) = pl := by unfold nextP; rw [if_neg he]
    have hE : nextE err (rrS (bs.drop pl)) = err := by unfold nextE; rw [if_neg he]
    rw [hv, hP, hE]
    refine (rint_bad lo g bs pl err w hs he).mono ?_
    rintro e w' ⟨rfl, rfl⟩
    exact ⟨rfl, hs, grown_refl _ _⟩
set_option maxRecDepth 100000 in
set_option maxHeartbeats 1000000 in
/-- New. -/
theorem rnew_any (bs : List Int) (v : Value) (w : World) (hlen : bs.length ≤ 1000000000) (hb : Bts w v bs) :
    Calls Try.prog 38 #[v] w fun e w' => ∃ g, e = .returned (.pointer (some ⟨g, 0, none⟩)) ∧ w.heap.size ≤ g ∧ IsRd w' w.heap.size g bs 0 0 ∧ Below w.heap.size w w' := by
  have hbb : Hid (Bts (w.alloc (.cells #[] 5)) v bs) := hb.alloc _
  have hoo : Hid (Own (w.alloc (.cells #[] 5)) w.heap.size (.slice (some ⟨w.heap.size, 0, none⟩) 0 0) []) := own_emptyB w
  go_enter Try.func38, Try.ntmps38
  go_wp2_with (first
    | (at_builtin; refine appX rfl (.tmp 3) (.tmp 4) rfl w.heap.size (.slice (some ⟨w.heap.size, 0, none⟩) 0 0) v [] bs rfl rfl hoo.out hbb.out (by simp) (by simp; omega) ?_; intro v1 w1 ho1 hb1 _; rw [List.nil_append] at ho1; obtain ⟨a1, c1, rfl⟩ := ho1.shape; replace ho1 : Hid (Own w1 w.heap.size (.slice a1 bs.length c1) bs) := ho1; replace hb1 : Hid (Below w.heap.size (w.alloc (.cells #[] 5)) w1) := hb1))
  go_ret
  have hb2 : Below w.heap.size w w1 := ((Below.refl _ w).alloc (Nat.le_refl _) _).trans hb1.out
  refine ⟨w1.heap.size, rfl, hb2.size, ⟨a1, bs.length, c1, 0, heap_alloc_new w1 _, ho1.out.bts.alloc _, ⟨hb2.size, fun k hk => ?_⟩, Nat.zero_le _⟩, hb2.alloc hb2.size _⟩
  exact ho1.out.lt k hk
end Go.Proofs.Ytfbeilninpapaaa
