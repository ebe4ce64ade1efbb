/- The contract of the document's Put. -/
import Derived.Test.YtkhnhnaefmcngaaRtx
import Derived.Test.YtkhnhnaefmcngaaRcm
namespace Go.Proofs.Ytkhnhnaefmcngaa
set_option linter.unusedVariables false
open Go.RowKit
theorem strOf_size (xs : List Int) : (strOfNums xs).size = xs.length := by show Array.size _ = _; simp
/-- How a part is wrong, or not. -/
theorem errP_cases (p : Pt) : (p.kind = 1 ∧ p.text.toList.isEmpty = true ∧ errP p = 0) ∨ (p.kind = 1 ∧ p.text.toList.isEmpty = false ∧ errP p = 2) ∨ (p.kind = 2 ∧ p.num = 0 ∧ (256 : Int) < (p.text.size : Int) ∧ errP p = 1) ∨ (p.kind = 2 ∧ p.num = 0 ∧ ¬ (256 : Int) < (p.text.size : Int) ∧ errP p = 0) ∨ (p.kind = 2 ∧ (p.num == 0) = false ∧ errP p = 2) ∨ ((p.kind != 1) = true ∧ (p.kind != 2) = true ∧ errP p = 2) := by
  obtain ⟨k, z, t⟩ := p
  simp only
  by_cases h1 : k = 1
  · subst h1
    by_cases h0 : t.size = 0
    · exact .inl ⟨rfl, by rw [empty_iff]; simpa using h0, by unfold errP; rw [if_pos (.inl ⟨rfl, h0⟩), if_neg (by show ¬ 256 < t.size; omega)]⟩
    · exact .inr (.inl ⟨rfl, by rw [empty_iff]; simpa using h0, by unfold errP; rw [if_neg (fun h => by rcases h with ⟨_, h⟩ | ⟨h, _⟩; exact h0 h; simp at h)]⟩)
  · by_cases h2 : k = 2
    · subst h2
      by_cases hz : z = 0
      · subst hz
        by_cases hl : 256 < t.size
        · exact .inr (.inr (.inl ⟨rfl, rfl, by omega, by unfold errP; rw [if_pos (.inr ⟨rfl, rfl⟩), if_pos hl]⟩))
        · exact .inr (.inr (.inr (.inl ⟨rfl, rfl, by omega, by unfold errP; rw [if_pos (.inr ⟨rfl, rfl⟩), if_neg hl]⟩)))
      · exact .inr (.inr (.inr (.inr (.inl ⟨rfl, by simpa using hz, by unfold errP; rw [if_neg (by simp; exact hz)]⟩))))
    · exact .inr (.inr (.inr (.inr (.inr ⟨by simpa using h1, by simpa using h2, by unfold errP; rw [if_neg (by simp [h1, h2])]⟩))))
set_option maxRecDepth 100000 in
set_option maxHeartbeats 2000000 in
theorem rput_many (v : Value) (l : List Pt) (w : World) (hv : Pts w v l) (h8 : 8 < l.length) (hl : l.length ≤ 9223372036854775807) :
    Calls Try.prog 11 #[v] w fun e w' => e = .returned (.tuple #[.string ⟨#[]⟩, .int .i64 6]) ∧ w' = w := by
  obtain ⟨a, c, rfl, _, _⟩ := hv
  have h8i : (8 : Int) < (l.length : Int) := by omega
  generalize l.length = n at h8i hl ⊢
  clear h8
  go_enter Try.func11, Try.ntmps11
  go_wp2
  go_ret2
  exact ⟨rfl, rfl⟩
set_option maxRecDepth 100000 in
set_option maxHeartbeats 8000000 in
theorem rput_few (v : Value) (l : List Pt) (w : World) (hv : Pts w v l) (hi : Ins l) (h8 : l.length ≤ 8) :
    Calls Try.prog 11 #[v] w fun e w' => e = .returned (.tuple #[.string (putS l), .int .i64 (putE l)]) ∧ Below w.heap.size w w' := by
  have hE : Hid (putE l = firstE l) := by show _ = _; unfold putE; rw [if_neg (by omega)]
  have hg : Hid (∀ W, Below w.heap.size w W → Pts W v l) := fun W hW => hv.grow hW
  obtain ⟨a, c, hva⟩ := hv.shape
  subst hva
  obtain ⟨n, hn⟩ : ∃ n, Hid (n = l.length) := ⟨_, rfl⟩
  rw [← hn.out] at h8 hg ⊢
  replace hi : Hid (Ins l) := hi
  have h8i : ¬ (8 : Int) < (n : Int) := by omega
  obtain ⟨PS, hPS⟩ : ∃ x, Hid (putS l = x) := ⟨_, rfl⟩
  obtain ⟨PE, hPE⟩ : ∃ x, Hid (putE l = x) := ⟨_, rfl⟩
  rw [hPS.out, hPE.out]
  clear hv
  go_enter Try.func11, Try.ntmps11
  go_wp2
  go_loopw [4] (fun i wr => ∃ k : Nat, k ≤ n ∧ i = .int .i64 k ∧ Hid (firstE (l.take k) = 0) ∧ Below w.heap.size w wr) (fun i _ => n - (intOf i).toNat)
  case atStart => exact ⟨0, Nat.zero_le _, rfl, rfl, Below.refl _ _⟩
  case round =>
    obtain ⟨k, hk, rfl, hf, hb⟩ := hrel
    have hz := hb.size
    by_cases hlt : k < n
    · have hltl : k < l.length := by rw [← hn.out]; exact hlt
      obtain ⟨a', c', e, _, hcs⟩ := hg.out wr hb
      have ea : a = a' ∧ n = l.length ∧ c = c' := by simpa using e
      obtain ⟨rfl, -, rfl⟩ := ea
      rcases hcs with hcs | ⟨b, o, rfl, hcs⟩
      · rw [hcs] at hltl; simp at hltl
      obtain ⟨x0, x1, x2⟩ := hcs k hltl
      clear hcs e
      have hft := firstE_at l k hltl hf.out
      replace hft : Hid _ := hft
      have hki : (k : Int) < (n : Int) := by omega
      have hcas := errP_cases (l.getD k pt0)
      generalize l.getD k pt0 = p at *
      have hbad : Hid (errP p ≠ 0 → PS = ⟨#[]⟩ ∧ PE = errP p) := by
        intro h0
        have h1 := hft.out.2 h0
        refine ⟨?_, ?_⟩
        · rw [← hPS.out]
          refine putS_bad ?_
          rw [hE.out, h1]; exact h0
        · rw [← hPE.out, hE.out, h1]
      obtain ⟨kd, z, t⟩ := p
      simp only [] at x0 x1 x2 hcas
      rcases hcas with ⟨rfl, c1, ce⟩ | ⟨rfl, c1, ce⟩ | ⟨rfl, rfl, c1, ce⟩ | ⟨rfl, rfl, c1, ce⟩ | ⟨rfl, c1, ce⟩ | ⟨c0, c1, ce⟩
      · replace ce : Hid _ := ce
        have hnx : Hid (firstE (l.take (k + 1)) = 0) := hft.out.1 ce.out
        clear hft hbad hg
        have hsz : ¬ (256 : Int) < (t.size : Int) := by
          have h0 := c1
          rw [empty_iff] at h0
          have h1 := of_decide_eq_true h0
          omega
        go_wp2
        refine ⟨⟨k + 1, by omega, by go_num, hnx, hb.alloc (by omega) _⟩, ?_⟩
        simp [intOf]; omega
      · obtain ⟨rfl, rfl⟩ := hbad.out (by rw [ce]; omega)
        replace ce : Hid _ := ce
        clear hft hbad hg
        go_wp2
        go_ret2
        exact ⟨by rw [ce.out]; rfl, hb.alloc (by omega) _⟩
      · obtain ⟨rfl, rfl⟩ := hbad.out (by rw [ce]; omega)
        replace ce : Hid _ := ce
        clear hft hbad hg
        go_wp2
        go_ret2
        exact ⟨by rw [ce.out]; rfl, hb.alloc (by omega) _⟩
      · replace ce : Hid _ := ce
        have hnx : Hid (firstE (l.take (k + 1)) = 0) := hft.out.1 ce.out
        clear hft hbad hg
        go_wp2
        refine ⟨⟨k + 1, by omega, by go_num, hnx, hb.alloc (by omega) _⟩, ?_⟩
        simp [intOf]; omega
      · obtain ⟨rfl, rfl⟩ := hbad.out (by rw [ce]; omega)
        replace ce : Hid _ := ce
        clear hft hbad hg
        go_wp2
        go_ret2
        exact ⟨by rw [ce.out]; rfl, hb.alloc (by omega) _⟩
      · obtain ⟨rfl, rfl⟩ := hbad.out (by rw [ce]; omega)
        replace ce : Hid _ := ce
        clear hft hbad hg
        have c2 : (kd == 1) = false := by have := c0; simp at this; simpa using this
        have c3 : (kd == 2) = false := by have := c1; simp at this; simpa using this
        go_wp2
        go_ret2
        exact ⟨by rw [ce.out]; rfl, hb.alloc (by omega) _⟩
    · obtain rfl : k = n := by omega
      have hki : ¬ (k : Int) < (k : Int) := by omega
      have hf2 := hf.out
      rw [List.take_of_length_le (by rw [← hn.out]; omega)] at hf2
      obtain rfl : (0 : Int) = PE := by rw [← hPE.out, hE.out, hf2]
      have hok : Ok l := ⟨by rw [← hn.out]; exact h8, firstE_oks hi.out hf2⟩
      have hPS2 : Hid (PS = strOfNums (keyB l)) := by rw [← hPS.out]; exact putS_ok hok
      replace hok : Hid _ := hok
      clear hf hf2 hPE hE hPS
      obtain ⟨wa, rfl⟩ : ∃ wa : World, wa = wr := ⟨_, rfl⟩
      go_wp2
      go_loopw [6, 7] (fun u i wr => ∃ j : Nat, j ≤ k ∧ i = .int .i64 j ∧ u = .string (strOfNums (keyB (l.take j))) ∧ Below w.heap.size w wr) (fun _ i _ => k - (intOf i).toNat)
      case atStart => exact ⟨0, Nat.zero_le _, rfl, rfl, hb⟩
      case round =>
        obtain ⟨j, hj, rfl, rfl, hbr⟩ := hrel
        have hzr := hbr.size
        by_cases hlt2 : j < k
        · have hltl : j < l.length := by rw [← hn.out]; exact hlt2
          obtain ⟨a', c', e, _, hcs⟩ := hg.out wr hbr
          have ea : a = a' ∧ k = l.length ∧ c = c' := by simpa using e
          obtain ⟨rfl, -, rfl⟩ := ea
          rcases hcs with hcs | ⟨b, o, rfl, hcs⟩
          · rw [hcs] at hltl; simp at hltl
          obtain ⟨x0, x1, x2⟩ := hcs j hltl
          clear hcs e
          have hji : (j : Int) < (k : Int) := by omega
          have hp := hok.out.2 _ (getD_mem l pt0 j hltl)
          have hkt : Hid (strOfNums (keyB (l.take (j + 1))) = strOfNums (keyB (l.take j)) ++ strOfNums (partB (l.getD j pt0))) := by
            show _ = _
            rw [keyB_take l pt0 j hltl, strOf_append]
          have hkl := keyB_len (l := l.take j) (fun q hq => hok.out.2 q (List.mem_of_mem_take hq))
          have htl : (l.take j).length ≤ 8 := by rw [List.length_take]; omega
          have hs1 : (strOfNums (keyB (l.take j))).size ≤ 10000 := by rw [strOf_size]; omega
          have hpl := partB_len hp
          generalize l.getD j pt0 = p at *
          generalize strOfNums (keyB (l.take j)) = S at *
          clear hkl htl hg
          rcases OkP.form hp with ⟨x, rfl, hx⟩ | ⟨t, rfl⟩
          · rw [partB_num rfl] at hkt hpl
            simp only [] at x0 x1 x2 hkt hpl
            have hs2 : (strOfNums (numB x)).size ≤ 10000 := by rw [strOf_size]; omega
            have hcall := fun W => rnumber_any x W hx
            generalize strOfNums (numB x) = N at *
            have hcat : ¬ 9223372036854775807 < S.size + N.size := by omega
            go_wp2_with (go_at_call 24; refine (hcall _).mono ?_; rintro e w2 ⟨rfl, hb2⟩)
            refine ⟨⟨j + 1, by omega, by go_num, by rw [hkt.out], hbr.trans (hb2.mono (by omega))⟩, ?_⟩
            simp [intOf]; omega
          · have ht256 : t.size ≤ 256 := by
              rcases hp with ⟨h, _⟩ | ⟨_, _, h⟩
              · simp at h
              · exact h
            rw [partB_text rfl] at hkt hpl
            simp only [] at x0 x1 x2 hkt hpl
            have hs2 : (strOfNums (textB t)).size ≤ 10000 := by rw [strOf_size]; omega
            have hcall := fun W => rtext_any t W (by omega)
            generalize strOfNums (textB t) = N at *
            have hcat : ¬ 9223372036854775807 < S.size + N.size := by omega
            go_wp2_with (go_at_call 25; refine (hcall _).mono ?_; rintro e w2 ⟨rfl, hb2⟩)
            refine ⟨⟨j + 1, by omega, by go_num, by rw [hkt.out], hbr.trans (hb2.mono (by omega))⟩, ?_⟩
            simp [intOf]; omega
        · obtain rfl : j = k := by omega
          have hji : ¬ (j : Int) < (j : Int) := by omega
          have hfin : Hid (strOfNums (keyB (l.take j)) = PS) := by
            show _ = _
            rw [List.take_of_length_le (by rw [← hn.out]; omega), hPS2.out]
          generalize strOfNums (keyB (l.take j)) = S at *
          clear hg
          go_wp2
          go_ret2
          exact ⟨by rw [← hfin.out]; rfl, hbr⟩
/-- klaxonref07.Put. -/
theorem rput_any (v : Value) (l : List Pt) (w : World) (hv : Pts w v l) (hi : Ins l) (hl : l.length ≤ 9223372036854775807) :
    Calls Try.prog 11 #[v] w fun e w' => e = .returned (.tuple #[.string (putS l), .int .i64 (putE l)]) ∧ Below w.heap.size w w' := by
  by_cases h8 : 8 < l.length
  · refine (rput_many v l w hv h8 hl).mono ?_
    rintro e w' ⟨rfl, rfl⟩
    have he : putE l = 6 := by rw [putE, if_pos h8]
    rw [putS_bad (by omega), he]
    exact ⟨rfl, Below.refl _ _⟩
  · exact rput_few v l w hv hi (by omega)
end Go.Proofs.Ytkhnhnaefmcngaa
