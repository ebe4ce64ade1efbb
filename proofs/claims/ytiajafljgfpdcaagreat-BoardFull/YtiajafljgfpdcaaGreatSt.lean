/- The document's Set. -/
import Derived.Test.YtiajafljgfpdcaaGreatQb
namespace Go.Proofs.YtiajafljgfpdcaaGreat
set_option linter.unusedVariables false
open Go.RowKit
open Classical in
noncomputable def setB (l : List Lb) : Bool := decide (IsSet l)
theorem setB_iff {l : List Lb} : setB l = true ↔ IsSet l := by simp [setB]
theorem setB_no {l : List Lb} (h : ¬ IsSet l) : setB l = false := by simp [setB, h]
/-- Labels that may be, by rising names. -/
def Okl (l : List Lb) : Prop := (∀ a ∈ l, IsLb a) ∧ Rise l
theorem Okl.nil : Okl [] := ⟨(fun a h => by cases h), List.Pairwise.nil⟩
theorem Okl.take {l : List Lb} (h : Okl l) (k : Nat) : Okl (l.take k) := ⟨fun a ha => h.1 a (List.mem_of_mem_take ha), List.Pairwise.sublist (List.take_sublist k l) h.2⟩
theorem rise_snoc {l : List Lb} {a : Lb} (h : Rise l) (ha : ∀ b ∈ l, Nlt b a) : Rise (l ++ [a]) := by
  unfold Rise
  rw [List.pairwise_append]
  exact ⟨h, List.pairwise_cons.2 ⟨(fun b hb => by cases hb), List.Pairwise.nil⟩, fun b hb c hc => by
    have : c = a := by simpa using hc
    subst this; exact ha b hb⟩
theorem okl_snoc {l : List Lb} {a : Lb} (h : Okl l) (hl : IsLb a) (ha : l = [] ∨ ∃ m b, l = m ++ [b] ∧ Nlt b a) : Okl (l ++ [a]) := by
  refine ⟨fun b hb => ?_, rise_snoc h.2 fun b hb => ?_⟩
  · rcases List.mem_append.1 hb with hb | hb
    · exact h.1 b hb
    · have : b = a := by simpa using hb
      subst this; exact hl
  · rcases ha with rfl | ⟨m, c, rfl, hc⟩
    · cases hb
    · rcases List.mem_append.1 hb with hb | hb
      · have h2 := h.2
        unfold Rise at h2
        rw [List.pairwise_append] at h2
        exact (h2.2.2 b hb c (by simp)).trans hc
      · have : b = c := by simpa using hb
        subst this; exact hc
theorem okl_zero {l : List Lb} (h0 : 0 < l.length) (hl : IsLb (l.getD 0 lb0)) : Okl (l.take 1) := by
  rw [take_getD l lb0 0 h0]
  exact okl_snoc Okl.nil hl (.inl rfl)
theorem okl_succ {l : List Lb} {j : Nat} (h : Okl (l.take (j + 1))) (hk : j + 1 < l.length) (hl : IsLb (l.getD (j + 1) lb0)) (hn : Nlt (l.getD j lb0) (l.getD (j + 1) lb0)) : Okl (l.take (j + 1 + 1)) := by
  rw [take_getD l lb0 (j + 1) hk]
  refine okl_snoc h hl (.inr ⟨l.take j, l.getD j lb0, take_getD l lb0 j (by omega), hn⟩)
theorem not_okl_lb {l : List Lb} {k : Nat} (hk : k < l.length) (h : ¬ IsLb (l.getD k lb0)) : ¬ Okl l := fun g => h (g.1 _ (getD_mem l lb0 k hk))
theorem not_okl_lt {l : List Lb} {j : Nat} (hk : j + 1 < l.length) (h : ¬ Nlt (l.getD j lb0) (l.getD (j + 1) lb0)) : ¬ Okl l := by
  rintro ⟨_, g⟩
  unfold Rise at g
  rw [List.pairwise_iff_getElem] at g
  refine h ?_
  have := g j (j + 1) (by omega) hk (by omega)
  rw [List.getD_eq_getElem?_getD, List.getD_eq_getElem?_getD, List.getElem?_eq_getElem (by omega), List.getElem?_eq_getElem hk]
  exact this
theorem set_of_okl {l : List Lb} (h : ¬ Okl l) : ¬ IsSet l := fun g => h ⟨g.1, g.2.1⟩
theorem nlt_less (a b : Lb) : Op.bytesLess a.name.toList b.name.toList = decide (Nlt a b) := less_cmp _ _
theorem LbsR.at {l : List Lb} (h : LbsR l) {k : Nat} (hk : k < l.length) : LbR (l.getD k lb0) := h _ (getD_mem l lb0 k hk)
set_option maxRecDepth 100000 in
set_option maxHeartbeats 2000000 in
theorem set_any (v : Value) (l : List Lb) (w : World) (hv : Lbs w v l) (hr : LbsR l) (hlen : l.length ≤ 9223372036854775807) : Calls Tryz.prog 31 #[v] w fun e w' => e = .returned (.bool (setB l)) ∧ Below w.heap.size w w' := by
  obtain ⟨a, c, rfl⟩ := hv.shape
  replace hv : Hid _ := hv
  replace hr : Hid _ := hr
  go_enter Tryz.func31, Tryz.ntmps31
  go_wp2
  go_loopw [3] (fun i wr => ∃ k : Nat, k ≤ l.length ∧ i = .int .i64 k ∧ Okl (l.take k) ∧ Below w.heap.size w wr) (fun i _ => l.length - (intOf i).toNat)
  case atStart => exact ⟨0, Nat.zero_le _, rfl, Okl.nil, Below.refl _ _⟩
  case round =>
    obtain ⟨k, hk, rfl, hok, hB⟩ := hrel
    by_cases hlt : k < l.length
    · have hki : (k : Int) < (l.length : Int) := by omega
      obtain ⟨b, o, rfl, hc0, hc1⟩ := lb_at (Sls.grow hv.out hB) k hlt
      have hI := fun W => calls_alloc (is_any (l.getD k lb0) W (LbsR.at hr.out hlt))
      have c0 : ∀ p : Bel wr, p.W.cell? ⟨b, o + k * 2, none⟩ = some (.string (l.getD k lb0).name) := fun p => p.cell hc0
      have c1 : ∀ p : Bel wr, p.W.cell? ⟨b, o + k * 2 + 1, none⟩ = some (.string (l.getD k lb0).value) := fun p => p.cell hc1
      clear hc0 hc1
      cases hlb : lbB (l.getD k lb0) with
      | false =>
        have hn : Hid (setB l = false) := setB_no (set_of_okl (not_okl_lb hlt (fun h => by rw [lbB_iff.2 h] at hlb; cases hlb)))
        rw [hlb] at hI
        clear hlb
        generalize l.getD k lb0 = x at *
        obtain ⟨n, u⟩ := x
        unfold lbV at hI
        simp only at hI c0 c1
        go_wp2
        refine wp_region_bel (by kernel_rfl) (by kernel_rfl) ?_
        repeat (go_big_quiet_step ((go_at_call 66; exact Calls.bel (hI _))))
        refine wpQuiet_nil ?_
        rintro _ ⟨⟨wq, hq⟩, rfl⟩
        go_wp2
        go_ret
        exact ⟨by rw [hn.out]; rfl, hB.trans (hq.mono hB.size)⟩
      | true =>
        have hil : IsLb (l.getD k lb0) := lbB_iff.1 hlb
        rw [hlb] at hI
        clear hlb
        cases k with
        | zero =>
          have hok2 := okl_zero hlt hil
          generalize l.getD 0 lb0 = x at *
          obtain ⟨n, u⟩ := x
          unfold lbV at hI
          simp only [Nat.zero_mul, Nat.add_zero] at hI c0 c1
          clear hil
          simp only [Int.natCast_zero] at hki ⊢
          go_wp2
          refine wp_region_bel (by kernel_rfl) (by kernel_rfl) ?_
          repeat (go_big_quiet_step ((go_at_call 66; exact Calls.bel (hI _))))
          refine wpQuiet_nil ?_
          rintro _ ⟨⟨wq, hq⟩, rfl⟩
          go_wp2
          refine ⟨⟨0 + 1, by omega, by go_num, hok2, hB.trans (hq.mono hB.size)⟩, ?_⟩
          simp [intOf]; omega
        | succ j =>
          obtain ⟨b', o', e, hd0, hd1⟩ := lb_at (Sls.grow hv.out hB) j (by omega)
          cases e
          have d0 : ∀ p : Bel wr, p.W.cell? ⟨b, o + j * 2, none⟩ = some (.string (l.getD j lb0).name) := fun p => p.cell hd0
          clear hd0 hd1
          have hless := nlt_less (l.getD j lb0) (l.getD (j + 1) lb0)
          by_cases hnl : Nlt (l.getD j lb0) (l.getD (j + 1) lb0)
          · have hok2 := okl_succ hok hlt hil hnl
            rw [decide_eq_true hnl] at hless
            have hle : Op.bytesLess (l.getD (j + 1) lb0).name.toList (l.getD j lb0).name.toList = false := by rw [nlt_less]; exact decide_eq_false hnl.asymm
            have hne : ((l.getD (j + 1) lb0).name.toList == (l.getD j lb0).name.toList) = false := toList_ne (Ne.symm hnl.irrefl)
            clear hil hnl
            generalize l.getD (j + 1) lb0 = x at *
            generalize l.getD j lb0 = y at *
            obtain ⟨n, u⟩ := x
            obtain ⟨n2, u2⟩ := y
            unfold lbV at hI
            simp only at hI c0 c1 d0 hless hle hne
            go_wp2
            refine wp_region_bel (by kernel_rfl) (by kernel_rfl) ?_
            repeat (go_big_quiet_step ((go_at_call 66; exact Calls.bel (hI _))))
            refine wpQuiet_nil ?_
            rintro _ ⟨⟨wq, hq⟩, rfl⟩
            go_wp2
            refine ⟨⟨j + 1 + 1, by omega, by go_num, hok2, hB.trans (hq.mono hB.size)⟩, ?_⟩
            simp [intOf]; omega
          · have hn : Hid (setB l = false) := setB_no (set_of_okl (not_okl_lt hlt hnl))
            have hor : Op.bytesLess (l.getD (j + 1) lb0).name.toList (l.getD j lb0).name.toList = true ∨ (Op.bytesLess (l.getD (j + 1) lb0).name.toList (l.getD j lb0).name.toList = false ∧ ((l.getD (j + 1) lb0).name.toList == (l.getD j lb0).name.toList) = true) := by
              rcases nlt_total (l.getD (j + 1) lb0) (l.getD j lb0) with h | h | h
              · exact .inl (by rw [nlt_less]; exact decide_eq_true h)
              · refine .inr ⟨?_, by rw [h]; simp⟩
                rw [nlt_less]; exact decide_eq_false fun g => g.irrefl h
              · exact absurd h hnl
            clear hil hnl hless
            generalize l.getD (j + 1) lb0 = x at *
            generalize l.getD j lb0 = y at *
            obtain ⟨n, u⟩ := x
            obtain ⟨n2, u2⟩ := y
            unfold lbV at hI
            simp only at hI c0 c1 d0 hor
            rcases hor with hor | ⟨hor, hor2⟩
            all_goals
              go_wp2
              refine wp_region_bel (by kernel_rfl) (by kernel_rfl) ?_
              repeat (go_big_quiet_step ((go_at_call 66; exact Calls.bel (hI _))))
              refine wpQuiet_nil ?_
              rintro _ ⟨⟨wq, hq⟩, rfl⟩
              go_wp2
              go_ret
              exact ⟨by rw [hn.out]; rfl, hB.trans (hq.mono hB.size)⟩
    · obtain rfl : k = l.length := by omega
      have hki : ¬ (l.length : Int) < (l.length : Int) := by omega
      rw [List.take_of_length_le (Nat.le_refl _)] at hok
      have hn : Hid (setB l = decide ((l.length : Int) ≤ 16)) := by
        show _ = _
        rw [Bool.eq_iff_iff, setB_iff, decide_eq_true_eq]
        exact ⟨fun h => by have := h.2.2; omega, fun h => ⟨hok.1, hok.2, by omega⟩⟩
      clear hok
      go_wp2
      go_ret
      exact ⟨by rw [hn.out]; rfl, hB⟩
end Go.Proofs.YtiajafljgfpdcaaGreat
