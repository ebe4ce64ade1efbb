/- The contracts of cmp.Compare, comparePart, slices.CompareFunc, Compare. -/
import Derived.Test.YtkhnhnaefmcngaaStr
namespace Go.Proofs.Ytkhnhnaefmcngaa
set_option linter.unusedVariables false
open Go.RowKit
theorem ret_int2 {k : IntKind} {a b : Int} (h : a = b) : Ending.returned (.int k a) = .returned (.int k b) := by rw [h]
set_option maxRecDepth 100000 in
set_option maxHeartbeats 1000000 in
theorem cmpInt_any (a b : Int) (w : World) : Calls Try.prog 34 #[.int .i64 a, .int .i64 b] w fun e w' => e = .returned (.int .i64 (cmpI a b)) ∧ w' = w := by
  obtain ⟨R, hR⟩ : ∃ R, Hid (R = cmpI a b) := ⟨_, rfl⟩
  rw [← hR.out]
  rcases Int.lt_trichotomy a b with h | h | h
  · obtain rfl : R = -1 := by rw [hR.out, cmpI, if_pos h]
    go_enter Try.func34, Try.ntmps34
    go_wp2
    go_ret
    exact ⟨rfl, rfl⟩
  · subst h
    obtain rfl : R = 0 := by rw [hR.out, cmpI, if_neg (by omega), if_neg (by omega)]
    go_enter Try.func34, Try.ntmps34
    go_wp2
    go_ret
    exact ⟨rfl, rfl⟩
  · obtain rfl : R = 1 := by rw [hR.out, cmpI, if_neg (by omega), if_pos h]
    have h2 : ¬ a < b := by omega
    go_enter Try.func34, Try.ntmps34
    go_wp2
    go_ret
    exact ⟨rfl, rfl⟩
set_option maxRecDepth 100000 in
set_option maxHeartbeats 1000000 in
theorem cmpI64_any (a b : Int) (w : World) : Calls Try.prog 35 #[.int .i64 a, .int .i64 b] w fun e w' => e = .returned (.int .i64 (cmpI a b)) ∧ w' = w := by
  obtain ⟨R, hR⟩ : ∃ R, Hid (R = cmpI a b) := ⟨_, rfl⟩
  rw [← hR.out]
  rcases Int.lt_trichotomy a b with h | h | h
  · obtain rfl : R = -1 := by rw [hR.out, cmpI, if_pos h]
    go_enter Try.func35, Try.ntmps35
    go_wp2
    go_ret
    exact ⟨rfl, rfl⟩
  · subst h
    obtain rfl : R = 0 := by rw [hR.out, cmpI, if_neg (by omega), if_neg (by omega)]
    go_enter Try.func35, Try.ntmps35
    go_wp2
    go_ret
    exact ⟨rfl, rfl⟩
  · obtain rfl : R = 1 := by rw [hR.out, cmpI, if_neg (by omega), if_pos h]
    have h2 : ¬ a < b := by omega
    go_enter Try.func35, Try.ntmps35
    go_wp2
    go_ret
    exact ⟨rfl, rfl⟩
set_option maxRecDepth 100000 in
set_option maxHeartbeats 1000000 in
theorem cmpStr_any (a b : ByteArray) (w : World) : Calls Try.prog 36 #[.string a, .string b] w fun e w' => e = .returned (.int .i64 (cmpL (numsS a) (numsS b))) ∧ w' = w := by
  have h1 := less_cmp a b
  have h2 := less_cmp b a
  rw [cmpL_neg (numsS a) (numsS b)] at h2
  rcases cmpL_in (numsS a) (numsS b) with h | h | h
  · rw [h] at h1 h2 ⊢
    replace h1 : Op.bytesLess a.toList b.toList = true := h1.trans (by decide)
    replace h2 : Op.bytesLess b.toList a.toList = false := h2.trans (by decide)
    clear h
    go_enter Try.func36, Try.ntmps36
    go_wp2
    go_ret
    exact ⟨rfl, rfl⟩
  · rw [h] at h1 h2 ⊢
    replace h1 : Op.bytesLess a.toList b.toList = false := h1.trans (by decide)
    replace h2 : Op.bytesLess b.toList a.toList = false := h2.trans (by decide)
    obtain rfl : a = b := numsS_inj (cmpL_eq h)
    clear h
    go_enter Try.func36, Try.ntmps36
    go_wp2
    go_ret
    exact ⟨rfl, rfl⟩
  · rw [h] at h1 h2 ⊢
    replace h1 : Op.bytesLess a.toList b.toList = false := h1.trans (by decide)
    replace h2 : Op.bytesLess b.toList a.toList = true := h2.trans (by decide)
    have h3 : (a.toList == b.toList) = false := by
      cases e : (a.toList == b.toList) with
      | false => rfl
      | true => rw [toList_eq e, cmpL_self] at h; omega
    clear h
    go_enter Try.func36, Try.ntmps36
    go_wp2
    go_ret
    exact ⟨rfl, rfl⟩
set_option maxRecDepth 100000 in
set_option maxHeartbeats 1000000 in
theorem comparePart_any (p q : Pt) (w : World) : Calls Try.prog 29 #[ptV p, ptV q] w fun e w' => e = .returned (.int .i64 (cmpP p q)) ∧ Below w.heap.size w w' := by
  obtain ⟨k1, n1, t1⟩ := p
  obtain ⟨k2, n2, t2⟩ := q
  have hB : ∀ o1 o2 : Obj, Below w.heap.size w ((w.alloc o1).alloc o2) := fun o1 o2 => ((Below.refl _ w).alloc (Nat.le_refl _) o1).alloc (by simp) o2
  unfold ptV
  by_cases hk : k1 = k2
  · subst hk
    by_cases h1 : k1 = 1
    · subst h1
      have e : cmpP ⟨1, n1, t1⟩ ⟨1, n2, t2⟩ = cmpI n1 n2 := by unfold cmpP; rw [if_pos rfl, if_pos rfl]
      rw [e]
      have hc := fun W => cmpI64_any n1 n2 W
      generalize cmpI n1 n2 = R at *
      clear e
      go_enter Try.func29, Try.ntmps29
      go_wp2_with (go_at_call 35; refine (hc _).mono ?_; rintro e w1 ⟨rfl, hw1⟩; subst w1)
      go_ret
      exact ⟨rfl, hB _ _⟩
    · have e : cmpP ⟨k1, n1, t1⟩ ⟨k1, n2, t2⟩ = cmpL (numsS t1) (numsS t2) := by unfold cmpP; rw [if_pos rfl, if_neg h1]
      rw [e]
      have hc := fun W => cmpStr_any t1 t2 W
      generalize cmpL (numsS t1) (numsS t2) = R at *
      have h1b : (k1 == 1) = false := by simpa using h1
      clear e
      go_enter Try.func29, Try.ntmps29
      go_wp2_with (go_at_call 36; refine (hc _).mono ?_; rintro e w1 ⟨rfl, hw1⟩; subst w1)
      go_ret
      exact ⟨rfl, hB _ _⟩
  · have e : cmpP ⟨k1, n1, t1⟩ ⟨k2, n2, t2⟩ = cmpI k1 k2 := by unfold cmpP; rw [if_neg hk]
    rw [e]
    have hc := fun W => cmpInt_any k1 k2 W
    generalize cmpI k1 k2 = R at *
    have hkb : (k1 == k2) = false := by simpa using hk
    have hkb2 : (k1 != k2) = true := by simpa using hk
    clear e
    go_enter Try.func29, Try.ntmps29
    go_wp2_with (go_at_call 34; refine (hc _).mono ?_; rintro e w1 ⟨rfl, hw1⟩; subst w1)
    go_ret
    exact ⟨rfl, hB _ _⟩
theorem drop_getD (l : List Pt) (k : Nat) (h : k < l.length) : l.drop k = l.getD k pt0 :: l.drop (k + 1) := by
  rw [List.drop_eq_getElem_cons h]; simp [h]
set_option maxRecDepth 100000 in
set_option maxHeartbeats 4000000 in
theorem compareFunc_any (v u : Value) (l m : List Pt) (w : World) (hv : Pts w v l) (hu : Pts w u m) (hl : l.length ≤ 1000000000) (hm : m.length ≤ 1000000000) :
    Calls Try.prog 28 #[v, u, .func (.func 29) #[] #[]] w fun e w' => e = .returned (.int .i64 (cmpK l m)) ∧ Below w.heap.size w w' := by
  have hgl : Hid (∀ W, Below w.heap.size w W → Pts W v l) := fun W h => hv.grow h
  have hgm : Hid (∀ W, Below w.heap.size w W → Pts W u m) := fun W h => hu.grow h
  obtain ⟨a, c, hva⟩ := hv.shape
  obtain ⟨a2, c2, hua⟩ := hu.shape
  subst hva hua
  obtain ⟨n, hn⟩ : ∃ n, Hid (n = l.length) := ⟨_, rfl⟩
  obtain ⟨n2, hn2⟩ : ∃ n, Hid (n = m.length) := ⟨_, rfl⟩
  rw [← hn.out] at hl hgl ⊢
  rw [← hn2.out] at hm hgm ⊢
  obtain ⟨R, hR⟩ : ∃ R, Hid (R = cmpK l m) := ⟨_, rfl⟩
  rw [← hR.out]
  clear hv hu
  go_enter Try.func28, Try.ntmps28
  go_wp2
  go_loopw [13] (fun i wr => ∃ k : Nat, k ≤ n ∧ k ≤ n2 ∧ i = .int .i64 k ∧ Hid (R = cmpK (l.drop k) (m.drop k)) ∧ Below w.heap.size w wr) (fun i _ => n - (intOf i).toNat)
  case atStart => exact ⟨0, Nat.zero_le _, Nat.zero_le _, rfl, hR, Below.refl _ _⟩
  case round =>
    obtain ⟨k, hk, hk2, rfl, hrk, hb⟩ := hrel
    have hz := hb.size
    by_cases hlt : k < n
    · have hki : (k : Int) < (n : Int) := by omega
      have hltl : k < l.length := by rw [← hn.out]; exact hlt
      obtain ⟨a', c', e, _, hcs⟩ := hgl.out wr hb
      have ea : a = a' ∧ n = l.length ∧ c = c' := by simpa using e
      obtain ⟨rfl, -, rfl⟩ := ea
      rcases hcs with hcs | ⟨b, o, rfl, hcs⟩
      · rw [hcs] at hltl; simp at hltl
      obtain ⟨x0, x1, x2⟩ := hcs k hltl
      clear hcs e
      by_cases hlt2 : k < n2
      · have hki2 : (k : Int) < (n2 : Int) := by omega
        have hd2 : decide ((n2 : Int) ≤ (k : Int)) = false := by simp; omega
        have hltm : k < m.length := by rw [← hn2.out]; exact hlt2
        obtain ⟨a', c', e, _, hcs⟩ := hgm.out wr hb
        have ea : a2 = a' ∧ n2 = m.length ∧ c2 = c' := by simpa using e
        obtain ⟨rfl, -, rfl⟩ := ea
        rcases hcs with hcs | ⟨b2, o2, rfl, hcs⟩
        · rw [hcs] at hltm; simp at hltm
        obtain ⟨y0, y1, y2⟩ := hcs k hltm
        clear hcs e
        have hst := hrk.out
        rw [drop_getD l k hltl, drop_getD m k hltm, cmpK] at hst
        have hcp := fun W => comparePart_any (l.getD k pt0) (m.getD k pt0) W
        generalize l.getD k pt0 = p at *
        generalize m.getD k pt0 = q at *
        obtain ⟨C, hC⟩ : ∃ C, Hid (C = cmpP p q) := ⟨_, rfl⟩
        rw [← hC.out] at hst hcp
        replace hst : Hid _ := hst
        obtain ⟨k1, p1, t1⟩ := p
        obtain ⟨k2, p2, t2⟩ := q
        simp only [] at x0 x1 x2 y0 y1 y2
        unfold ptV at hcp
        clear hgl hgm hC
        have yA0 := fun q : Obj => Lib.cell?_alloc_some q y0
        have yA1 := fun q : Obj => Lib.cell?_alloc_some q y1
        have yA2 := fun q : Obj => Lib.cell?_alloc_some q y2
        by_cases hC0 : C = 0
        · subst hC0
          have hst2 : Hid (R = cmpK (l.drop (k + 1)) (m.drop (k + 1))) := by
            have := hst.out
            rw [if_pos rfl] at this
            exact this
          go_wp2_with (go_at_call 29; refine (hcp _).mono ?_; rintro e w2 ⟨rfl, hb2⟩)
          have hb3 : Below w.heap.size w w2 := ((hb.alloc (by omega) _).alloc (by simp; omega) _).trans (hb2.mono (by simp; omega))
          go_roundw
          case rel => exact ⟨k + 1, by omega, by omega, by go_num, hst2, hb3⟩
          case measure => simp [intOf]; omega
        · have hCn : (C != 0) = true := by simpa using hC0
          have hst2 : Hid (R = C) := by
            have := hst.out
            rw [if_neg hC0] at this
            exact this
          go_wp2_with (go_at_call 29; refine (hcp _).mono ?_; rintro e w2 ⟨rfl, hb2⟩)
          have hb3 : Below w.heap.size w w2 := ((hb.alloc (by omega) _).alloc (by simp; omega) _).trans (hb2.mono (by simp; omega))
          go_ret
          exact ⟨by rw [hst2.out]; rfl, hb3⟩
      · have hd2 : decide ((n2 : Int) ≤ (k : Int)) = true := by simp; omega
        have hst2 : Hid (R = 1) := by
          have := hrk.out
          have hm0 : m.drop k = [] := List.drop_eq_nil_of_le (by rw [← hn2.out]; omega)
          rw [drop_getD l k hltl, hm0, cmpK] at this
          exact this
        generalize l.getD k pt0 = p at *
        obtain ⟨k1, p1, t1⟩ := p
        simp only [] at x0 x1 x2
        clear hgl hgm
        go_wp2
        go_ret
        exact ⟨by rw [hst2.out]; rfl, hb.alloc (by omega) _⟩
    · obtain rfl : k = n := by omega
      have hki : ¬ (k : Int) < (k : Int) := by omega
      clear hgl hgm
      by_cases hlt2 : k < n2
      · have hki2 : (k : Int) < (n2 : Int) := by omega
        have hst2 : Hid (R = -1) := by
          have := hrk.out
          have hl0 : l.drop k = [] := List.drop_eq_nil_of_le (by rw [← hn.out]; omega)
          rw [hl0, drop_getD m k (by rw [← hn2.out]; exact hlt2), cmpK] at this
          exact this
        go_wp2
        go_ret
        exact ⟨by rw [hst2.out]; rfl, hb⟩
      · have hki2 : ¬ (k : Int) < (n2 : Int) := by omega
        have hst2 : Hid (R = 0) := by
          have := hrk.out
          have hl0 : l.drop k = [] := List.drop_eq_nil_of_le (by rw [← hn.out]; omega)
          have hm0 : m.drop k = [] := List.drop_eq_nil_of_le (by rw [← hn2.out]; omega)
          rw [hl0, hm0, cmpK] at this
          exact this
        go_wp2
        go_ret
        exact ⟨by rw [hst2.out]; rfl, hb⟩
set_option maxRecDepth 100000 in
theorem compare_any (v u : Value) (l m : List Pt) (w : World) (hv : Pts w v l) (hu : Pts w u m) (hl : l.length ≤ 1000000000) (hm : m.length ≤ 1000000000) :
    Calls Try.prog 19 #[v, u] w fun e w' => e = .returned (.int .i64 (cmpK l m)) ∧ Below w.heap.size w w' := by
  have h := compareFunc_any v u l m w hv hu hl hm
  generalize cmpK l m = R at *
  clear hv hu
  go_enter Try.func19, Try.ntmps19
  go_wp2_with (go_at_call 28; refine h.mono ?_; rintro e w2 ⟨rfl, hb2⟩)
  go_ret
  exact ⟨rfl, hb2⟩
end Go.Proofs.Ytkhnhnaefmcngaa
