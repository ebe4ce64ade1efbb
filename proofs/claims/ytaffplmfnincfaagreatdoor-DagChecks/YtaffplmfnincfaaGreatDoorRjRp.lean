/- Rj; Rk; Rl; Rp. -/
import Derived.Test.YtaffplmfnincfaaGreatDoorRgRi
import Derived.Test.YtaffplmfnincfaaGreatDoorOgOi
import Derived.Test.YtaffplmfnincfaaGreatDoorOpOs
/- DagChecks: the document's Ref, Reduce of no points, bound. -/
namespace Go.Proofs.YtaffplmfnincfaaGreatDoor
set_option linter.unusedVariables false
open Go.RowKit
def letB (c : Int) : Bool := decide (97 ≤ c ∧ c ≤ 122) || decide (65 ≤ c ∧ c ≤ 90) || (c == 95)
def digB (c : Int) : Bool := decide (48 ≤ c ∧ c ≤ 57)
theorem letter77 (c : Int) (w : World) : Calls Tryz.prog 77 #[.int .u8 c] w fun e w' => e = .returned (.bool (letB c)) ∧ w' = w := by
  obtain ⟨R, hR⟩ : ∃ R, Hid (R = letB c) := ⟨_, rfl⟩
  rw [← hR.out]
  go_enter Tryz.func77, Tryz.ntmps77
  by_cases h2 : (97 : Int) ≤ c <;> by_cases h3 : c ≤ (122 : Int) <;> by_cases h4 : (65 : Int) ≤ c <;> by_cases h5 : c ≤ (90 : Int) <;> cases h6 : (c == 95) <;> (go_wp2; go_ret; exact ⟨by rw [hR.out]; unfold letB; simp [h2, h3, h4, h5, h6], rfl⟩)
theorem digit78 (c : Int) (w : World) : Calls Tryz.prog 78 #[.int .u8 c] w fun e w' => e = .returned (.bool (digB c)) ∧ w' = w := by
  obtain ⟨R, hR⟩ : ∃ R, Hid (R = digB c) := ⟨_, rfl⟩
  rw [← hR.out]
  go_enter Tryz.func78, Tryz.ntmps78
  by_cases h2 : (48 : Int) ≤ c <;> by_cases h3 : c ≤ (57 : Int) <;> (go_wp2; go_ret; exact ⟨by rw [hR.out]; unfold digB; simp [h2, h3], rfl⟩)
theorem wrd_is (c : Int) : isWrd c = (letB c || digB c) := by
  unfold isWrd letB digB isCap isLow isDig
  by_cases h2 : (97 : Int) ≤ c <;> by_cases h3 : c ≤ (122 : Int) <;> by_cases h4 : (65 : Int) ≤ c <;> by_cases h5 : c ≤ (90 : Int) <;> by_cases h7 : (48 : Int) ≤ c <;> by_cases h8 : c ≤ (57 : Int) <;> by_cases h6 : c = 95 <;> simp [h2, h3, h4, h5, h6, h7, h8]
set_option maxRecDepth 100000 in
set_option maxHeartbeats 2000000 in
/-- The document's Ref. -/
theorem rref57 (s : ByteArray) (w : World) (hs : s.size ≤ 9223372036854775807) : Calls Tryz.prog 57 #[.string s] w fun e w' => e = .returned (.bool (refB s)) ∧ w' = w := by
  have hL : Hid (∀ (c : Int) W, Calls Tryz.prog 77 #[.int .u8 c] W fun e w' => e = .returned (.bool (letB c)) ∧ w' = W) := fun c W => letter77 c W
  have hD : Hid (∀ (c : Int) W, Calls Tryz.prog 78 #[.int .u8 c] W fun e w' => e = .returned (.bool (digB c)) ∧ w' = W) := fun c W => digit78 c W
  obtain ⟨R, hR⟩ : ∃ R, Hid (R = refB s) := ⟨_, rfl⟩
  rw [← hR.out]
  by_cases h1 : s.size < 1
  · have h1i : (s.size : Int) < 1 := by omega
    have e : R = false := by rw [hR.out]; unfold refB; simp [show ¬ 1 ≤ s.size by omega]
    subst e
    go_enter Tryz.func57, Tryz.ntmps57
    go_wp2
    all_goals (go_ret; exact ⟨rfl, rfl⟩)
  have h1i : ¬ (s.size : Int) < 1 := by omega
  by_cases h2 : 16 < s.size
  · have h2i : (16 : Int) < (s.size : Int) := by omega
    have e : R = false := by rw [hR.out]; unfold refB; simp [show ¬ s.size ≤ 16 by omega]
    subst e
    go_enter Tryz.func57, Tryz.ntmps57
    go_wp2
    all_goals (go_ret; exact ⟨rfl, rfl⟩)
  have h2i : ¬ (16 : Int) < (s.size : Int) := by omega
  have h3 : 0 < s.size := by omega
  have h3i : (0 : Int) < (s.size : Int) := by omega
  have hcap : Hid (isCap (byteAt s 0) = (decide ((65 : Int) ≤ (((s[0]'h3).toNat : Nat) : Int)) && decide ((((s[0]'h3).toNat : Nat) : Int) ≤ 90))) := by show _ = _; rw [byteAt_get]; rfl
  have hRc : Hid (isCap (byteAt s 0) = false → R = false) := fun h => by rw [hR.out]; unfold refB; rw [h]; simp
  by_cases h4 : (((s[0]'h3).toNat : Nat) : Int) < 65
  · have e : R = false := hRc.out (by rw [hcap.out, decide_eq_false (show ¬ (65 : Int) ≤ (((s[0]'h3).toNat : Nat) : Int) by omega)]; rfl)
    subst e
    go_enter Tryz.func57, Tryz.ntmps57
    go_wp2
    all_goals (go_ret; exact ⟨rfl, rfl⟩)
  by_cases h5 : (90 : Int) < (((s[0]'h3).toNat : Nat) : Int)
  · have e : R = false := hRc.out (by rw [hcap.out, decide_eq_false (show ¬ (((s[0]'h3).toNat : Nat) : Int) ≤ (90 : Int) by omega)]; simp)
    subst e
    go_enter Tryz.func57, Tryz.ntmps57
    go_wp2
    all_goals (go_ret; exact ⟨rfl, rfl⟩)
  have hRr : Hid (R = decide (runN isWrd s = s.size)) := by
    show _ = _
    rw [hR.out]
    unfold refB
    rw [hcap.out, decide_eq_true (show (65 : Int) ≤ (((s[0]'h3).toNat : Nat) : Int) by omega), decide_eq_true (show (((s[0]'h3).toNat : Nat) : Int) ≤ (90 : Int) by omega), decide_eq_true (show 1 ≤ s.size by omega), decide_eq_true (show s.size ≤ 16 by omega)]
    simp
  clear hR hRc hcap
  go_enter Tryz.func57, Tryz.ntmps57
  go_wp2
  clear h4 h5
  go_loop [3] (fun i => ∃ k : Nat, k ≤ s.size ∧ i = .int .i64 k ∧ Hid (∀ j, j < k → isWrd (byteAt s j) = true)) (fun i => s.size - (intOf i).toNat)
  case atStart => exact ⟨0, Nat.zero_le _, rfl, fun j h => absurd h (Nat.not_lt_zero _)⟩
  case round =>
    obtain ⟨k, hk, rfl, hto⟩ := hrel
    by_cases hlt : k < s.size
    · have hki : (k : Int) < (s.size : Int) := by omega
      have hLk := hL.out ((((s[k]'hlt).toNat : Nat) : Int))
      have hDk := hD.out ((((s[k]'hlt).toNat : Nat) : Int))
      have hwk : Hid (isWrd (byteAt s k) = (letB ((((s[k]'hlt).toNat : Nat) : Int)) || digB ((((s[k]'hlt).toNat : Nat) : Int)))) := by show _ = _; rw [byteAt_get]; exact wrd_is _
      have hnx : Hid (isWrd (byteAt s k) = true → ∀ j, j < k + 1 → isWrd (byteAt s j) = true) := fun h j hj => by
        by_cases e : j = k
        · rw [e]; exact h
        · exact hto.out j (by omega)
      have hno : Hid (isWrd (byteAt s k) = false → R = false) := fun h => by
        rw [hRr.out, runN_is isWrd s k (by omega) hto.out (fun _ => h)]
        exact decide_eq_false (by omega)
      generalize letB ((((s[k]'hlt).toNat : Nat) : Int)) = BL at *
      generalize digB ((((s[k]'hlt).toNat : Nat) : Int)) = BD at *
      cases BL <;> cases BD <;> (go_wp2_with (first | (go_at_call 77; refine (hLk _).mono ?_; rintro e wx ⟨rfl, hwx⟩; subst wx) | (go_at_call 78; refine (hDk _).mono ?_; rintro e wx ⟨rfl, hwx⟩; subst wx))) <;> (first | (refine ⟨⟨k + 1, by omega, by go_num, hnx.out hwk.out⟩, ?_⟩; simp [intOf]; omega) | (go_ret; exact ⟨by rw [hno.out hwk.out]; rfl, rfl⟩))
    · obtain rfl : k = s.size := by omega
      have hki : ¬ (s.size : Int) < (s.size : Int) := by omega
      have e : R = true := by rw [hRr.out, runN_is isWrd s s.size (Nat.le_refl _) hto.out (fun h => absurd h (Nat.lt_irrefl _))]; simp
      subst e
      go_wp2
      go_ret
      exact ⟨rfl, rfl⟩
open Classical in
set_option maxRecDepth 100000 in
set_option maxHeartbeats 8000000 in
/-- in. -/
theorem in79 (a : Option Addr) (n c : Nat) (L : List ByteArray) (s : ByteArray) (w : World) (hv : Txs w (.slice a n c) L) (hl : n ≤ 1000000) : Calls Tryz.prog 79 #[.slice a n c, .string s] w fun e w' => e = .returned (.bool (decide (s ∈ L))) ∧ Below w.heap.size w w' := by
  have hn : Hid (n = L.length) := hv.len
  replace hv : Hid (Txs w (.slice a n c) L) := hv
  cases hany : L.any (fun t : ByteArray => t.toList == s.toList) with
  | false =>
    have hid : Hid (decide (s ∈ L) = false) := decide_eq_false fun h => by
      have := List.any_eq_false.1 hany s h
      simp at this
    have hno : Hid (∀ k, k < L.length → ((L.getD k ⟨#[]⟩).toList == s.toList) = false) := fun k hk => idxP_none (fun t : ByteArray => t.toList == s.toList) _ hany k hk
    clear hany
    rw [hid.out]
    go_enter Tryz.func79, Tryz.ntmps79
    go_wp2
    go_loopw [5] (fun i wr => ∃ k : Nat, k ≤ n ∧ i = .int .i64 k ∧ Hid (Below w.heap.size w wr)) (fun i _ => n - (intOf i).toNat)
    case atStart => exact ⟨0, Nat.zero_le _, rfl, Below.refl _ _⟩
    case round =>
      obtain ⟨k, hk, rfl, hB⟩ := hrel
      by_cases hlt : k < n
      · have hki : (k : Int) < (n : Int) := by omega
        have hkl : k < L.length := by have := hn.out; omega
        obtain ⟨b, o, rfl, x0⟩ := tx_at (hv.out.grow hB.out) k hkl
        have he := hno.out k hkl
        generalize L.getD k ⟨#[]⟩ = r at *
        go_wp2
        refine ⟨⟨k + 1, by omega, by go_num, hB⟩, ?_⟩
        simp [intOf]; omega
      · have hki : ¬ (k : Int) < (n : Int) := by omega
        have hB' := hB.out
        go_wp2
        go_ret
        exact ⟨rfl, hB'⟩
  | true =>
    obtain ⟨h1, h2, h3⟩ := idxP_some (fun t : ByteArray => t.toList == s.toList) ⟨#[]⟩ hany
    have hid : Hid (decide (s ∈ L) = true) := decide_eq_true (by
      obtain ⟨x, hx, e⟩ := List.any_eq_true.1 hany
      exact toList_eq e ▸ hx)
    rw [hid.out]
    clear hid hany
    generalize L.findIdx (fun t : ByteArray => t.toList == s.toList) = K at *
    replace h2 : Hid (((L.getD K ⟨#[]⟩).toList == s.toList) = true) := h2
    replace h3 : Hid (∀ k, k < K → ((L.getD k ⟨#[]⟩).toList == s.toList) = false) := h3
    have hKn : K < n := by have := hn.out; omega
    go_enter Tryz.func79, Tryz.ntmps79
    go_wp2
    go_loopw [5] (fun i wr => ∃ k : Nat, k ≤ K ∧ i = .int .i64 k ∧ Hid (Below w.heap.size w wr)) (fun i _ => n - (intOf i).toNat)
    case atStart => exact ⟨0, Nat.zero_le _, rfl, Below.refl _ _⟩
    case round =>
      obtain ⟨k, hk, rfl, hB⟩ := hrel
      have hki : (k : Int) < (n : Int) := by omega
      obtain ⟨b, o, rfl, x0⟩ := tx_at (hv.out.grow hB.out) k (by omega)
      by_cases hlt : k < K
      · have he := h3.out k hlt
        generalize L.getD k ⟨#[]⟩ = r at *
        go_wp2
        refine ⟨⟨k + 1, by omega, by go_num, hB⟩, ?_⟩
        simp [intOf]; omega
      · obtain rfl : k = K := by omega
        have he := h2.out
        clear h3
        have hB' := hB.out
        generalize L.getD k ⟨#[]⟩ = r at *
        go_wp2
        go_ret
        exact ⟨rfl, hB'⟩
set_option maxRecDepth 100000 in
set_option maxHeartbeats 2000000 in
/-- bound. -/
theorem rbound59 (v : Vl) (w : World) : Calls Tryz.prog 59 #[vlV v] w fun e w' => e = .returned (.bool (bndB v)) ∧ Below w.heap.size w w' := by
  have hO : Below w.heap.size w (w.alloc (vlO v)) := (Below.refl _ _).alloc (Nat.le_refl _) _
  have hi := ris_any v (w.alloc (vlO v))
  have h4 : VlAt (w.alloc (vlO v)) w.heap.size v := vlNew w v
  have hR : Hid (bndB v = (isB v && (!(v.kind == 2) && !(v.kind == 3)))) := by
    show _ = _
    unfold bndB isB
    by_cases h : IsV v <;> by_cases h2 : v.kind = 2 <;> by_cases h3 : v.kind = 3 <;> simp [h, h2, h3]
  obtain ⟨R, hRe⟩ : ∃ R, Hid (R = bndB v) := ⟨_, rfl⟩
  rw [← hRe.out] at hR ⊢
  clear hRe
  generalize isB v = B at *
  obtain ⟨k, n⟩ := v
  unfold vlO vlV at *
  simp only at hO h4 hi hR
  have e2 : (k != 2) = !(k == 2) := rfl
  have e3 : (k != 3) = !(k == 3) := rfl
  cases B <;> cases hk2 : (k == 2) <;> cases hk3 : (k == 3) <;> rw [hk2] at e2 hR <;> rw [hk3] at e3 hR <;> simp only [Bool.not_true, Bool.not_false] at e2 e3
  all_goals
    obtain ⟨c0, c1⟩ := h4.cells
    go_enter Tryz.func59, Tryz.ntmps59
    go_wp2_with (first
      | (go_at_call 80; refine hi.mono ?_; rintro e w1 ⟨rfl, hb1⟩; have hB1 := hO.trans (hb1.mono hO.size); have k4 := h4.grow hb1; obtain ⟨d0, d1⟩ := k4.cells))
    go_ret
    exact ⟨by rw [hR.out]; rfl, hB1⟩
theorem howB_mem (s : ByteArray) : howB s = true ↔ s ∈ ([⟨#[108, 97, 115, 116]⟩, ⟨#[109, 105, 110]⟩, ⟨#[109, 97, 120]⟩, ⟨#[115, 117, 109]⟩, ⟨#[109, 101, 97, 110]⟩, ⟨#[99, 111, 117, 110, 116]⟩] : List ByteArray) := by
  have k : ∀ (l : List UInt8) (t : ByteArray), t.toList = l → ((s.toList == l) = true ↔ s = t) := fun l t e => by
    rw [← e]
    exact ⟨fun h => toList_eq h, fun h => by rw [h]; simp⟩
  unfold howB
  simp only [Bool.or_eq_true, List.mem_cons, List.not_mem_nil, or_false]
  rw [k _ ⟨#[108, 97, 115, 116]⟩ (by decide +kernel), k _ ⟨#[109, 105, 110]⟩ (by decide +kernel), k _ ⟨#[109, 97, 120]⟩ (by decide +kernel), k _ ⟨#[115, 117, 109]⟩ (by decide +kernel), k _ ⟨#[109, 101, 97, 110]⟩ (by decide +kernel), k _ ⟨#[99, 111, 117, 110, 116]⟩ (by decide +kernel)]
  simp only [or_assoc]
end Go.Proofs.YtaffplmfnincfaaGreatDoor
/- DagChecks: the document's Reduce of no points. -/
namespace Go.Proofs.YtaffplmfnincfaaGreatDoor
set_option linter.unusedVariables false
open Go.RowKit
open Classical in
theorem ways79 (s : ByteArray) (W : World) : Calls Tryz.prog 79 #[.slice (some ⟨W.heap.size, 0, none⟩) 6 6, .string s] (W.alloc (.cells #[.string ⟨#[108, 97, 115, 116]⟩, .string ⟨#[109, 105, 110]⟩, .string ⟨#[109, 97, 120]⟩, .string ⟨#[115, 117, 109]⟩, .string ⟨#[109, 101, 97, 110]⟩, .string ⟨#[99, 111, 117, 110, 116]⟩] 9)) fun e w' => e = .returned (.bool (howB s)) ∧ Below W.heap.size W w' := by
  have ho : OwnT _ W.heap.size _ _ := own_lit TS W W.heap.size #[.string ⟨#[108, 97, 115, 116]⟩, .string ⟨#[109, 105, 110]⟩, .string ⟨#[109, 97, 120]⟩, .string ⟨#[115, 117, 109]⟩, .string ⟨#[109, 101, 97, 110]⟩, .string ⟨#[99, 111, 117, 110, 116]⟩] [⟨#[108, 97, 115, 116]⟩, ⟨#[109, 105, 110]⟩, ⟨#[109, 97, 120]⟩, ⟨#[115, 117, 109]⟩, ⟨#[109, 101, 97, 110]⟩, ⟨#[99, 111, 117, 110, 116]⟩] 6 (Nat.le_refl _) rfl (by decide) rfl
  refine (in79 _ 6 6 _ s _ ho.sls (by decide)).mono ?_
  rintro e w' ⟨rfl, hb⟩
  have hb0 := bW0 W (.cells #[.string ⟨#[108, 97, 115, 116]⟩, .string ⟨#[109, 105, 110]⟩, .string ⟨#[109, 97, 120]⟩, .string ⟨#[115, 117, 109]⟩, .string ⟨#[109, 101, 97, 110]⟩, .string ⟨#[99, 111, 117, 110, 116]⟩] 9)
  refine ⟨?_, hb0.trans (hb.mono hb0.size)⟩
  congr 2
  rw [Bool.eq_iff_iff, decide_eq_true_iff]
  exact (howB_mem s).symm
set_option maxRecDepth 100000 in
set_option maxHeartbeats 2000000 in
/-- The document's Reduce of no points. -/
theorem rreduce58 (s : ByteArray) (st : Bool) (w : World) : Calls Tryz.prog 58 #[.string s, .bool st, .slice none 0 0] w fun e w' => ∃ v, e = .returned (.tuple #[vlV v, .int .i64 (if howB s = true then 0 else 100)]) ∧ Below w.heap.size w w' := by
  have hO : Below w.heap.size w (w.alloc (vlO zer)) := (Below.refl _ _).alloc (Nat.le_refl _) _
  have hh := ways79 s (w.alloc (vlO zer))
  have h4 : VlAt (w.alloc (vlO zer)) w.heap.size zer := vlNew w zer
  have hsz : (w.alloc (vlO zer)).heap.size = w.heap.size + 1 := by simp
  rw [hsz] at hh
  cases hB : howB s
  · rw [hB] at hh
    rw [if_neg (by decide)]
    unfold vlO zer at *
    simp only at hO h4 hh hsz
    go_enter Tryz.func58, Tryz.ntmps58
    go_wp2_with (first | (go_at_call 79; refine hh.mono ?_; rintro e w1 ⟨rfl, hb1⟩; have hb1' := hO.trans (hb1.mono (by omega)); have k4 := h4.grow (by rw [hsz]; exact hb1); obtain ⟨c0, c1⟩ := k4.cells; obtain ⟨f0, f1⟩ := k4.frozen))
    exact ret_cell2 (v := ⟨0, 0⟩) Tryz.results58 rfl (vlSet k4) rfl ⟨_, rfl, belTwo _ _ hb1' (Nat.le_refl _)⟩
  · rw [hB] at hh
    rw [if_pos rfl]
    have hnum := fun W => rnum_any 0 W
    have hnul := fun W => rnull_b W
    cases h6 : s.toList == [99, 111, 117, 110, 116]
    · generalize nul = R at *
      unfold vlO zer vlV at *
      simp only at hO h4 hh hsz
      go_enter Tryz.func58, Tryz.ntmps58
      go_wp2_with (first | (go_at_call 79; refine hh.mono ?_; rintro e w1 ⟨rfl, hb1⟩; have hb1' := hO.trans (hb1.mono (by omega)); have k4 := h4.grow (by rw [hsz]; exact hb1)))
      refine wp_loop_rounds 1 ?_
      rw [rounds_succ]
      go_wp2_with (first | (go_at_call 82; refine (hnul _).mono ?_; rintro e w2 ⟨rfl, hb2⟩; have hB2 := hb1'.trans (hb2.mono hb1'.size); have k5 := k4.grow hb2; obtain ⟨c0, c1⟩ := k5.cells; obtain ⟨f0, f1⟩ := k5.frozen))
      exact ret_cell2 (v := R) Tryz.results58 rfl (vlSet k5) rfl ⟨R, rfl, belTwo _ _ hB2 (Nat.le_refl _)⟩
    · generalize num 0 = R at *
      unfold vlO zer vlV at *
      simp only at hO h4 hh hsz
      go_enter Tryz.func58, Tryz.ntmps58
      go_wp2_with (first | (go_at_call 79; refine hh.mono ?_; rintro e w1 ⟨rfl, hb1⟩; have hb1' := hO.trans (hb1.mono (by omega)); have k4 := h4.grow (by rw [hsz]; exact hb1)))
      refine wp_loop_rounds 1 ?_
      rw [rounds_succ]
      go_wp2_with (first | (go_at_call 20; refine (hnum _).mono ?_; rintro e w2 ⟨rfl, hb2⟩; have hB2 := hb1'.trans (hb2.mono hb1'.size); have k5 := k4.grow hb2; obtain ⟨c0, c1⟩ := k5.cells; obtain ⟨f0, f1⟩ := k5.frozen))
      exact ret_cell2 (v := R) Tryz.results58 rfl (vlSet k5) rfl ⟨R, rfl, belTwo _ _ hB2 (Nat.le_refl _)⟩
end Go.Proofs.YtaffplmfnincfaaGreatDoor
/- DagChecks: the document's Is. -/
namespace Go.Proofs.YtaffplmfnincfaaGreatDoor
set_option linter.unusedVariables false
set_option linter.unusedSimpArgs false
open Go.RowKit
theorem eq34 (a b c d : Int) (w : World) : (binOp .eql 34 (.agg #[.int .i64 a, .int .i64 b]) (.agg #[.int .i64 c, .int .i64 d])).run Tryz.prog w = .ok (.bool ((a == c) && ((b == d) && true))) w := by
  rw [run_eql_struct, eqV34]
  rfl
theorem emp_is (s : ByteArray) : s.toList.isEmpty = (s.toList == []) := by cases s.toList <;> rfl
def zB (v : Vl) : Bool := (v.kind == 0) && ((v.n == 0) && true)
/-- What a node of each Kind wants besides its own parts. -/
theorem may1 (ref source input how text : ByteArray) (strict : Bool) (lo hi : Vl) : mayB ⟨ref, 1, source, input, how, strict, lo, hi, text⟩ = (refB ref && (decide (1 ≤ (source.size : Int)) && (decide ((source.size : Int) ≤ 64) && ((input.toList == []) && ((how.toList == []) && (!strict && (zB lo && (zB hi && (text.toList == [])))))))))  := by
  have e : (⟨#[]⟩ : ByteArray).toList = [] := by decide +kernel
  have h1 : (!(source.toList == [])) = decide (1 ≤ (source.size : Int)) := by
    by_cases h : source.size = 0
    · have hem : source = ⟨#[]⟩ := by
        cases source with | mk d => cases d with | mk l => cases l with | nil => rfl | cons a l => simp [ByteArray.size] at h
      subst hem
      decide +kernel
    · rw [str_ne0 h, decide_eq_true (by omega)]; rfl
  unfold mayB partsB wipN eqNd zB zer
  simp only [if_true, e, h1]
  cases refB ref <;> cases decide (1 ≤ (source.size : Int)) <;> cases decide ((source.size : Int) ≤ 64) <;> cases strict <;> simp
set_option maxRecDepth 100000 in
set_option maxHeartbeats 4000000 in
theorem is1 (ref source input how text : ByteArray) (strict : Bool) (lk ln hk hn : Int) (w : World) (hr : ref.size ≤ 1000000) (hs : source.size ≤ 1000000) : Calls Tryz.prog 36 #[.agg #[.string ref, .int .i64 1, .string source, .string input, .string how, .bool strict, .int .i64 lk, .int .i64 ln, .int .i64 hk, .int .i64 hn, .string text]] w fun e w' => e = .returned (.bool (mayB ⟨ref, 1, source, input, how, strict, ⟨lk, ln⟩, ⟨hk, hn⟩, text⟩)) ∧ Below w.heap.size w w' := by
  rw [may1]
  have heL := fun W => eq34 lk ln 0 0 W
  have heH := fun W => eq34 hk hn 0 0 W
  have hzL : Hid (zB ⟨lk, ln⟩ = ((lk == 0) && ((ln == 0) && true))) := rfl
  have hzH : Hid (zB ⟨hk, hn⟩ = ((hk == 0) && ((hn == 0) && true))) := rfl
  have hR := fun W => rref57 ref W (by omega)
  obtain ⟨W1, hW1⟩ : ∃ W1, W1 = (w.alloc (.cells #[.string ref, .int .i64 1, .string source, .string input, .string how, .bool strict, .int .i64 lk, .int .i64 ln, .int .i64 hk, .int .i64 hn, .string text] 36)).alloc (.cells #[.int .i64 0, .int .i64 0] 34) := ⟨_, rfl⟩
  have hb : Hid (Below w.heap.size w W1) := by rw [hW1]; exact ((Below.refl _ _).alloc (Nat.le_refl _) _).alloc (by simp) _
  have i3 := emp_is input
  have i4 := emp_is how
  have i10 := emp_is text
  rw [← hzL.out] at heL
  rw [← hzH.out] at heH
  clear hzL hzH
  generalize refB ref = RB at *
  generalize zB ⟨lk, ln⟩ = ZL at *
  generalize zB ⟨hk, hn⟩ = ZH at *
  generalize hI : (input.toList == []) = I at *
  generalize hHo : (how.toList == []) = Ho at *
  generalize hTe : (text.toList == []) = Te at *
  rcases Bool.eq_false_or_eq_true RB with rfl | rfl
  · skip
    by_cases q1 : (1 : Int) ≤ (source.size : Int)
    · skip
      by_cases q2 : (source.size : Int) ≤ 64
      · skip
        rcases Bool.eq_false_or_eq_true I with rfl | rfl
        · skip
          rcases Bool.eq_false_or_eq_true Ho with rfl | rfl
          · skip
            rcases Bool.eq_false_or_eq_true strict with rfl | rfl
            · skip
              go_enter Tryz.func36, Tryz.ntmps36
              go_wp2_with (first | (go_at_call 57; refine (hR _).mono ?_; rintro e wx ⟨rfl, hwx⟩; subst wx))
              rw [← hW1]
              go_ret
              exact ⟨by simp [q1, q2], hb.out⟩
            · skip
              rcases Bool.eq_false_or_eq_true ZL with rfl | rfl
              · skip
                rcases Bool.eq_false_or_eq_true ZH with rfl | rfl
                · skip
                  rcases Bool.eq_false_or_eq_true Te with rfl | rfl
                  · skip
                    go_enter Tryz.func36, Tryz.ntmps36
                    go_wp2_with (first | (go_at_call 57; refine (hR _).mono ?_; rintro e wx ⟨rfl, hwx⟩; subst wx))
                    rw [← hW1]
                    go_ret
                    exact ⟨by simp [q1, q2], hb.out⟩
                  · skip
                    go_enter Tryz.func36, Tryz.ntmps36
                    go_wp2_with (first | (go_at_call 57; refine (hR _).mono ?_; rintro e wx ⟨rfl, hwx⟩; subst wx))
                    rw [← hW1]
                    go_ret
                    exact ⟨by simp [q1, q2], hb.out⟩
                · skip
                  go_enter Tryz.func36, Tryz.ntmps36
                  go_wp2_with (first | (go_at_call 57; refine (hR _).mono ?_; rintro e wx ⟨rfl, hwx⟩; subst wx))
                  rw [← hW1]
                  go_ret
                  exact ⟨by simp [q1, q2], hb.out⟩
              · skip
                go_enter Tryz.func36, Tryz.ntmps36
                go_wp2_with (first | (go_at_call 57; refine (hR _).mono ?_; rintro e wx ⟨rfl, hwx⟩; subst wx))
                rw [← hW1]
                go_ret
                exact ⟨by simp [q1, q2], hb.out⟩
          · skip
            go_enter Tryz.func36, Tryz.ntmps36
            go_wp2_with (first | (go_at_call 57; refine (hR _).mono ?_; rintro e wx ⟨rfl, hwx⟩; subst wx))
            rw [← hW1]
            go_ret
            exact ⟨by simp [q1, q2], hb.out⟩
        · skip
          go_enter Tryz.func36, Tryz.ntmps36
          go_wp2_with (first | (go_at_call 57; refine (hR _).mono ?_; rintro e wx ⟨rfl, hwx⟩; subst wx))
          rw [← hW1]
          go_ret
          exact ⟨by simp [q1, q2], hb.out⟩
      · skip
        go_enter Tryz.func36, Tryz.ntmps36
        go_wp2_with (first | (go_at_call 57; refine (hR _).mono ?_; rintro e wx ⟨rfl, hwx⟩; subst wx))
        rw [← hW1]
        go_ret
        exact ⟨by have hq : ¬ (source.size : Int) ≤ 64 := by omega
                  simp [q1, hq], hb.out⟩
    · skip
      go_enter Tryz.func36, Tryz.ntmps36
      go_wp2_with (first | (go_at_call 57; refine (hR _).mono ?_; rintro e wx ⟨rfl, hwx⟩; subst wx))
      rw [← hW1]
      go_ret
      exact ⟨by have hq : ¬ (1 : Int) ≤ (source.size : Int) := by omega
                simp [hq], hb.out⟩
  · skip
    go_enter Tryz.func36, Tryz.ntmps36
    go_wp2_with (first | (go_at_call 57; refine (hR _).mono ?_; rintro e wx ⟨rfl, hwx⟩; subst wx))
    rw [← hW1]
    go_ret
    exact ⟨by simp, hb.out⟩
theorem may2 (ref source input how text : ByteArray) (strict : Bool) (lo hi : Vl) : mayB ⟨ref, 2, source, input, how, strict, lo, hi, text⟩ = (refB ref && (howB how && ((source.toList == []) && (zB lo && (zB hi && (text.toList == [])))))) := by
  have e : (⟨#[]⟩ : ByteArray).toList = [] := by decide +kernel
  have p : partsB ⟨ref, 2, source, input, how, strict, lo, hi, text⟩ = howB how := by unfold partsB; rfl
  have q : wipN ⟨ref, 2, source, input, how, strict, lo, hi, text⟩ = ⟨ref, 2, ⟨#[]⟩, input, how, strict, zer, zer, ⟨#[]⟩⟩ := by unfold wipN; rfl
  unfold mayB
  rw [p, q]
  unfold eqNd zB zer
  simp only [e]
  cases refB ref <;> cases howB how <;> simp
set_option maxRecDepth 100000 in
set_option maxHeartbeats 4000000 in
theorem is2 (ref source input how text : ByteArray) (strict : Bool) (lk ln hk hn : Int) (w : World) (hr : ref.size ≤ 1000000) : Calls Tryz.prog 36 #[.agg #[.string ref, .int .i64 2, .string source, .string input, .string how, .bool strict, .int .i64 lk, .int .i64 ln, .int .i64 hk, .int .i64 hn, .string text]] w fun e w' => e = .returned (.bool (mayB ⟨ref, 2, source, input, how, strict, ⟨lk, ln⟩, ⟨hk, hn⟩, text⟩)) ∧ Below w.heap.size w w' := by
  rw [may2]
  have heL := fun W => eq34 lk ln 0 0 W
  have heH := fun W => eq34 hk hn 0 0 W
  have hzL : Hid (zB ⟨lk, ln⟩ = ((lk == 0) && ((ln == 0) && true))) := rfl
  have hzH : Hid (zB ⟨hk, hn⟩ = ((hk == 0) && ((hn == 0) && true))) := rfl
  have hR := fun W => rref57 ref W (by omega)
  obtain ⟨W1, hW1⟩ : ∃ W1, W1 = (w.alloc (.cells #[.string ref, .int .i64 2, .string source, .string input, .string how, .bool strict, .int .i64 lk, .int .i64 ln, .int .i64 hk, .int .i64 hn, .string text] 36)).alloc (.cells #[.int .i64 0, .int .i64 0] 34) := ⟨_, rfl⟩
  have hb : Hid (Below w.heap.size w W1) := by rw [hW1]; exact ((Below.refl _ _).alloc (Nat.le_refl _) _).alloc (by simp) _
  have hD : ∀ W, Calls Tryz.prog 58 #[.string how, .bool strict, .slice none 0 0] W fun e w' => ∃ vk vn, e = .returned (.tuple #[.agg #[.int .i64 vk, .int .i64 vn], .int .i64 (if howB how = true then 0 else 100)]) ∧ Below W.heap.size W w' := fun W => (rreduce58 how strict W).mono fun e w' ⟨v, h1, h2⟩ => ⟨v.kind, v.n, h1, h2⟩
  have hk0 : Hid (∀ W, Below W1.heap.size W1 W → Below W1.heap.size W1 W ∧ (∀ o', (W.alloc o').cell? ⟨w.heap.size, 2, none⟩ = some (.string source)) ∧ (∀ o', (W.alloc o').cell? ⟨w.heap.size, 6, none⟩ = some (.int .i64 lk)) ∧ (∀ o', (W.alloc o').cell? ⟨w.heap.size, 7, none⟩ = some (.int .i64 ln)) ∧ (∀ o', (W.alloc o').cell? ⟨w.heap.size, 8, none⟩ = some (.int .i64 hk)) ∧ (∀ o', (W.alloc o').cell? ⟨w.heap.size, 9, none⟩ = some (.int .i64 hn)) ∧ (∀ o', (W.alloc o').cell? ⟨w.heap.size, 10, none⟩ = some (.string text)) ∧ (∀ o', (W.alloc o').cell? ⟨w.heap.size + 1, 0, none⟩ = some (.int .i64 0)) ∧ (∀ o', (W.alloc o').cell? ⟨w.heap.size + 1, 1, none⟩ = some (.int .i64 0))) := fun W h => by
    have hs : W1.heap.size = w.heap.size + 2 := by rw [hW1]; simp
    have q := fun (p : Addr) (o' : Obj) (hp : p.block < W1.heap.size) => (h.alloc h.size o').cell (p := p) hp
    refine ⟨h, ?_, ?_, ?_, ?_, ?_, ?_, ?_, ?_⟩ <;> (intro o'; rw [q _ o' (by rw [hs]; dsimp only; omega), hW1]; simp)
  have i3 := emp_is source
  have i10 := emp_is text
  rw [← hzL.out] at heL
  rw [← hzH.out] at heH
  clear hzL hzH
  generalize refB ref = RB at *
  generalize zB ⟨lk, ln⟩ = ZL at *
  generalize zB ⟨hk, hn⟩ = ZH at *
  generalize howB how = HB at *
  generalize hI : (source.toList == []) = I at *
  generalize hTe : (text.toList == []) = Te at *
  rcases Bool.eq_false_or_eq_true RB with rfl | rfl
  · skip
    rcases Bool.eq_false_or_eq_true HB with rfl | rfl
    · skip
      rcases Bool.eq_false_or_eq_true I with rfl | rfl
      · skip
        rcases Bool.eq_false_or_eq_true ZL with rfl | rfl
        · skip
          rcases Bool.eq_false_or_eq_true ZH with rfl | rfl
          · skip
            rcases Bool.eq_false_or_eq_true Te with rfl | rfl
            · skip
              go_enter Tryz.func36, Tryz.ntmps36
              go_upto_region 8 with (first | (go_at_call 57; refine (hR _).mono ?_; rintro e wx ⟨rfl, hwx⟩; subst wx))
              rw [← hW1]
              have hD' := hD W1
              have z1 : W1.cell? ⟨w.heap.size, 4, none⟩ = some (.string how) := by rw [hW1]; simp
              have z2 : W1.cell? ⟨w.heap.size, 5, none⟩ = some (.bool strict) := by rw [hW1]; simp
              replace hW1 : Hid _ := hW1
              go_wp2_with (first | (go_at_call 58; refine hD'.mono ?_; rintro e w2 ⟨vk, vn, rfl, hb2⟩; obtain ⟨hb2', d2, d6, d7, d8, d9, d10, y0, y1⟩ := hk0.out w2 hb2; replace hb2' : Hid _ := hb2'; replace hb2 : Hid (Below W1.heap.size W1 w2) := hb2))
              go_ret
              have hB2 := hb.out.trans (hb2.out.mono hb.out.size)
              exact ⟨by simp, hB2.alloc hB2.size _⟩
            · skip
              go_enter Tryz.func36, Tryz.ntmps36
              go_upto_region 8 with (first | (go_at_call 57; refine (hR _).mono ?_; rintro e wx ⟨rfl, hwx⟩; subst wx))
              rw [← hW1]
              have hD' := hD W1
              have z1 : W1.cell? ⟨w.heap.size, 4, none⟩ = some (.string how) := by rw [hW1]; simp
              have z2 : W1.cell? ⟨w.heap.size, 5, none⟩ = some (.bool strict) := by rw [hW1]; simp
              replace hW1 : Hid _ := hW1
              go_wp2_with (first | (go_at_call 58; refine hD'.mono ?_; rintro e w2 ⟨vk, vn, rfl, hb2⟩; obtain ⟨hb2', d2, d6, d7, d8, d9, d10, y0, y1⟩ := hk0.out w2 hb2; replace hb2' : Hid _ := hb2'; replace hb2 : Hid (Below W1.heap.size W1 w2) := hb2))
              go_ret
              have hB2 := hb.out.trans (hb2.out.mono hb.out.size)
              exact ⟨by simp, hB2.alloc hB2.size _⟩
          · skip
            go_enter Tryz.func36, Tryz.ntmps36
            go_upto_region 8 with (first | (go_at_call 57; refine (hR _).mono ?_; rintro e wx ⟨rfl, hwx⟩; subst wx))
            rw [← hW1]
            have hD' := hD W1
            have z1 : W1.cell? ⟨w.heap.size, 4, none⟩ = some (.string how) := by rw [hW1]; simp
            have z2 : W1.cell? ⟨w.heap.size, 5, none⟩ = some (.bool strict) := by rw [hW1]; simp
            replace hW1 : Hid _ := hW1
            go_wp2_with (first | (go_at_call 58; refine hD'.mono ?_; rintro e w2 ⟨vk, vn, rfl, hb2⟩; obtain ⟨hb2', d2, d6, d7, d8, d9, d10, y0, y1⟩ := hk0.out w2 hb2; replace hb2' : Hid _ := hb2'; replace hb2 : Hid (Below W1.heap.size W1 w2) := hb2))
            go_ret
            have hB2 := hb.out.trans (hb2.out.mono hb.out.size)
            exact ⟨by simp, hB2.alloc hB2.size _⟩
        · skip
          go_enter Tryz.func36, Tryz.ntmps36
          go_upto_region 8 with (first | (go_at_call 57; refine (hR _).mono ?_; rintro e wx ⟨rfl, hwx⟩; subst wx))
          rw [← hW1]
          have hD' := hD W1
          have z1 : W1.cell? ⟨w.heap.size, 4, none⟩ = some (.string how) := by rw [hW1]; simp
          have z2 : W1.cell? ⟨w.heap.size, 5, none⟩ = some (.bool strict) := by rw [hW1]; simp
          replace hW1 : Hid _ := hW1
          go_wp2_with (first | (go_at_call 58; refine hD'.mono ?_; rintro e w2 ⟨vk, vn, rfl, hb2⟩; obtain ⟨hb2', d2, d6, d7, d8, d9, d10, y0, y1⟩ := hk0.out w2 hb2; replace hb2' : Hid _ := hb2'; replace hb2 : Hid (Below W1.heap.size W1 w2) := hb2))
          go_ret
          have hB2 := hb.out.trans (hb2.out.mono hb.out.size)
          exact ⟨by simp, hB2.alloc hB2.size _⟩
      · skip
        go_enter Tryz.func36, Tryz.ntmps36
        go_upto_region 8 with (first | (go_at_call 57; refine (hR _).mono ?_; rintro e wx ⟨rfl, hwx⟩; subst wx))
        rw [← hW1]
        have hD' := hD W1
        have z1 : W1.cell? ⟨w.heap.size, 4, none⟩ = some (.string how) := by rw [hW1]; simp
        have z2 : W1.cell? ⟨w.heap.size, 5, none⟩ = some (.bool strict) := by rw [hW1]; simp
        replace hW1 : Hid _ := hW1
        go_wp2_with (first | (go_at_call 58; refine hD'.mono ?_; rintro e w2 ⟨vk, vn, rfl, hb2⟩; obtain ⟨hb2', d2, d6, d7, d8, d9, d10, y0, y1⟩ := hk0.out w2 hb2; replace hb2' : Hid _ := hb2'; replace hb2 : Hid (Below W1.heap.size W1 w2) := hb2))
        go_ret
        have hB2 := hb.out.trans (hb2.out.mono hb.out.size)
        exact ⟨by simp, hB2.alloc hB2.size _⟩
    · skip
      go_enter Tryz.func36, Tryz.ntmps36
      go_upto_region 8 with (first | (go_at_call 57; refine (hR _).mono ?_; rintro e wx ⟨rfl, hwx⟩; subst wx))
      rw [← hW1]
      have hD' := hD W1
      have z1 : W1.cell? ⟨w.heap.size, 4, none⟩ = some (.string how) := by rw [hW1]; simp
      have z2 : W1.cell? ⟨w.heap.size, 5, none⟩ = some (.bool strict) := by rw [hW1]; simp
      replace hW1 : Hid _ := hW1
      go_wp2_with (first | (go_at_call 58; refine hD'.mono ?_; rintro e w2 ⟨vk, vn, rfl, hb2⟩; obtain ⟨hb2', d2, d6, d7, d8, d9, d10, y0, y1⟩ := hk0.out w2 hb2; replace hb2' : Hid _ := hb2'; replace hb2 : Hid (Below W1.heap.size W1 w2) := hb2))
      go_ret
      have hB2 := hb.out.trans (hb2.out.mono hb.out.size)
      exact ⟨by simp, hB2.alloc hB2.size _⟩
  · skip
    go_enter Tryz.func36, Tryz.ntmps36
    go_wp2_with (first | (go_at_call 57; refine (hR _).mono ?_; rintro e wx ⟨rfl, hwx⟩; subst wx))
    rw [← hW1]
    go_ret
    exact ⟨by simp , hb.out⟩
end Go.Proofs.YtaffplmfnincfaaGreatDoor
/- DagChecks: the document's Is of the other Kinds. -/
namespace Go.Proofs.YtaffplmfnincfaaGreatDoor
set_option linter.unusedVariables false
set_option linter.unusedSimpArgs false
open Go.RowKit
theorem lit_eq2 {u : ByteArray} {l : List UInt8} (h : (u.toList == l) = true) : u = ⟨l.toArray⟩ := ba_ext (by rw [← ByteArray.toList_eq]; exact eq_of_beq h)
theorem may3 (ref source input how text : ByteArray) (strict : Bool) (lo hi : Vl) : mayB ⟨ref, 3, source, input, how, strict, lo, hi, text⟩ = (refB ref && (treeB text && ((source.toList == []) && ((input.toList == []) && ((how.toList == []) && (!strict && (zB lo && zB hi))))))) := by
  have e : (⟨#[]⟩ : ByteArray).toList = [] := by decide +kernel
  have p : partsB ⟨ref, 3, source, input, how, strict, lo, hi, text⟩ = treeB text := by unfold partsB; rfl
  have q : wipN ⟨ref, 3, source, input, how, strict, lo, hi, text⟩ = ⟨ref, 3, ⟨#[]⟩, ⟨#[]⟩, ⟨#[]⟩, false, zer, zer, text⟩ := by unfold wipN; rfl
  unfold mayB
  rw [p, q]
  unfold eqNd zB zer
  simp only [e]
  cases refB ref <;> cases treeB text <;> cases strict <;> simp
theorem may4a (ref source input how text : ByteArray) (strict : Bool) (lo hi : Vl) (h : how = ⟨#[103, 116]⟩ ∨ how = ⟨#[108, 116]⟩) : mayB ⟨ref, 4, source, input, how, strict, lo, hi, text⟩ = (refB ref && (bndB lo && (zB hi && ((source.toList == []) && (!strict && (text.toList == [])))))) := by
  have e : (⟨#[]⟩ : ByteArray).toList = [] := by decide +kernel
  have e1 : (how.toList == [103, 116] || how.toList == [108, 116]) = true := by rcases h with rfl | rfl <;> decide +kernel
  have e2 : ¬ (how.toList == [105, 110] || how.toList == [111, 117, 116]) = true := by rcases h with rfl | rfl <;> decide +kernel
  have p : partsB ⟨ref, 4, source, input, how, strict, lo, hi, text⟩ = bndB lo := by
    unfold partsB
    show hbB _ = _
    unfold hbB
    rw [if_pos e1]
  have q : wipN ⟨ref, 4, source, input, how, strict, lo, hi, text⟩ = ⟨ref, 4, ⟨#[]⟩, input, how, false, lo, zer, ⟨#[]⟩⟩ := by
    unfold wipN
    show (⟨ref, 4, ⟨#[]⟩, input, how, false, lo, if _ then hi else zer, ⟨#[]⟩⟩ : Nd) = _
    rw [if_neg e2]
  unfold mayB
  rw [p, q]
  unfold eqNd zB zer
  simp only [e]
  simp only [beq_self_eq_true, Bool.and_true, Bool.true_and]
  generalize (source.toList == []) = A
  generalize (text.toList == []) = B
  generalize (hi.kind == 0) = C
  generalize (hi.n == 0) = D
  generalize refB ref = E
  generalize bndB lo = F
  cases strict <;> cases A <;> cases B <;> cases C <;> cases D <;> cases E <;> cases F <;> rfl
theorem may4b (ref source input how text : ByteArray) (strict : Bool) (lo hi : Vl) (h : how = ⟨#[105, 110]⟩ ∨ how = ⟨#[111, 117, 116]⟩) : mayB ⟨ref, 4, source, input, how, strict, lo, hi, text⟩ = (refB ref && (bndB lo && (bndB hi && ((source.toList == []) && (!strict && (text.toList == [])))))) := by
  have e : (⟨#[]⟩ : ByteArray).toList = [] := by decide +kernel
  have e1 : ¬ (how.toList == [103, 116] || how.toList == [108, 116]) = true := by rcases h with rfl | rfl <;> decide +kernel
  have e2 : (how.toList == [105, 110] || how.toList == [111, 117, 116]) = true := by rcases h with rfl | rfl <;> decide +kernel
  have p : partsB ⟨ref, 4, source, input, how, strict, lo, hi, text⟩ = (bndB lo && bndB hi) := by
    unfold partsB
    show hbB _ = _
    unfold hbB
    rw [if_neg e1, if_pos e2]
  have q : wipN ⟨ref, 4, source, input, how, strict, lo, hi, text⟩ = ⟨ref, 4, ⟨#[]⟩, input, how, false, lo, hi, ⟨#[]⟩⟩ := by
    unfold wipN
    show (⟨ref, 4, ⟨#[]⟩, input, how, false, lo, if _ then hi else zer, ⟨#[]⟩⟩ : Nd) = _
    rw [if_pos e2]
  unfold mayB
  rw [p, q]
  unfold eqNd
  simp only [e]
  cases refB ref <;> cases bndB lo <;> cases bndB hi <;> cases strict <;> simp
theorem may4c (ref source input how text : ByteArray) (strict : Bool) (lo hi : Vl) (h1 : (how.toList == [103, 116]) = false) (h2 : (how.toList == [108, 116]) = false) (h3 : (how.toList == [105, 110]) = false) (h4 : (how.toList == [111, 117, 116]) = false) : mayB ⟨ref, 4, source, input, how, strict, lo, hi, text⟩ = false := by
  have p : partsB ⟨ref, 4, source, input, how, strict, lo, hi, text⟩ = false := by
    unfold partsB
    show hbB _ = _
    unfold hbB
    rw [if_neg (by rw [h1, h2]; decide), if_neg (by rw [h3, h4]; decide)]
  unfold mayB
  rw [p]
  simp
theorem mayNo (x : Nd) (h1 : ¬ x.kind = 1) (h2 : ¬ x.kind = 2) (h3 : ¬ x.kind = 3) (h4 : ¬ x.kind = 4) : mayB x = false := by
  have p : partsB x = false := by
    unfold partsB
    rw [if_neg h1, if_neg h2, if_neg h3, if_neg h4]
  unfold mayB
  rw [p]
  simp
set_option maxRecDepth 100000 in
set_option maxHeartbeats 4000000 in
open Classical in
theorem is3 (ref source input how text : ByteArray) (strict : Bool) (lk ln hk hn : Int) (w : World) (hG : G w) (hS : SignsAt w) (hr : ref.size ≤ 1000000) (ht : TPar text) : Calls Tryz.prog 36 #[.agg #[.string ref, .int .i64 3, .string source, .string input, .string how, .bool strict, .int .i64 lk, .int .i64 ln, .int .i64 hk, .int .i64 hn, .string text]] w fun e w' => e = .returned (.bool (mayB ⟨ref, 3, source, input, how, strict, ⟨lk, ln⟩, ⟨hk, hn⟩, text⟩)) ∧ Below w.heap.size w w' := by
  rw [may3]
  have heL := fun W => eq34 lk ln 0 0 W
  have heH := fun W => eq34 hk hn 0 0 W
  have hzL : Hid (zB ⟨lk, ln⟩ = ((lk == 0) && ((ln == 0) && true))) := rfl
  have hzH : Hid (zB ⟨hk, hn⟩ = ((hk == 0) && ((hn == 0) && true))) := rfl
  have hR := fun W => rref57 ref W (by omega)
  obtain ⟨W1, hW1⟩ : ∃ W1, W1 = (w.alloc (.cells #[.string ref, .int .i64 3, .string source, .string input, .string how, .bool strict, .int .i64 lk, .int .i64 ln, .int .i64 hk, .int .i64 hn, .string text] 36)).alloc (.cells #[.int .i64 0, .int .i64 0] 34) := ⟨_, rfl⟩
  have hb : Hid (Below w.heap.size w W1) := by rw [hW1]; exact ((Below.refl _ _).alloc (Nat.le_refl _) _).alloc (by simp) _
  have hD : ∀ W, Below w.heap.size w W → Calls Tryz.prog 30 #[.string text] W fun e w' => ∃ k n x y a m c er p, e = .returned (.tuple #[.agg #[.int .i64 k, .string n, .int .i64 x, .int .i64 y, .slice a m c], .int .i64 er, .int .i64 p]) ∧ Below W.heap.size W w' ∧ (er == 0) = treeB text := fun W h => (ht W (hG.grow h) (hS.grow h)).mono fun e w' g => by
    obtain ⟨k, n, x, y, a, m, c, er, p, g1, g2⟩ := g
    obtain ⟨g3, g4⟩ := g2.out
    refine ⟨k, n, x, y, a, m, c, er, p, g1, g3, ?_⟩
    rcases g4 with ⟨h1, h2⟩ | ⟨h1, h2, X, h3, _⟩
    · unfold treeB
      rw [decide_eq_false h2]
      simpa using h1
    · rw [treeB_ok h2 h3, h1]
      rfl
  have hk0 : Hid (∀ W, Below W1.heap.size W1 W → Below W1.heap.size W1 W ∧ (∀ o', (W.alloc o').cell? ⟨w.heap.size, 2, none⟩ = some (.string source)) ∧ (∀ o', (W.alloc o').cell? ⟨w.heap.size, 3, none⟩ = some (.string input)) ∧ (∀ o', (W.alloc o').cell? ⟨w.heap.size, 4, none⟩ = some (.string how)) ∧ (∀ o', (W.alloc o').cell? ⟨w.heap.size, 5, none⟩ = some (.bool strict)) ∧ (∀ o', (W.alloc o').cell? ⟨w.heap.size, 6, none⟩ = some (.int .i64 lk)) ∧ (∀ o', (W.alloc o').cell? ⟨w.heap.size, 7, none⟩ = some (.int .i64 ln)) ∧ (∀ o', (W.alloc o').cell? ⟨w.heap.size, 8, none⟩ = some (.int .i64 hk)) ∧ (∀ o', (W.alloc o').cell? ⟨w.heap.size, 9, none⟩ = some (.int .i64 hn)) ∧ (∀ o', (W.alloc o').cell? ⟨w.heap.size + 1, 0, none⟩ = some (.int .i64 0)) ∧ (∀ o', (W.alloc o').cell? ⟨w.heap.size + 1, 1, none⟩ = some (.int .i64 0))) := fun W h => by
    have hs : W1.heap.size = w.heap.size + 2 := by rw [hW1]; simp
    have q := fun (p : Addr) (o' : Obj) (hp : p.block < W1.heap.size) => (h.alloc h.size o').cell (p := p) hp
    refine ⟨h, ?_, ?_, ?_, ?_, ?_, ?_, ?_, ?_, ?_, ?_⟩ <;> (intro o'; rw [q _ o' (by rw [hs]; dsimp only; omega), hW1]; simp)
  have i2 := emp_is source
  have i3 := emp_is input
  have i4 := emp_is how
  rw [← hzL.out] at heL
  rw [← hzH.out] at heH
  clear hzL hzH hG hS ht
  generalize refB ref = RB at *
  generalize zB ⟨lk, ln⟩ = ZL at *
  generalize zB ⟨hk, hn⟩ = ZH at *
  generalize treeB text = TB at *
  generalize hI : (source.toList == []) = I at *
  generalize hIn : (input.toList == []) = In at *
  generalize hHo : (how.toList == []) = Ho at *
  rcases Bool.eq_false_or_eq_true RB with rfl | rfl
  · skip
    rcases Bool.eq_false_or_eq_true TB with rfl | rfl
    · skip
      rcases Bool.eq_false_or_eq_true I with rfl | rfl
      · skip
        rcases Bool.eq_false_or_eq_true In with rfl | rfl
        · skip
          rcases Bool.eq_false_or_eq_true Ho with rfl | rfl
          · skip
            rcases Bool.eq_false_or_eq_true strict with rfl | rfl
            · skip
              go_enter Tryz.func36, Tryz.ntmps36
              go_upto_region 11 with (first | (go_at_call 57; refine (hR _).mono ?_; rintro e wx ⟨rfl, hwx⟩; subst wx))
              rw [← hW1]
              have hD' := hD W1 hb.out
              have z1 : W1.cell? ⟨w.heap.size, 10, none⟩ = some (.string text) := by rw [hW1]; simp
              replace hW1 : Hid _ := hW1
              go_wp2_with (first | (go_at_call 30; refine hD'.mono ?_; clear hD'; rintro e w2 ⟨vk, vs, vx, vy, va, vm, vc, er, vp, rfl, hb2, her⟩; obtain ⟨hbX, d2, d3, d4, d5, d6, d7, d8, d9, y0, y1⟩ := hk0.out w2 hb2; replace hbX : Hid _ := hbX; replace hb2 : Hid (Below W1.heap.size W1 w2) := hb2))
              go_ret
              have hB2 := hb.out.trans (hb2.out.mono hb.out.size)
              exact ⟨by simp, hB2.alloc hB2.size _⟩
            · skip
              rcases Bool.eq_false_or_eq_true ZL with rfl | rfl
              · skip
                rcases Bool.eq_false_or_eq_true ZH with rfl | rfl
                · skip
                  go_enter Tryz.func36, Tryz.ntmps36
                  go_upto_region 11 with (first | (go_at_call 57; refine (hR _).mono ?_; rintro e wx ⟨rfl, hwx⟩; subst wx))
                  rw [← hW1]
                  have hD' := hD W1 hb.out
                  have z1 : W1.cell? ⟨w.heap.size, 10, none⟩ = some (.string text) := by rw [hW1]; simp
                  replace hW1 : Hid _ := hW1
                  go_wp2_with (first | (go_at_call 30; refine hD'.mono ?_; clear hD'; rintro e w2 ⟨vk, vs, vx, vy, va, vm, vc, er, vp, rfl, hb2, her⟩; obtain ⟨hbX, d2, d3, d4, d5, d6, d7, d8, d9, y0, y1⟩ := hk0.out w2 hb2; replace hbX : Hid _ := hbX; replace hb2 : Hid (Below W1.heap.size W1 w2) := hb2))
                  go_ret
                  have hB2 := hb.out.trans (hb2.out.mono hb.out.size)
                  exact ⟨by simp, hB2.alloc hB2.size _⟩
                · skip
                  go_enter Tryz.func36, Tryz.ntmps36
                  go_upto_region 11 with (first | (go_at_call 57; refine (hR _).mono ?_; rintro e wx ⟨rfl, hwx⟩; subst wx))
                  rw [← hW1]
                  have hD' := hD W1 hb.out
                  have z1 : W1.cell? ⟨w.heap.size, 10, none⟩ = some (.string text) := by rw [hW1]; simp
                  replace hW1 : Hid _ := hW1
                  go_wp2_with (first | (go_at_call 30; refine hD'.mono ?_; clear hD'; rintro e w2 ⟨vk, vs, vx, vy, va, vm, vc, er, vp, rfl, hb2, her⟩; obtain ⟨hbX, d2, d3, d4, d5, d6, d7, d8, d9, y0, y1⟩ := hk0.out w2 hb2; replace hbX : Hid _ := hbX; replace hb2 : Hid (Below W1.heap.size W1 w2) := hb2))
                  go_ret
                  have hB2 := hb.out.trans (hb2.out.mono hb.out.size)
                  exact ⟨by simp, hB2.alloc hB2.size _⟩
              · skip
                go_enter Tryz.func36, Tryz.ntmps36
                go_upto_region 11 with (first | (go_at_call 57; refine (hR _).mono ?_; rintro e wx ⟨rfl, hwx⟩; subst wx))
                rw [← hW1]
                have hD' := hD W1 hb.out
                have z1 : W1.cell? ⟨w.heap.size, 10, none⟩ = some (.string text) := by rw [hW1]; simp
                replace hW1 : Hid _ := hW1
                go_wp2_with (first | (go_at_call 30; refine hD'.mono ?_; clear hD'; rintro e w2 ⟨vk, vs, vx, vy, va, vm, vc, er, vp, rfl, hb2, her⟩; obtain ⟨hbX, d2, d3, d4, d5, d6, d7, d8, d9, y0, y1⟩ := hk0.out w2 hb2; replace hbX : Hid _ := hbX; replace hb2 : Hid (Below W1.heap.size W1 w2) := hb2))
                go_ret
                have hB2 := hb.out.trans (hb2.out.mono hb.out.size)
                exact ⟨by simp, hB2.alloc hB2.size _⟩
          · skip
            go_enter Tryz.func36, Tryz.ntmps36
            go_upto_region 11 with (first | (go_at_call 57; refine (hR _).mono ?_; rintro e wx ⟨rfl, hwx⟩; subst wx))
            rw [← hW1]
            have hD' := hD W1 hb.out
            have z1 : W1.cell? ⟨w.heap.size, 10, none⟩ = some (.string text) := by rw [hW1]; simp
            replace hW1 : Hid _ := hW1
            go_wp2_with (first | (go_at_call 30; refine hD'.mono ?_; clear hD'; rintro e w2 ⟨vk, vs, vx, vy, va, vm, vc, er, vp, rfl, hb2, her⟩; obtain ⟨hbX, d2, d3, d4, d5, d6, d7, d8, d9, y0, y1⟩ := hk0.out w2 hb2; replace hbX : Hid _ := hbX; replace hb2 : Hid (Below W1.heap.size W1 w2) := hb2))
            go_ret
            have hB2 := hb.out.trans (hb2.out.mono hb.out.size)
            exact ⟨by simp, hB2.alloc hB2.size _⟩
        · skip
          go_enter Tryz.func36, Tryz.ntmps36
          go_upto_region 11 with (first | (go_at_call 57; refine (hR _).mono ?_; rintro e wx ⟨rfl, hwx⟩; subst wx))
          rw [← hW1]
          have hD' := hD W1 hb.out
          have z1 : W1.cell? ⟨w.heap.size, 10, none⟩ = some (.string text) := by rw [hW1]; simp
          replace hW1 : Hid _ := hW1
          go_wp2_with (first | (go_at_call 30; refine hD'.mono ?_; clear hD'; rintro e w2 ⟨vk, vs, vx, vy, va, vm, vc, er, vp, rfl, hb2, her⟩; obtain ⟨hbX, d2, d3, d4, d5, d6, d7, d8, d9, y0, y1⟩ := hk0.out w2 hb2; replace hbX : Hid _ := hbX; replace hb2 : Hid (Below W1.heap.size W1 w2) := hb2))
          go_ret
          have hB2 := hb.out.trans (hb2.out.mono hb.out.size)
          exact ⟨by simp, hB2.alloc hB2.size _⟩
      · skip
        go_enter Tryz.func36, Tryz.ntmps36
        go_upto_region 11 with (first | (go_at_call 57; refine (hR _).mono ?_; rintro e wx ⟨rfl, hwx⟩; subst wx))
        rw [← hW1]
        have hD' := hD W1 hb.out
        have z1 : W1.cell? ⟨w.heap.size, 10, none⟩ = some (.string text) := by rw [hW1]; simp
        replace hW1 : Hid _ := hW1
        go_wp2_with (first | (go_at_call 30; refine hD'.mono ?_; clear hD'; rintro e w2 ⟨vk, vs, vx, vy, va, vm, vc, er, vp, rfl, hb2, her⟩; obtain ⟨hbX, d2, d3, d4, d5, d6, d7, d8, d9, y0, y1⟩ := hk0.out w2 hb2; replace hbX : Hid _ := hbX; replace hb2 : Hid (Below W1.heap.size W1 w2) := hb2))
        go_ret
        have hB2 := hb.out.trans (hb2.out.mono hb.out.size)
        exact ⟨by simp, hB2.alloc hB2.size _⟩
    · skip
      go_enter Tryz.func36, Tryz.ntmps36
      go_upto_region 11 with (first | (go_at_call 57; refine (hR _).mono ?_; rintro e wx ⟨rfl, hwx⟩; subst wx))
      rw [← hW1]
      have hD' := hD W1 hb.out
      have z1 : W1.cell? ⟨w.heap.size, 10, none⟩ = some (.string text) := by rw [hW1]; simp
      replace hW1 : Hid _ := hW1
      go_wp2_with (first | (go_at_call 30; refine hD'.mono ?_; clear hD'; rintro e w2 ⟨vk, vs, vx, vy, va, vm, vc, er, vp, rfl, hb2, her⟩; obtain ⟨hbX, d2, d3, d4, d5, d6, d7, d8, d9, y0, y1⟩ := hk0.out w2 hb2; replace hbX : Hid _ := hbX; replace hb2 : Hid (Below W1.heap.size W1 w2) := hb2))
      go_ret
      have hB2 := hb.out.trans (hb2.out.mono hb.out.size)
      exact ⟨by simp, hB2.alloc hB2.size _⟩
  · skip
    go_enter Tryz.func36, Tryz.ntmps36
    go_wp2_with (first | (go_at_call 57; refine (hR _).mono ?_; rintro e wx ⟨rfl, hwx⟩; subst wx))
    rw [← hW1]
    go_ret
    exact ⟨by simp, hb.out⟩
set_option maxRecDepth 100000 in
set_option maxHeartbeats 4000000 in
theorem is4gt (ref source input text : ByteArray) (strict : Bool) (lk ln hk hn : Int) (w : World) (hr : ref.size ≤ 1000000) : Calls Tryz.prog 36 #[.agg #[.string ref, .int .i64 4, .string source, .string input, .string ⟨#[103, 116]⟩, .bool strict, .int .i64 lk, .int .i64 ln, .int .i64 hk, .int .i64 hn, .string text]] w fun e w' => e = .returned (.bool (mayB ⟨ref, 4, source, input, ⟨#[103, 116]⟩, strict, ⟨lk, ln⟩, ⟨hk, hn⟩, text⟩)) ∧ Below w.heap.size w w' := by
  rw [may4a _ _ _ _ _ _ _ _ (by simp)]
  have heL := fun W => eq34 lk ln 0 0 W
  have heH := fun W => eq34 hk hn 0 0 W
  have hzL : Hid (zB ⟨lk, ln⟩ = ((lk == 0) && ((ln == 0) && true))) := rfl
  have hzH : Hid (zB ⟨hk, hn⟩ = ((hk == 0) && ((hn == 0) && true))) := rfl
  have hR := fun W => rref57 ref W (by omega)
  obtain ⟨W1, hW1⟩ : ∃ W1, W1 = (w.alloc (.cells #[.string ref, .int .i64 4, .string source, .string input, .string ⟨#[103, 116]⟩, .bool strict, .int .i64 lk, .int .i64 ln, .int .i64 hk, .int .i64 hn, .string text] 36)).alloc (.cells #[.int .i64 0, .int .i64 0] 34) := ⟨_, rfl⟩
  have hb : Hid (Below w.heap.size w W1) := by rw [hW1]; exact ((Below.refl _ _).alloc (Nat.le_refl _) _).alloc (by simp) _
  have hL : ∀ W, Calls Tryz.prog 59 #[.agg #[.int .i64 lk, .int .i64 ln]] W fun e w' => e = .returned (.bool (bndB ⟨lk, ln⟩)) ∧ Below W.heap.size W w' := fun W => rbound59 ⟨lk, ln⟩ W
  have hH : ∀ W, Calls Tryz.prog 59 #[.agg #[.int .i64 hk, .int .i64 hn]] W fun e w' => e = .returned (.bool (bndB ⟨hk, hn⟩)) ∧ Below W.heap.size W w' := fun W => rbound59 ⟨hk, hn⟩ W
  have hk0 : Hid (∀ W, Below W1.heap.size W1 W → Below W1.heap.size W1 W ∧ (W.cell? ⟨w.heap.size, 2, none⟩ = some (.string source)) ∧ (W.cell? ⟨w.heap.size, 5, none⟩ = some (.bool strict)) ∧ (W.cell? ⟨w.heap.size, 6, none⟩ = some (.int .i64 lk)) ∧ (W.cell? ⟨w.heap.size, 7, none⟩ = some (.int .i64 ln)) ∧ (W.cell? ⟨w.heap.size, 8, none⟩ = some (.int .i64 hk)) ∧ (W.cell? ⟨w.heap.size, 9, none⟩ = some (.int .i64 hn)) ∧ (W.cell? ⟨w.heap.size, 10, none⟩ = some (.string text)) ∧ (W.cell? ⟨w.heap.size + 1, 0, none⟩ = some (.int .i64 0)) ∧ (W.cell? ⟨w.heap.size + 1, 1, none⟩ = some (.int .i64 0))) := fun W h => by
    have hs : W1.heap.size = w.heap.size + 2 := by rw [hW1]; simp
    have q := fun (p : Addr) (hp : p.block < W1.heap.size) => h.cell (p := p) hp
    refine ⟨h, ?_, ?_, ?_, ?_, ?_, ?_, ?_, ?_, ?_⟩ <;> (rw [q _ (by rw [hs]; dsimp only; omega), hW1]; simp)
  have i2 := emp_is source
  have i10 := emp_is text
  rw [← hzL.out] at heL
  rw [← hzH.out] at heH
  clear hzL hzH
  generalize refB ref = RB at *
  generalize zB ⟨hk, hn⟩ = ZH at *
  generalize bndB ⟨lk, ln⟩ = BL at *
  generalize bndB ⟨hk, hn⟩ = BH at *
  generalize hI : (source.toList == []) = I at *
  generalize hTe : (text.toList == []) = Te at *
  rcases Bool.eq_false_or_eq_true RB with rfl | rfl
  · skip
    rcases Bool.eq_false_or_eq_true BL with rfl | rfl
    · skip
      rcases Bool.eq_false_or_eq_true ZH with rfl | rfl
      · skip
        rcases Bool.eq_false_or_eq_true I with rfl | rfl
        · skip
          rcases Bool.eq_false_or_eq_true strict with rfl | rfl
          · skip
            go_enter Tryz.func36, Tryz.ntmps36
            go_upto_region 16 with (first | (go_at_call 57; refine (hR _).mono ?_; rintro e wx ⟨rfl, hwx⟩; subst wx))
            rw [← hW1]
            have hL' := hL W1
            have z6 : W1.cell? ⟨w.heap.size, 6, none⟩ = some (.int .i64 lk) := by rw [hW1]; simp
            have z7 : W1.cell? ⟨w.heap.size, 7, none⟩ = some (.int .i64 ln) := by rw [hW1]; simp
            replace hW1 : Hid _ := hW1
            go_wp2_with (first | (go_at_call 59; refine hL'.mono ?_; clear hL'; rintro e w2 ⟨rfl, hb2⟩; have hb2h : Hid (Below W1.heap.size W1 w2) := hb2; have hH' := hH w2; clear z6 z7; obtain ⟨hbX, d2, d5, d6, d7, d8, d9, d10, y0, y1⟩ := hk0.out w2 hb2; clear hb2 hbX))
            go_ret
            exact ⟨by simp, hb.out.trans (hb2h.out.mono hb.out.size)⟩
          · skip
            rcases Bool.eq_false_or_eq_true Te with rfl | rfl
            · skip
              go_enter Tryz.func36, Tryz.ntmps36
              go_upto_region 16 with (first | (go_at_call 57; refine (hR _).mono ?_; rintro e wx ⟨rfl, hwx⟩; subst wx))
              rw [← hW1]
              have hL' := hL W1
              have z6 : W1.cell? ⟨w.heap.size, 6, none⟩ = some (.int .i64 lk) := by rw [hW1]; simp
              have z7 : W1.cell? ⟨w.heap.size, 7, none⟩ = some (.int .i64 ln) := by rw [hW1]; simp
              replace hW1 : Hid _ := hW1
              go_wp2_with (first | (go_at_call 59; refine hL'.mono ?_; clear hL'; rintro e w2 ⟨rfl, hb2⟩; have hb2h : Hid (Below W1.heap.size W1 w2) := hb2; have hH' := hH w2; clear z6 z7; obtain ⟨hbX, d2, d5, d6, d7, d8, d9, d10, y0, y1⟩ := hk0.out w2 hb2; clear hb2 hbX))
              go_ret
              exact ⟨by simp, hb.out.trans (hb2h.out.mono hb.out.size)⟩
            · skip
              go_enter Tryz.func36, Tryz.ntmps36
              go_upto_region 16 with (first | (go_at_call 57; refine (hR _).mono ?_; rintro e wx ⟨rfl, hwx⟩; subst wx))
              rw [← hW1]
              have hL' := hL W1
              have z6 : W1.cell? ⟨w.heap.size, 6, none⟩ = some (.int .i64 lk) := by rw [hW1]; simp
              have z7 : W1.cell? ⟨w.heap.size, 7, none⟩ = some (.int .i64 ln) := by rw [hW1]; simp
              replace hW1 : Hid _ := hW1
              go_wp2_with (first | (go_at_call 59; refine hL'.mono ?_; clear hL'; rintro e w2 ⟨rfl, hb2⟩; have hb2h : Hid (Below W1.heap.size W1 w2) := hb2; have hH' := hH w2; clear z6 z7; obtain ⟨hbX, d2, d5, d6, d7, d8, d9, d10, y0, y1⟩ := hk0.out w2 hb2; clear hb2 hbX))
              go_ret
              exact ⟨by simp, hb.out.trans (hb2h.out.mono hb.out.size)⟩
        · skip
          go_enter Tryz.func36, Tryz.ntmps36
          go_upto_region 16 with (first | (go_at_call 57; refine (hR _).mono ?_; rintro e wx ⟨rfl, hwx⟩; subst wx))
          rw [← hW1]
          have hL' := hL W1
          have z6 : W1.cell? ⟨w.heap.size, 6, none⟩ = some (.int .i64 lk) := by rw [hW1]; simp
          have z7 : W1.cell? ⟨w.heap.size, 7, none⟩ = some (.int .i64 ln) := by rw [hW1]; simp
          replace hW1 : Hid _ := hW1
          go_wp2_with (first | (go_at_call 59; refine hL'.mono ?_; clear hL'; rintro e w2 ⟨rfl, hb2⟩; have hb2h : Hid (Below W1.heap.size W1 w2) := hb2; have hH' := hH w2; clear z6 z7; obtain ⟨hbX, d2, d5, d6, d7, d8, d9, d10, y0, y1⟩ := hk0.out w2 hb2; clear hb2 hbX))
          go_ret
          exact ⟨by simp, hb.out.trans (hb2h.out.mono hb.out.size)⟩
      · skip
        go_enter Tryz.func36, Tryz.ntmps36
        go_upto_region 16 with (first | (go_at_call 57; refine (hR _).mono ?_; rintro e wx ⟨rfl, hwx⟩; subst wx))
        rw [← hW1]
        have hL' := hL W1
        have z6 : W1.cell? ⟨w.heap.size, 6, none⟩ = some (.int .i64 lk) := by rw [hW1]; simp
        have z7 : W1.cell? ⟨w.heap.size, 7, none⟩ = some (.int .i64 ln) := by rw [hW1]; simp
        replace hW1 : Hid _ := hW1
        go_wp2_with (first | (go_at_call 59; refine hL'.mono ?_; clear hL'; rintro e w2 ⟨rfl, hb2⟩; have hb2h : Hid (Below W1.heap.size W1 w2) := hb2; have hH' := hH w2; clear z6 z7; obtain ⟨hbX, d2, d5, d6, d7, d8, d9, d10, y0, y1⟩ := hk0.out w2 hb2; clear hb2 hbX))
        go_ret
        exact ⟨by simp, hb.out.trans (hb2h.out.mono hb.out.size)⟩
    · skip
      go_enter Tryz.func36, Tryz.ntmps36
      go_upto_region 16 with (first | (go_at_call 57; refine (hR _).mono ?_; rintro e wx ⟨rfl, hwx⟩; subst wx))
      rw [← hW1]
      have hL' := hL W1
      have z6 : W1.cell? ⟨w.heap.size, 6, none⟩ = some (.int .i64 lk) := by rw [hW1]; simp
      have z7 : W1.cell? ⟨w.heap.size, 7, none⟩ = some (.int .i64 ln) := by rw [hW1]; simp
      replace hW1 : Hid _ := hW1
      go_wp2_with (first | (go_at_call 59; refine hL'.mono ?_; clear hL'; rintro e w2 ⟨rfl, hb2⟩; have hb2h : Hid (Below W1.heap.size W1 w2) := hb2; have hH' := hH w2; clear z6 z7; obtain ⟨hbX, d2, d5, d6, d7, d8, d9, d10, y0, y1⟩ := hk0.out w2 hb2; clear hb2 hbX))
      go_ret
      exact ⟨by simp, hb.out.trans (hb2h.out.mono hb.out.size)⟩
  · skip
    go_enter Tryz.func36, Tryz.ntmps36
    go_wp2_with (first | (go_at_call 57; refine (hR _).mono ?_; rintro e wx ⟨rfl, hwx⟩; subst wx))
    rw [← hW1]
    go_ret
    exact ⟨by simp, hb.out⟩
set_option maxRecDepth 100000 in
set_option maxHeartbeats 4000000 in
theorem is4lt (ref source input text : ByteArray) (strict : Bool) (lk ln hk hn : Int) (w : World) (hr : ref.size ≤ 1000000) : Calls Tryz.prog 36 #[.agg #[.string ref, .int .i64 4, .string source, .string input, .string ⟨#[108, 116]⟩, .bool strict, .int .i64 lk, .int .i64 ln, .int .i64 hk, .int .i64 hn, .string text]] w fun e w' => e = .returned (.bool (mayB ⟨ref, 4, source, input, ⟨#[108, 116]⟩, strict, ⟨lk, ln⟩, ⟨hk, hn⟩, text⟩)) ∧ Below w.heap.size w w' := by
  rw [may4a _ _ _ _ _ _ _ _ (by simp)]
  have heL := fun W => eq34 lk ln 0 0 W
  have heH := fun W => eq34 hk hn 0 0 W
  have hzL : Hid (zB ⟨lk, ln⟩ = ((lk == 0) && ((ln == 0) && true))) := rfl
  have hzH : Hid (zB ⟨hk, hn⟩ = ((hk == 0) && ((hn == 0) && true))) := rfl
  have hR := fun W => rref57 ref W (by omega)
  obtain ⟨W1, hW1⟩ : ∃ W1, W1 = (w.alloc (.cells #[.string ref, .int .i64 4, .string source, .string input, .string ⟨#[108, 116]⟩, .bool strict, .int .i64 lk, .int .i64 ln, .int .i64 hk, .int .i64 hn, .string text] 36)).alloc (.cells #[.int .i64 0, .int .i64 0] 34) := ⟨_, rfl⟩
  have hb : Hid (Below w.heap.size w W1) := by rw [hW1]; exact ((Below.refl _ _).alloc (Nat.le_refl _) _).alloc (by simp) _
  have hL : ∀ W, Calls Tryz.prog 59 #[.agg #[.int .i64 lk, .int .i64 ln]] W fun e w' => e = .returned (.bool (bndB ⟨lk, ln⟩)) ∧ Below W.heap.size W w' := fun W => rbound59 ⟨lk, ln⟩ W
  have hH : ∀ W, Calls Tryz.prog 59 #[.agg #[.int .i64 hk, .int .i64 hn]] W fun e w' => e = .returned (.bool (bndB ⟨hk, hn⟩)) ∧ Below W.heap.size W w' := fun W => rbound59 ⟨hk, hn⟩ W
  have hk0 : Hid (∀ W, Below W1.heap.size W1 W → Below W1.heap.size W1 W ∧ (W.cell? ⟨w.heap.size, 2, none⟩ = some (.string source)) ∧ (W.cell? ⟨w.heap.size, 5, none⟩ = some (.bool strict)) ∧ (W.cell? ⟨w.heap.size, 6, none⟩ = some (.int .i64 lk)) ∧ (W.cell? ⟨w.heap.size, 7, none⟩ = some (.int .i64 ln)) ∧ (W.cell? ⟨w.heap.size, 8, none⟩ = some (.int .i64 hk)) ∧ (W.cell? ⟨w.heap.size, 9, none⟩ = some (.int .i64 hn)) ∧ (W.cell? ⟨w.heap.size, 10, none⟩ = some (.string text)) ∧ (W.cell? ⟨w.heap.size + 1, 0, none⟩ = some (.int .i64 0)) ∧ (W.cell? ⟨w.heap.size + 1, 1, none⟩ = some (.int .i64 0))) := fun W h => by
    have hs : W1.heap.size = w.heap.size + 2 := by rw [hW1]; simp
    have q := fun (p : Addr) (hp : p.block < W1.heap.size) => h.cell (p := p) hp
    refine ⟨h, ?_, ?_, ?_, ?_, ?_, ?_, ?_, ?_, ?_⟩ <;> (rw [q _ (by rw [hs]; dsimp only; omega), hW1]; simp)
  have i2 := emp_is source
  have i10 := emp_is text
  rw [← hzL.out] at heL
  rw [← hzH.out] at heH
  clear hzL hzH
  generalize refB ref = RB at *
  generalize zB ⟨hk, hn⟩ = ZH at *
  generalize bndB ⟨lk, ln⟩ = BL at *
  generalize bndB ⟨hk, hn⟩ = BH at *
  generalize hI : (source.toList == []) = I at *
  generalize hTe : (text.toList == []) = Te at *
  rcases Bool.eq_false_or_eq_true RB with rfl | rfl
  · skip
    rcases Bool.eq_false_or_eq_true BL with rfl | rfl
    · skip
      rcases Bool.eq_false_or_eq_true ZH with rfl | rfl
      · skip
        rcases Bool.eq_false_or_eq_true I with rfl | rfl
        · skip
          rcases Bool.eq_false_or_eq_true strict with rfl | rfl
          · skip
            go_enter Tryz.func36, Tryz.ntmps36
            go_upto_region 16 with (first | (go_at_call 57; refine (hR _).mono ?_; rintro e wx ⟨rfl, hwx⟩; subst wx))
            rw [← hW1]
            have hL' := hL W1
            have z6 : W1.cell? ⟨w.heap.size, 6, none⟩ = some (.int .i64 lk) := by rw [hW1]; simp
            have z7 : W1.cell? ⟨w.heap.size, 7, none⟩ = some (.int .i64 ln) := by rw [hW1]; simp
            replace hW1 : Hid _ := hW1
            go_wp2_with (first | (go_at_call 59; refine hL'.mono ?_; clear hL'; rintro e w2 ⟨rfl, hb2⟩; have hb2h : Hid (Below W1.heap.size W1 w2) := hb2; have hH' := hH w2; clear z6 z7; obtain ⟨hbX, d2, d5, d6, d7, d8, d9, d10, y0, y1⟩ := hk0.out w2 hb2; clear hb2 hbX))
            go_ret
            exact ⟨by simp, hb.out.trans (hb2h.out.mono hb.out.size)⟩
          · skip
            rcases Bool.eq_false_or_eq_true Te with rfl | rfl
            · skip
              go_enter Tryz.func36, Tryz.ntmps36
              go_upto_region 16 with (first | (go_at_call 57; refine (hR _).mono ?_; rintro e wx ⟨rfl, hwx⟩; subst wx))
              rw [← hW1]
              have hL' := hL W1
              have z6 : W1.cell? ⟨w.heap.size, 6, none⟩ = some (.int .i64 lk) := by rw [hW1]; simp
              have z7 : W1.cell? ⟨w.heap.size, 7, none⟩ = some (.int .i64 ln) := by rw [hW1]; simp
              replace hW1 : Hid _ := hW1
              go_wp2_with (first | (go_at_call 59; refine hL'.mono ?_; clear hL'; rintro e w2 ⟨rfl, hb2⟩; have hb2h : Hid (Below W1.heap.size W1 w2) := hb2; have hH' := hH w2; clear z6 z7; obtain ⟨hbX, d2, d5, d6, d7, d8, d9, d10, y0, y1⟩ := hk0.out w2 hb2; clear hb2 hbX))
              go_ret
              exact ⟨by simp, hb.out.trans (hb2h.out.mono hb.out.size)⟩
            · skip
              go_enter Tryz.func36, Tryz.ntmps36
              go_upto_region 16 with (first | (go_at_call 57; refine (hR _).mono ?_; rintro e wx ⟨rfl, hwx⟩; subst wx))
              rw [← hW1]
              have hL' := hL W1
              have z6 : W1.cell? ⟨w.heap.size, 6, none⟩ = some (.int .i64 lk) := by rw [hW1]; simp
              have z7 : W1.cell? ⟨w.heap.size, 7, none⟩ = some (.int .i64 ln) := by rw [hW1]; simp
              replace hW1 : Hid _ := hW1
              go_wp2_with (first | (go_at_call 59; refine hL'.mono ?_; clear hL'; rintro e w2 ⟨rfl, hb2⟩; have hb2h : Hid (Below W1.heap.size W1 w2) := hb2; have hH' := hH w2; clear z6 z7; obtain ⟨hbX, d2, d5, d6, d7, d8, d9, d10, y0, y1⟩ := hk0.out w2 hb2; clear hb2 hbX))
              go_ret
              exact ⟨by simp, hb.out.trans (hb2h.out.mono hb.out.size)⟩
        · skip
          go_enter Tryz.func36, Tryz.ntmps36
          go_upto_region 16 with (first | (go_at_call 57; refine (hR _).mono ?_; rintro e wx ⟨rfl, hwx⟩; subst wx))
          rw [← hW1]
          have hL' := hL W1
          have z6 : W1.cell? ⟨w.heap.size, 6, none⟩ = some (.int .i64 lk) := by rw [hW1]; simp
          have z7 : W1.cell? ⟨w.heap.size, 7, none⟩ = some (.int .i64 ln) := by rw [hW1]; simp
          replace hW1 : Hid _ := hW1
          go_wp2_with (first | (go_at_call 59; refine hL'.mono ?_; clear hL'; rintro e w2 ⟨rfl, hb2⟩; have hb2h : Hid (Below W1.heap.size W1 w2) := hb2; have hH' := hH w2; clear z6 z7; obtain ⟨hbX, d2, d5, d6, d7, d8, d9, d10, y0, y1⟩ := hk0.out w2 hb2; clear hb2 hbX))
          go_ret
          exact ⟨by simp, hb.out.trans (hb2h.out.mono hb.out.size)⟩
      · skip
        go_enter Tryz.func36, Tryz.ntmps36
        go_upto_region 16 with (first | (go_at_call 57; refine (hR _).mono ?_; rintro e wx ⟨rfl, hwx⟩; subst wx))
        rw [← hW1]
        have hL' := hL W1
        have z6 : W1.cell? ⟨w.heap.size, 6, none⟩ = some (.int .i64 lk) := by rw [hW1]; simp
        have z7 : W1.cell? ⟨w.heap.size, 7, none⟩ = some (.int .i64 ln) := by rw [hW1]; simp
        replace hW1 : Hid _ := hW1
        go_wp2_with (first | (go_at_call 59; refine hL'.mono ?_; clear hL'; rintro e w2 ⟨rfl, hb2⟩; have hb2h : Hid (Below W1.heap.size W1 w2) := hb2; have hH' := hH w2; clear z6 z7; obtain ⟨hbX, d2, d5, d6, d7, d8, d9, d10, y0, y1⟩ := hk0.out w2 hb2; clear hb2 hbX))
        go_ret
        exact ⟨by simp, hb.out.trans (hb2h.out.mono hb.out.size)⟩
    · skip
      go_enter Tryz.func36, Tryz.ntmps36
      go_upto_region 16 with (first | (go_at_call 57; refine (hR _).mono ?_; rintro e wx ⟨rfl, hwx⟩; subst wx))
      rw [← hW1]
      have hL' := hL W1
      have z6 : W1.cell? ⟨w.heap.size, 6, none⟩ = some (.int .i64 lk) := by rw [hW1]; simp
      have z7 : W1.cell? ⟨w.heap.size, 7, none⟩ = some (.int .i64 ln) := by rw [hW1]; simp
      replace hW1 : Hid _ := hW1
      go_wp2_with (first | (go_at_call 59; refine hL'.mono ?_; clear hL'; rintro e w2 ⟨rfl, hb2⟩; have hb2h : Hid (Below W1.heap.size W1 w2) := hb2; have hH' := hH w2; clear z6 z7; obtain ⟨hbX, d2, d5, d6, d7, d8, d9, d10, y0, y1⟩ := hk0.out w2 hb2; clear hb2 hbX))
      go_ret
      exact ⟨by simp, hb.out.trans (hb2h.out.mono hb.out.size)⟩
  · skip
    go_enter Tryz.func36, Tryz.ntmps36
    go_wp2_with (first | (go_at_call 57; refine (hR _).mono ?_; rintro e wx ⟨rfl, hwx⟩; subst wx))
    rw [← hW1]
    go_ret
    exact ⟨by simp, hb.out⟩
set_option maxRecDepth 100000 in
set_option maxHeartbeats 4000000 in
theorem is4in (ref source input text : ByteArray) (strict : Bool) (lk ln hk hn : Int) (w : World) (hr : ref.size ≤ 1000000) : Calls Tryz.prog 36 #[.agg #[.string ref, .int .i64 4, .string source, .string input, .string ⟨#[105, 110]⟩, .bool strict, .int .i64 lk, .int .i64 ln, .int .i64 hk, .int .i64 hn, .string text]] w fun e w' => e = .returned (.bool (mayB ⟨ref, 4, source, input, ⟨#[105, 110]⟩, strict, ⟨lk, ln⟩, ⟨hk, hn⟩, text⟩)) ∧ Below w.heap.size w w' := by
  rw [may4b _ _ _ _ _ _ _ _ (by simp)]
  have heL := fun W => eq34 lk ln 0 0 W
  have heH := fun W => eq34 hk hn 0 0 W
  have hzL : Hid (zB ⟨lk, ln⟩ = ((lk == 0) && ((ln == 0) && true))) := rfl
  have hzH : Hid (zB ⟨hk, hn⟩ = ((hk == 0) && ((hn == 0) && true))) := rfl
  have hR := fun W => rref57 ref W (by omega)
  obtain ⟨W1, hW1⟩ : ∃ W1, W1 = (w.alloc (.cells #[.string ref, .int .i64 4, .string source, .string input, .string ⟨#[105, 110]⟩, .bool strict, .int .i64 lk, .int .i64 ln, .int .i64 hk, .int .i64 hn, .string text] 36)).alloc (.cells #[.int .i64 0, .int .i64 0] 34) := ⟨_, rfl⟩
  have hb : Hid (Below w.heap.size w W1) := by rw [hW1]; exact ((Below.refl _ _).alloc (Nat.le_refl _) _).alloc (by simp) _
  have hL : ∀ W, Calls Tryz.prog 59 #[.agg #[.int .i64 lk, .int .i64 ln]] W fun e w' => e = .returned (.bool (bndB ⟨lk, ln⟩)) ∧ Below W.heap.size W w' := fun W => rbound59 ⟨lk, ln⟩ W
  have hH : ∀ W, Calls Tryz.prog 59 #[.agg #[.int .i64 hk, .int .i64 hn]] W fun e w' => e = .returned (.bool (bndB ⟨hk, hn⟩)) ∧ Below W.heap.size W w' := fun W => rbound59 ⟨hk, hn⟩ W
  have hk0 : Hid (∀ W, Below W1.heap.size W1 W → Below W1.heap.size W1 W ∧ (W.cell? ⟨w.heap.size, 2, none⟩ = some (.string source)) ∧ (W.cell? ⟨w.heap.size, 5, none⟩ = some (.bool strict)) ∧ (W.cell? ⟨w.heap.size, 6, none⟩ = some (.int .i64 lk)) ∧ (W.cell? ⟨w.heap.size, 7, none⟩ = some (.int .i64 ln)) ∧ (W.cell? ⟨w.heap.size, 8, none⟩ = some (.int .i64 hk)) ∧ (W.cell? ⟨w.heap.size, 9, none⟩ = some (.int .i64 hn)) ∧ (W.cell? ⟨w.heap.size, 10, none⟩ = some (.string text)) ∧ (W.cell? ⟨w.heap.size + 1, 0, none⟩ = some (.int .i64 0)) ∧ (W.cell? ⟨w.heap.size + 1, 1, none⟩ = some (.int .i64 0))) := fun W h => by
    have hs : W1.heap.size = w.heap.size + 2 := by rw [hW1]; simp
    have q := fun (p : Addr) (hp : p.block < W1.heap.size) => h.cell (p := p) hp
    refine ⟨h, ?_, ?_, ?_, ?_, ?_, ?_, ?_, ?_, ?_⟩ <;> (rw [q _ (by rw [hs]; dsimp only; omega), hW1]; simp)
  have i2 := emp_is source
  have i10 := emp_is text
  rw [← hzL.out] at heL
  rw [← hzH.out] at heH
  clear hzL hzH
  generalize refB ref = RB at *
  generalize zB ⟨hk, hn⟩ = ZH at *
  generalize bndB ⟨lk, ln⟩ = BL at *
  generalize bndB ⟨hk, hn⟩ = BH at *
  generalize hI : (source.toList == []) = I at *
  generalize hTe : (text.toList == []) = Te at *
  rcases Bool.eq_false_or_eq_true RB with rfl | rfl
  · skip
    rcases Bool.eq_false_or_eq_true BL with rfl | rfl
    · skip
      rcases Bool.eq_false_or_eq_true BH with rfl | rfl
      · skip
        rcases Bool.eq_false_or_eq_true I with rfl | rfl
        · skip
          rcases Bool.eq_false_or_eq_true strict with rfl | rfl
          · skip
            go_enter Tryz.func36, Tryz.ntmps36
            go_upto_region 16 with (first | (go_at_call 57; refine (hR _).mono ?_; rintro e wx ⟨rfl, hwx⟩; subst wx))
            rw [← hW1]
            have hL' := hL W1
            have z6 : W1.cell? ⟨w.heap.size, 6, none⟩ = some (.int .i64 lk) := by rw [hW1]; simp
            have z7 : W1.cell? ⟨w.heap.size, 7, none⟩ = some (.int .i64 ln) := by rw [hW1]; simp
            replace hW1 : Hid _ := hW1
            go_wp2_with (first | (go_at_call 59; refine hL'.mono ?_; clear hL'; rintro e w2 ⟨rfl, hb2⟩; have hb2h : Hid (Below W1.heap.size W1 w2) := hb2; have hH' := hH w2; clear z6 z7; obtain ⟨hbX, d2, d5, d6, d7, d8, d9, d10, y0, y1⟩ := hk0.out w2 hb2; clear hb2 hbX) | (go_at_call 59; refine hH'.mono ?_; clear hH'; rintro e w3 ⟨rfl, hb3⟩; have hb3h : Hid (Below W1.heap.size W1 w3) := hb2h.out.trans (hb3.mono hb2h.out.size); clear d2 d5 d6 d7 d8 d9 d10 y0 y1; obtain ⟨hbX, d2, d5, d6, d7, d8, d9, d10, y0, y1⟩ := hk0.out w3 hb3h.out; clear hb3 hbX))
            go_ret
            exact ⟨by simp, hb.out.trans (hb3h.out.mono hb.out.size)⟩
          · skip
            rcases Bool.eq_false_or_eq_true Te with rfl | rfl
            · skip
              go_enter Tryz.func36, Tryz.ntmps36
              go_upto_region 16 with (first | (go_at_call 57; refine (hR _).mono ?_; rintro e wx ⟨rfl, hwx⟩; subst wx))
              rw [← hW1]
              have hL' := hL W1
              have z6 : W1.cell? ⟨w.heap.size, 6, none⟩ = some (.int .i64 lk) := by rw [hW1]; simp
              have z7 : W1.cell? ⟨w.heap.size, 7, none⟩ = some (.int .i64 ln) := by rw [hW1]; simp
              replace hW1 : Hid _ := hW1
              go_wp2_with (first | (go_at_call 59; refine hL'.mono ?_; clear hL'; rintro e w2 ⟨rfl, hb2⟩; have hb2h : Hid (Below W1.heap.size W1 w2) := hb2; have hH' := hH w2; clear z6 z7; obtain ⟨hbX, d2, d5, d6, d7, d8, d9, d10, y0, y1⟩ := hk0.out w2 hb2; clear hb2 hbX) | (go_at_call 59; refine hH'.mono ?_; clear hH'; rintro e w3 ⟨rfl, hb3⟩; have hb3h : Hid (Below W1.heap.size W1 w3) := hb2h.out.trans (hb3.mono hb2h.out.size); clear d2 d5 d6 d7 d8 d9 d10 y0 y1; obtain ⟨hbX, d2, d5, d6, d7, d8, d9, d10, y0, y1⟩ := hk0.out w3 hb3h.out; clear hb3 hbX))
              go_ret
              exact ⟨by simp, hb.out.trans (hb3h.out.mono hb.out.size)⟩
            · skip
              go_enter Tryz.func36, Tryz.ntmps36
              go_upto_region 16 with (first | (go_at_call 57; refine (hR _).mono ?_; rintro e wx ⟨rfl, hwx⟩; subst wx))
              rw [← hW1]
              have hL' := hL W1
              have z6 : W1.cell? ⟨w.heap.size, 6, none⟩ = some (.int .i64 lk) := by rw [hW1]; simp
              have z7 : W1.cell? ⟨w.heap.size, 7, none⟩ = some (.int .i64 ln) := by rw [hW1]; simp
              replace hW1 : Hid _ := hW1
              go_wp2_with (first | (go_at_call 59; refine hL'.mono ?_; clear hL'; rintro e w2 ⟨rfl, hb2⟩; have hb2h : Hid (Below W1.heap.size W1 w2) := hb2; have hH' := hH w2; clear z6 z7; obtain ⟨hbX, d2, d5, d6, d7, d8, d9, d10, y0, y1⟩ := hk0.out w2 hb2; clear hb2 hbX) | (go_at_call 59; refine hH'.mono ?_; clear hH'; rintro e w3 ⟨rfl, hb3⟩; have hb3h : Hid (Below W1.heap.size W1 w3) := hb2h.out.trans (hb3.mono hb2h.out.size); clear d2 d5 d6 d7 d8 d9 d10 y0 y1; obtain ⟨hbX, d2, d5, d6, d7, d8, d9, d10, y0, y1⟩ := hk0.out w3 hb3h.out; clear hb3 hbX))
              go_ret
              exact ⟨by simp, hb.out.trans (hb3h.out.mono hb.out.size)⟩
        · skip
          go_enter Tryz.func36, Tryz.ntmps36
          go_upto_region 16 with (first | (go_at_call 57; refine (hR _).mono ?_; rintro e wx ⟨rfl, hwx⟩; subst wx))
          rw [← hW1]
          have hL' := hL W1
          have z6 : W1.cell? ⟨w.heap.size, 6, none⟩ = some (.int .i64 lk) := by rw [hW1]; simp
          have z7 : W1.cell? ⟨w.heap.size, 7, none⟩ = some (.int .i64 ln) := by rw [hW1]; simp
          replace hW1 : Hid _ := hW1
          go_wp2_with (first | (go_at_call 59; refine hL'.mono ?_; clear hL'; rintro e w2 ⟨rfl, hb2⟩; have hb2h : Hid (Below W1.heap.size W1 w2) := hb2; have hH' := hH w2; clear z6 z7; obtain ⟨hbX, d2, d5, d6, d7, d8, d9, d10, y0, y1⟩ := hk0.out w2 hb2; clear hb2 hbX) | (go_at_call 59; refine hH'.mono ?_; clear hH'; rintro e w3 ⟨rfl, hb3⟩; have hb3h : Hid (Below W1.heap.size W1 w3) := hb2h.out.trans (hb3.mono hb2h.out.size); clear d2 d5 d6 d7 d8 d9 d10 y0 y1; obtain ⟨hbX, d2, d5, d6, d7, d8, d9, d10, y0, y1⟩ := hk0.out w3 hb3h.out; clear hb3 hbX))
          go_ret
          exact ⟨by simp, hb.out.trans (hb3h.out.mono hb.out.size)⟩
      · skip
        go_enter Tryz.func36, Tryz.ntmps36
        go_upto_region 16 with (first | (go_at_call 57; refine (hR _).mono ?_; rintro e wx ⟨rfl, hwx⟩; subst wx))
        rw [← hW1]
        have hL' := hL W1
        have z6 : W1.cell? ⟨w.heap.size, 6, none⟩ = some (.int .i64 lk) := by rw [hW1]; simp
        have z7 : W1.cell? ⟨w.heap.size, 7, none⟩ = some (.int .i64 ln) := by rw [hW1]; simp
        replace hW1 : Hid _ := hW1
        go_wp2_with (first | (go_at_call 59; refine hL'.mono ?_; clear hL'; rintro e w2 ⟨rfl, hb2⟩; have hb2h : Hid (Below W1.heap.size W1 w2) := hb2; have hH' := hH w2; clear z6 z7; obtain ⟨hbX, d2, d5, d6, d7, d8, d9, d10, y0, y1⟩ := hk0.out w2 hb2; clear hb2 hbX) | (go_at_call 59; refine hH'.mono ?_; clear hH'; rintro e w3 ⟨rfl, hb3⟩; have hb3h : Hid (Below W1.heap.size W1 w3) := hb2h.out.trans (hb3.mono hb2h.out.size); clear d2 d5 d6 d7 d8 d9 d10 y0 y1; obtain ⟨hbX, d2, d5, d6, d7, d8, d9, d10, y0, y1⟩ := hk0.out w3 hb3h.out; clear hb3 hbX))
        go_ret
        exact ⟨by simp, hb.out.trans (hb3h.out.mono hb.out.size)⟩
    · skip
      go_enter Tryz.func36, Tryz.ntmps36
      go_upto_region 16 with (first | (go_at_call 57; refine (hR _).mono ?_; rintro e wx ⟨rfl, hwx⟩; subst wx))
      rw [← hW1]
      have hL' := hL W1
      have z6 : W1.cell? ⟨w.heap.size, 6, none⟩ = some (.int .i64 lk) := by rw [hW1]; simp
      have z7 : W1.cell? ⟨w.heap.size, 7, none⟩ = some (.int .i64 ln) := by rw [hW1]; simp
      replace hW1 : Hid _ := hW1
      go_wp2_with (first | (go_at_call 59; refine hL'.mono ?_; clear hL'; rintro e w2 ⟨rfl, hb2⟩; have hb2h : Hid (Below W1.heap.size W1 w2) := hb2; have hH' := hH w2; clear z6 z7; obtain ⟨hbX, d2, d5, d6, d7, d8, d9, d10, y0, y1⟩ := hk0.out w2 hb2; clear hb2 hbX))
      go_ret
      exact ⟨by simp, hb.out.trans (hb2h.out.mono hb.out.size)⟩
  · skip
    go_enter Tryz.func36, Tryz.ntmps36
    go_wp2_with (first | (go_at_call 57; refine (hR _).mono ?_; rintro e wx ⟨rfl, hwx⟩; subst wx))
    rw [← hW1]
    go_ret
    exact ⟨by simp, hb.out⟩
set_option maxRecDepth 100000 in
set_option maxHeartbeats 4000000 in
theorem is4out (ref source input text : ByteArray) (strict : Bool) (lk ln hk hn : Int) (w : World) (hr : ref.size ≤ 1000000) : Calls Tryz.prog 36 #[.agg #[.string ref, .int .i64 4, .string source, .string input, .string ⟨#[111, 117, 116]⟩, .bool strict, .int .i64 lk, .int .i64 ln, .int .i64 hk, .int .i64 hn, .string text]] w fun e w' => e = .returned (.bool (mayB ⟨ref, 4, source, input, ⟨#[111, 117, 116]⟩, strict, ⟨lk, ln⟩, ⟨hk, hn⟩, text⟩)) ∧ Below w.heap.size w w' := by
  rw [may4b _ _ _ _ _ _ _ _ (by simp)]
  have heL := fun W => eq34 lk ln 0 0 W
  have heH := fun W => eq34 hk hn 0 0 W
  have hzL : Hid (zB ⟨lk, ln⟩ = ((lk == 0) && ((ln == 0) && true))) := rfl
  have hzH : Hid (zB ⟨hk, hn⟩ = ((hk == 0) && ((hn == 0) && true))) := rfl
  have hR := fun W => rref57 ref W (by omega)
  obtain ⟨W1, hW1⟩ : ∃ W1, W1 = (w.alloc (.cells #[.string ref, .int .i64 4, .string source, .string input, .string ⟨#[111, 117, 116]⟩, .bool strict, .int .i64 lk, .int .i64 ln, .int .i64 hk, .int .i64 hn, .string text] 36)).alloc (.cells #[.int .i64 0, .int .i64 0] 34) := ⟨_, rfl⟩
  have hb : Hid (Below w.heap.size w W1) := by rw [hW1]; exact ((Below.refl _ _).alloc (Nat.le_refl _) _).alloc (by simp) _
  have hL : ∀ W, Calls Tryz.prog 59 #[.agg #[.int .i64 lk, .int .i64 ln]] W fun e w' => e = .returned (.bool (bndB ⟨lk, ln⟩)) ∧ Below W.heap.size W w' := fun W => rbound59 ⟨lk, ln⟩ W
  have hH : ∀ W, Calls Tryz.prog 59 #[.agg #[.int .i64 hk, .int .i64 hn]] W fun e w' => e = .returned (.bool (bndB ⟨hk, hn⟩)) ∧ Below W.heap.size W w' := fun W => rbound59 ⟨hk, hn⟩ W
  have hk0 : Hid (∀ W, Below W1.heap.size W1 W → Below W1.heap.size W1 W ∧ (W.cell? ⟨w.heap.size, 2, none⟩ = some (.string source)) ∧ (W.cell? ⟨w.heap.size, 5, none⟩ = some (.bool strict)) ∧ (W.cell? ⟨w.heap.size, 6, none⟩ = some (.int .i64 lk)) ∧ (W.cell? ⟨w.heap.size, 7, none⟩ = some (.int .i64 ln)) ∧ (W.cell? ⟨w.heap.size, 8, none⟩ = some (.int .i64 hk)) ∧ (W.cell? ⟨w.heap.size, 9, none⟩ = some (.int .i64 hn)) ∧ (W.cell? ⟨w.heap.size, 10, none⟩ = some (.string text)) ∧ (W.cell? ⟨w.heap.size + 1, 0, none⟩ = some (.int .i64 0)) ∧ (W.cell? ⟨w.heap.size + 1, 1, none⟩ = some (.int .i64 0))) := fun W h => by
    have hs : W1.heap.size = w.heap.size + 2 := by rw [hW1]; simp
    have q := fun (p : Addr) (hp : p.block < W1.heap.size) => h.cell (p := p) hp
    refine ⟨h, ?_, ?_, ?_, ?_, ?_, ?_, ?_, ?_, ?_⟩ <;> (rw [q _ (by rw [hs]; dsimp only; omega), hW1]; simp)
  have i2 := emp_is source
  have i10 := emp_is text
  rw [← hzL.out] at heL
  rw [← hzH.out] at heH
  clear hzL hzH
  generalize refB ref = RB at *
  generalize zB ⟨hk, hn⟩ = ZH at *
  generalize bndB ⟨lk, ln⟩ = BL at *
  generalize bndB ⟨hk, hn⟩ = BH at *
  generalize hI : (source.toList == []) = I at *
  generalize hTe : (text.toList == []) = Te at *
  rcases Bool.eq_false_or_eq_true RB with rfl | rfl
  · skip
    rcases Bool.eq_false_or_eq_true BL with rfl | rfl
    · skip
      rcases Bool.eq_false_or_eq_true BH with rfl | rfl
      · skip
        rcases Bool.eq_false_or_eq_true I with rfl | rfl
        · skip
          rcases Bool.eq_false_or_eq_true strict with rfl | rfl
          · skip
            go_enter Tryz.func36, Tryz.ntmps36
            go_upto_region 16 with (first | (go_at_call 57; refine (hR _).mono ?_; rintro e wx ⟨rfl, hwx⟩; subst wx))
            rw [← hW1]
            have hL' := hL W1
            have z6 : W1.cell? ⟨w.heap.size, 6, none⟩ = some (.int .i64 lk) := by rw [hW1]; simp
            have z7 : W1.cell? ⟨w.heap.size, 7, none⟩ = some (.int .i64 ln) := by rw [hW1]; simp
            replace hW1 : Hid _ := hW1
            go_wp2_with (first | (go_at_call 59; refine hL'.mono ?_; clear hL'; rintro e w2 ⟨rfl, hb2⟩; have hb2h : Hid (Below W1.heap.size W1 w2) := hb2; have hH' := hH w2; clear z6 z7; obtain ⟨hbX, d2, d5, d6, d7, d8, d9, d10, y0, y1⟩ := hk0.out w2 hb2; clear hb2 hbX) | (go_at_call 59; refine hH'.mono ?_; clear hH'; rintro e w3 ⟨rfl, hb3⟩; have hb3h : Hid (Below W1.heap.size W1 w3) := hb2h.out.trans (hb3.mono hb2h.out.size); clear d2 d5 d6 d7 d8 d9 d10 y0 y1; obtain ⟨hbX, d2, d5, d6, d7, d8, d9, d10, y0, y1⟩ := hk0.out w3 hb3h.out; clear hb3 hbX))
            go_ret
            exact ⟨by simp, hb.out.trans (hb3h.out.mono hb.out.size)⟩
          · skip
            rcases Bool.eq_false_or_eq_true Te with rfl | rfl
            · skip
              go_enter Tryz.func36, Tryz.ntmps36
              go_upto_region 16 with (first | (go_at_call 57; refine (hR _).mono ?_; rintro e wx ⟨rfl, hwx⟩; subst wx))
              rw [← hW1]
              have hL' := hL W1
              have z6 : W1.cell? ⟨w.heap.size, 6, none⟩ = some (.int .i64 lk) := by rw [hW1]; simp
              have z7 : W1.cell? ⟨w.heap.size, 7, none⟩ = some (.int .i64 ln) := by rw [hW1]; simp
              replace hW1 : Hid _ := hW1
              go_wp2_with (first | (go_at_call 59; refine hL'.mono ?_; clear hL'; rintro e w2 ⟨rfl, hb2⟩; have hb2h : Hid (Below W1.heap.size W1 w2) := hb2; have hH' := hH w2; clear z6 z7; obtain ⟨hbX, d2, d5, d6, d7, d8, d9, d10, y0, y1⟩ := hk0.out w2 hb2; clear hb2 hbX) | (go_at_call 59; refine hH'.mono ?_; clear hH'; rintro e w3 ⟨rfl, hb3⟩; have hb3h : Hid (Below W1.heap.size W1 w3) := hb2h.out.trans (hb3.mono hb2h.out.size); clear d2 d5 d6 d7 d8 d9 d10 y0 y1; obtain ⟨hbX, d2, d5, d6, d7, d8, d9, d10, y0, y1⟩ := hk0.out w3 hb3h.out; clear hb3 hbX))
              go_ret
              exact ⟨by simp, hb.out.trans (hb3h.out.mono hb.out.size)⟩
            · skip
              go_enter Tryz.func36, Tryz.ntmps36
              go_upto_region 16 with (first | (go_at_call 57; refine (hR _).mono ?_; rintro e wx ⟨rfl, hwx⟩; subst wx))
              rw [← hW1]
              have hL' := hL W1
              have z6 : W1.cell? ⟨w.heap.size, 6, none⟩ = some (.int .i64 lk) := by rw [hW1]; simp
              have z7 : W1.cell? ⟨w.heap.size, 7, none⟩ = some (.int .i64 ln) := by rw [hW1]; simp
              replace hW1 : Hid _ := hW1
              go_wp2_with (first | (go_at_call 59; refine hL'.mono ?_; clear hL'; rintro e w2 ⟨rfl, hb2⟩; have hb2h : Hid (Below W1.heap.size W1 w2) := hb2; have hH' := hH w2; clear z6 z7; obtain ⟨hbX, d2, d5, d6, d7, d8, d9, d10, y0, y1⟩ := hk0.out w2 hb2; clear hb2 hbX) | (go_at_call 59; refine hH'.mono ?_; clear hH'; rintro e w3 ⟨rfl, hb3⟩; have hb3h : Hid (Below W1.heap.size W1 w3) := hb2h.out.trans (hb3.mono hb2h.out.size); clear d2 d5 d6 d7 d8 d9 d10 y0 y1; obtain ⟨hbX, d2, d5, d6, d7, d8, d9, d10, y0, y1⟩ := hk0.out w3 hb3h.out; clear hb3 hbX))
              go_ret
              exact ⟨by simp, hb.out.trans (hb3h.out.mono hb.out.size)⟩
        · skip
          go_enter Tryz.func36, Tryz.ntmps36
          go_upto_region 16 with (first | (go_at_call 57; refine (hR _).mono ?_; rintro e wx ⟨rfl, hwx⟩; subst wx))
          rw [← hW1]
          have hL' := hL W1
          have z6 : W1.cell? ⟨w.heap.size, 6, none⟩ = some (.int .i64 lk) := by rw [hW1]; simp
          have z7 : W1.cell? ⟨w.heap.size, 7, none⟩ = some (.int .i64 ln) := by rw [hW1]; simp
          replace hW1 : Hid _ := hW1
          go_wp2_with (first | (go_at_call 59; refine hL'.mono ?_; clear hL'; rintro e w2 ⟨rfl, hb2⟩; have hb2h : Hid (Below W1.heap.size W1 w2) := hb2; have hH' := hH w2; clear z6 z7; obtain ⟨hbX, d2, d5, d6, d7, d8, d9, d10, y0, y1⟩ := hk0.out w2 hb2; clear hb2 hbX) | (go_at_call 59; refine hH'.mono ?_; clear hH'; rintro e w3 ⟨rfl, hb3⟩; have hb3h : Hid (Below W1.heap.size W1 w3) := hb2h.out.trans (hb3.mono hb2h.out.size); clear d2 d5 d6 d7 d8 d9 d10 y0 y1; obtain ⟨hbX, d2, d5, d6, d7, d8, d9, d10, y0, y1⟩ := hk0.out w3 hb3h.out; clear hb3 hbX))
          go_ret
          exact ⟨by simp, hb.out.trans (hb3h.out.mono hb.out.size)⟩
      · skip
        go_enter Tryz.func36, Tryz.ntmps36
        go_upto_region 16 with (first | (go_at_call 57; refine (hR _).mono ?_; rintro e wx ⟨rfl, hwx⟩; subst wx))
        rw [← hW1]
        have hL' := hL W1
        have z6 : W1.cell? ⟨w.heap.size, 6, none⟩ = some (.int .i64 lk) := by rw [hW1]; simp
        have z7 : W1.cell? ⟨w.heap.size, 7, none⟩ = some (.int .i64 ln) := by rw [hW1]; simp
        replace hW1 : Hid _ := hW1
        go_wp2_with (first | (go_at_call 59; refine hL'.mono ?_; clear hL'; rintro e w2 ⟨rfl, hb2⟩; have hb2h : Hid (Below W1.heap.size W1 w2) := hb2; have hH' := hH w2; clear z6 z7; obtain ⟨hbX, d2, d5, d6, d7, d8, d9, d10, y0, y1⟩ := hk0.out w2 hb2; clear hb2 hbX) | (go_at_call 59; refine hH'.mono ?_; clear hH'; rintro e w3 ⟨rfl, hb3⟩; have hb3h : Hid (Below W1.heap.size W1 w3) := hb2h.out.trans (hb3.mono hb2h.out.size); clear d2 d5 d6 d7 d8 d9 d10 y0 y1; obtain ⟨hbX, d2, d5, d6, d7, d8, d9, d10, y0, y1⟩ := hk0.out w3 hb3h.out; clear hb3 hbX))
        go_ret
        exact ⟨by simp, hb.out.trans (hb3h.out.mono hb.out.size)⟩
    · skip
      go_enter Tryz.func36, Tryz.ntmps36
      go_upto_region 16 with (first | (go_at_call 57; refine (hR _).mono ?_; rintro e wx ⟨rfl, hwx⟩; subst wx))
      rw [← hW1]
      have hL' := hL W1
      have z6 : W1.cell? ⟨w.heap.size, 6, none⟩ = some (.int .i64 lk) := by rw [hW1]; simp
      have z7 : W1.cell? ⟨w.heap.size, 7, none⟩ = some (.int .i64 ln) := by rw [hW1]; simp
      replace hW1 : Hid _ := hW1
      go_wp2_with (first | (go_at_call 59; refine hL'.mono ?_; clear hL'; rintro e w2 ⟨rfl, hb2⟩; have hb2h : Hid (Below W1.heap.size W1 w2) := hb2; have hH' := hH w2; clear z6 z7; obtain ⟨hbX, d2, d5, d6, d7, d8, d9, d10, y0, y1⟩ := hk0.out w2 hb2; clear hb2 hbX))
      go_ret
      exact ⟨by simp, hb.out.trans (hb2h.out.mono hb.out.size)⟩
  · skip
    go_enter Tryz.func36, Tryz.ntmps36
    go_wp2_with (first | (go_at_call 57; refine (hR _).mono ?_; rintro e wx ⟨rfl, hwx⟩; subst wx))
    rw [← hW1]
    go_ret
    exact ⟨by simp, hb.out⟩
set_option maxRecDepth 100000 in
set_option maxHeartbeats 4000000 in
theorem is4no (ref source input how text : ByteArray) (strict : Bool) (lk ln hk hn : Int) (w : World) (hr : ref.size ≤ 1000000) (h1 : (how.toList == [103, 116]) = false) (h2 : (how.toList == [108, 116]) = false) (h3 : (how.toList == [105, 110]) = false) (h4 : (how.toList == [111, 117, 116]) = false) : Calls Tryz.prog 36 #[.agg #[.string ref, .int .i64 4, .string source, .string input, .string how, .bool strict, .int .i64 lk, .int .i64 ln, .int .i64 hk, .int .i64 hn, .string text]] w fun e w' => e = .returned (.bool (mayB ⟨ref, 4, source, input, how, strict, ⟨lk, ln⟩, ⟨hk, hn⟩, text⟩)) ∧ Below w.heap.size w w' := by
  rw [may4c _ _ _ _ _ _ _ _ h1 h2 h3 h4]
  have heL := fun W => eq34 lk ln 0 0 W
  have heH := fun W => eq34 hk hn 0 0 W
  have hzL : Hid (zB ⟨lk, ln⟩ = ((lk == 0) && ((ln == 0) && true))) := rfl
  have hzH : Hid (zB ⟨hk, hn⟩ = ((hk == 0) && ((hn == 0) && true))) := rfl
  have hR := fun W => rref57 ref W (by omega)
  obtain ⟨W1, hW1⟩ : ∃ W1, W1 = (w.alloc (.cells #[.string ref, .int .i64 4, .string source, .string input, .string how, .bool strict, .int .i64 lk, .int .i64 ln, .int .i64 hk, .int .i64 hn, .string text] 36)).alloc (.cells #[.int .i64 0, .int .i64 0] 34) := ⟨_, rfl⟩
  have hb : Hid (Below w.heap.size w W1) := by rw [hW1]; exact ((Below.refl _ _).alloc (Nat.le_refl _) _).alloc (by simp) _
  have hL : ∀ W, Calls Tryz.prog 59 #[.agg #[.int .i64 lk, .int .i64 ln]] W fun e w' => e = .returned (.bool (bndB ⟨lk, ln⟩)) ∧ Below W.heap.size W w' := fun W => rbound59 ⟨lk, ln⟩ W
  have hH : ∀ W, Calls Tryz.prog 59 #[.agg #[.int .i64 hk, .int .i64 hn]] W fun e w' => e = .returned (.bool (bndB ⟨hk, hn⟩)) ∧ Below W.heap.size W w' := fun W => rbound59 ⟨hk, hn⟩ W
  have hk0 : Hid (∀ W, Below W1.heap.size W1 W → Below W1.heap.size W1 W ∧ (W.cell? ⟨w.heap.size, 2, none⟩ = some (.string source)) ∧ (W.cell? ⟨w.heap.size, 5, none⟩ = some (.bool strict)) ∧ (W.cell? ⟨w.heap.size, 6, none⟩ = some (.int .i64 lk)) ∧ (W.cell? ⟨w.heap.size, 7, none⟩ = some (.int .i64 ln)) ∧ (W.cell? ⟨w.heap.size, 8, none⟩ = some (.int .i64 hk)) ∧ (W.cell? ⟨w.heap.size, 9, none⟩ = some (.int .i64 hn)) ∧ (W.cell? ⟨w.heap.size, 10, none⟩ = some (.string text)) ∧ (W.cell? ⟨w.heap.size, 4, none⟩ = some (.string how)) ∧ (W.cell? ⟨w.heap.size + 1, 0, none⟩ = some (.int .i64 0)) ∧ (W.cell? ⟨w.heap.size + 1, 1, none⟩ = some (.int .i64 0))) := fun W h => by
    have hs : W1.heap.size = w.heap.size + 2 := by rw [hW1]; simp
    have q := fun (p : Addr) (hp : p.block < W1.heap.size) => h.cell (p := p) hp
    refine ⟨h, ?_, ?_, ?_, ?_, ?_, ?_, ?_, ?_, ?_, ?_⟩ <;> (rw [q _ (by rw [hs]; dsimp only; omega), hW1]; simp)
  have i2 := emp_is source
  have i10 := emp_is text
  rw [← hzL.out] at heL
  rw [← hzH.out] at heH
  clear hzL hzH
  generalize refB ref = RB at *
  generalize zB ⟨hk, hn⟩ = ZH at *
  generalize bndB ⟨lk, ln⟩ = BL at *
  generalize bndB ⟨hk, hn⟩ = BH at *
  generalize hI : (source.toList == []) = I at *
  generalize hTe : (text.toList == []) = Te at *
  rcases Bool.eq_false_or_eq_true RB with rfl | rfl
  · skip
    rcases Bool.eq_false_or_eq_true BL with rfl | rfl
    · skip
      go_enter Tryz.func36, Tryz.ntmps36
      go_upto_region 16 with (first | (go_at_call 57; refine (hR _).mono ?_; rintro e wx ⟨rfl, hwx⟩; subst wx))
      rw [← hW1]
      have hL' := hL W1
      have z6 : W1.cell? ⟨w.heap.size, 6, none⟩ = some (.int .i64 lk) := by rw [hW1]; simp
      have z7 : W1.cell? ⟨w.heap.size, 7, none⟩ = some (.int .i64 ln) := by rw [hW1]; simp
      replace hW1 : Hid _ := hW1
      go_wp2_with (first | (go_at_call 59; refine hL'.mono ?_; clear hL'; rintro e w2 ⟨rfl, hb2⟩; have hb2h : Hid (Below W1.heap.size W1 w2) := hb2; have hH' := hH w2; clear z6 z7; obtain ⟨hbX, d2, d5, d6, d7, d8, d9, d10, d4, y0, y1⟩ := hk0.out w2 hb2; clear hb2 hbX))
      go_ret
      exact ⟨by simp, hb.out.trans (hb2h.out.mono hb.out.size)⟩
    · skip
      go_enter Tryz.func36, Tryz.ntmps36
      go_upto_region 16 with (first | (go_at_call 57; refine (hR _).mono ?_; rintro e wx ⟨rfl, hwx⟩; subst wx))
      rw [← hW1]
      have hL' := hL W1
      have z6 : W1.cell? ⟨w.heap.size, 6, none⟩ = some (.int .i64 lk) := by rw [hW1]; simp
      have z7 : W1.cell? ⟨w.heap.size, 7, none⟩ = some (.int .i64 ln) := by rw [hW1]; simp
      replace hW1 : Hid _ := hW1
      go_wp2_with (first | (go_at_call 59; refine hL'.mono ?_; clear hL'; rintro e w2 ⟨rfl, hb2⟩; have hb2h : Hid (Below W1.heap.size W1 w2) := hb2; have hH' := hH w2; clear z6 z7; obtain ⟨hbX, d2, d5, d6, d7, d8, d9, d10, d4, y0, y1⟩ := hk0.out w2 hb2; clear hb2 hbX))
      go_ret
      exact ⟨by simp, hb.out.trans (hb2h.out.mono hb.out.size)⟩
  · skip
    go_enter Tryz.func36, Tryz.ntmps36
    go_wp2_with (first | (go_at_call 57; refine (hR _).mono ?_; rintro e wx ⟨rfl, hwx⟩; subst wx))
    rw [← hW1]
    go_ret
    exact ⟨by simp, hb.out⟩
set_option maxRecDepth 100000 in
set_option maxHeartbeats 4000000 in
theorem is0 (ref source input how text : ByteArray) (strict : Bool) (kind lk ln hk hn : Int) (w : World) (hr : ref.size ≤ 1000000) (h1 : ¬ kind = 1) (h2 : ¬ kind = 2) (h3 : ¬ kind = 3) (h4 : ¬ kind = 4) : Calls Tryz.prog 36 #[.agg #[.string ref, .int .i64 kind, .string source, .string input, .string how, .bool strict, .int .i64 lk, .int .i64 ln, .int .i64 hk, .int .i64 hn, .string text]] w fun e w' => e = .returned (.bool false) ∧ Below w.heap.size w w' := by
  have hR := fun W => rref57 ref W (by omega)
  obtain ⟨W1, hW1⟩ : ∃ W1, W1 = (w.alloc (.cells #[.string ref, .int .i64 kind, .string source, .string input, .string how, .bool strict, .int .i64 lk, .int .i64 ln, .int .i64 hk, .int .i64 hn, .string text] 36)).alloc (.cells #[.int .i64 0, .int .i64 0] 34) := ⟨_, rfl⟩
  have hb : Hid (Below w.heap.size w W1) := by rw [hW1]; exact ((Below.refl _ _).alloc (Nat.le_refl _) _).alloc (by simp) _
  generalize refB ref = RB at *
  cases RB
  all_goals
    go_enter Tryz.func36, Tryz.ntmps36
    go_wp2_with (first | (go_at_call 57; refine (hR _).mono ?_; rintro e wx ⟨rfl, hwx⟩; subst wx))
    rw [← hW1]
    go_ret
    exact ⟨rfl, hb.out⟩
/-- The document's Is of every node. -/
theorem tis (x : Nd) (hr : x.ref.size ≤ 1000000) (hs : x.source.size ≤ 1000000) (ht : TPar x.text) : TIs x := fun w hG hS => by
  obtain ⟨ref, kind, source, input, how, strict, ⟨lk, ln⟩, ⟨hk, hn⟩, text⟩ := x
  by_cases h1 : kind = 1
  · subst h1; exact is1 _ _ _ _ _ _ _ _ _ _ w hr hs
  by_cases h2 : kind = 2
  · subst h2; exact is2 _ _ _ _ _ _ _ _ _ _ w hr
  by_cases h3 : kind = 3
  · subst h3; exact is3 _ _ _ _ _ _ _ _ _ _ w hG hS hr ht
  by_cases h4 : kind = 4
  · subst h4
    cases k1 : (how.toList == [103, 116])
    · cases k2 : (how.toList == [108, 116])
      · cases k3 : (how.toList == [105, 110])
        · cases k4 : (how.toList == [111, 117, 116])
          · exact is4no _ _ _ _ _ _ _ _ _ _ w hr k1 k2 k3 k4
          · rw [lit_eq2 k4]; exact is4out _ _ _ _ _ _ _ _ _ w hr
        · rw [lit_eq2 k3]; exact is4in _ _ _ _ _ _ _ _ _ w hr
      · rw [lit_eq2 k2]; exact is4lt _ _ _ _ _ _ _ _ _ w hr
    · rw [lit_eq2 k1]; exact is4gt _ _ _ _ _ _ _ _ _ w hr
  · rw [mayNo _ h1 h2 h3 h4]
    exact is0 _ _ _ _ _ _ _ _ _ _ _ w hr h1 h2 h3 h4
end Go.Proofs.YtaffplmfnincfaaGreatDoor
