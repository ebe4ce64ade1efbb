/- Vp; Vq; Vw. -/
import Derived.Test.YtaffplmfnincfaaGreatDoorVo
/- Values: lists of values; the contract of Check. -/
namespace Go.Proofs.YtaffplmfnincfaaGreatDoor
set_option linter.unusedVariables false
open Go.RowKit Go.MapKept
/-- A value in memory, from place o of block b on. -/
def VAt (w : World) (b o : Nat) (v : Vl) : Prop := w.cell? ⟨b, o, none⟩ = some (.int .i64 v.kind) ∧ w.cell? ⟨b, o + 1, none⟩ = some (.int .i64 v.n)
/-- A slice value whose elements are the values l. -/
def Vls (w : World) (v : Value) (l : List Vl) : Prop := ∃ a c, v = .slice a l.length c ∧ (l = [] ∨ ∃ b o, a = some ⟨b, o, none⟩ ∧ ∀ t, t < l.length → VAt w b (o + t * 2) (l.getD t zer))
theorem VAt.keep {w w' : World} {b o : Nat} {v : Vl} (h : VAt w b o v) (hb : CellsKept w w') : VAt w' b o v := ⟨hb.cell h.1, hb.cell h.2⟩
theorem Vls.keep {w w' : World} {v : Value} {l : List Vl} (h : Vls w v l) (hb : CellsKept w w') : Vls w' v l := by
  obtain ⟨a, c, rfl, h⟩ := h
  refine ⟨a, c, rfl, ?_⟩
  rcases h with h | ⟨b, o, rfl, h⟩
  · exact .inl h
  · exact .inr ⟨b, o, rfl, fun t ht => (h t ht).keep hb⟩
theorem Vls.grow {w w' : World} {v : Value} {l : List Vl} (h : Vls w v l) (hb : Below w.heap.size w w') : Vls w' v l := h.keep (.of_below hb)
theorem Vls.shape {w : World} {v : Value} {l : List Vl} (h : Vls w v l) : ∃ a c, v = .slice a l.length c := by
  obtain ⟨a, c, h, _⟩ := h
  exact ⟨a, c, h⟩
theorem take_getD (l : List Vl) (k : Nat) (h : k < l.length) : l.take (k + 1) = l.take k ++ [l.getD k zer] := by
  rw [List.take_succ_eq_append_getElem h]; simp [h]
theorem getD_mem (l : List Vl) (k : Nat) (h : k < l.length) : l.getD k zer ∈ l := by simp [h]
set_option maxRecDepth 100000 in
set_option maxHeartbeats 2000000 in
theorem check_any (v : Value) (l : List Vl) (w : World) (hv : Vls w v l) (hl : l.length ≤ 1000000000) : Calls Tryz.prog 142 #[v] w fun e w' => e = .returned (.int .i64 (chkE l)) ∧ Below w.heap.size w w' := by
  have hgl : Hid (∀ W, Below w.heap.size w W → Vls W v l) := fun W h => hv.grow h
  obtain ⟨a, c, hva⟩ := hv.shape
  subst hva
  obtain ⟨n, hn⟩ : ∃ n, Hid (n = l.length) := ⟨_, rfl⟩
  rw [← hn.out] at hl hgl ⊢
  obtain ⟨R, hR⟩ : ∃ R, Hid (R = chkE l) := ⟨_, rfl⟩
  rw [← hR.out]
  clear hv
  go_enter Tryz.func142, Tryz.ntmps142
  go_wp2
  go_loopw [7] (fun i wr => ∃ k : Nat, k ≤ n ∧ i = .int .i64 k ∧ Hid (∀ u ∈ l.take k, IsV u) ∧ Below w.heap.size w wr) (fun i _ => n - (intOf i).toNat)
  case atStart => exact ⟨0, Nat.zero_le _, rfl, (fun u hu => by simp at hu), Below.refl _ _⟩
  case round =>
    obtain ⟨k, hk, rfl, hrk, hb⟩ := hrel
    have hz := hb.size
    by_cases hlt : k < n
    · have hki : (k : Int) < (n : Int) := by omega
      have hltl : k < l.length := by rw [← hn.out]; exact hlt
      obtain ⟨a', c', e, hcs⟩ := hgl.out wr hb
      have ea : a = a' ∧ n = l.length ∧ c = c' := by simpa using e
      obtain ⟨rfl, -, rfl⟩ := ea
      rcases hcs with hcs | ⟨b, o, rfl, hcs⟩
      · rw [hcs] at hltl; simp at hltl
      obtain ⟨x0, x1⟩ := hcs k hltl
      clear hcs e
      have hu := fun W => isValue_b (l.getD k zer) W
      have htk : Hid (l.take (k + 1) = l.take k ++ [l.getD k zer]) := take_getD l k hltl
      have hmem : Hid (l.getD k zer ∈ l) := getD_mem l k hltl
      generalize l.getD k zer = u at *
      clear hgl
      cases hi : isB u
      · have hR2 : Hid (R = 80) := by
          have : ¬ ∀ v ∈ l, IsV v := fun h => by
            have := isB_of (h u hmem.out)
            rw [hi] at this; cases this
          have h2 := hR.out
          rw [chkE, if_neg this] at h2
          exact h2
        rw [hi] at hu
        unfold vlV at hu
        go_wp2_with (go_at_call 160; refine (hu _).mono ?_; rintro e w2 ⟨rfl, hb2⟩)
        have hb3 : Below w.heap.size w w2 := (hb.alloc (by omega) _).trans (hb2.mono (by simp; omega))
        go_ret
        exact ⟨by rw [hR2.out]; rfl, hb3⟩
      · rw [hi] at hu
        have hvu : IsV u := of_decide_eq_true hi
        have hnew : Hid (∀ y ∈ l.take (k + 1), IsV y) := by
          rw [htk.out]
          intro y hy
          rcases List.mem_append.1 hy with h | h
          · exact hrk.out y h
          · rw [List.mem_singleton.1 h]; exact hvu
        clear hvu
        unfold vlV at hu
        go_wp2_with (go_at_call 160; refine (hu _).mono ?_; rintro e w2 ⟨rfl, hb2⟩)
        have hb3 : Below w.heap.size w w2 := (hb.alloc (by omega) _).trans (hb2.mono (by simp; omega))
        go_roundw
        case rel => exact ⟨k + 1, by omega, by go_num, hnew, hb3⟩
        case measure => simp [intOf]; omega
    · obtain rfl : k = n := by omega
      have hki : ¬ (k : Int) < (k : Int) := by omega
      have hR2 : Hid (R = 0) := by
        have h3 := hrk.out
        rw [List.take_of_length_le (by rw [← hn.out]; omega)] at h3
        have h2 := hR.out
        rw [chkE, if_pos h3] at h2
        exact h2
      clear hgl
      go_wp2
      go_ret
      exact ⟨by rw [hR2.out]; rfl, hb⟩
end Go.Proofs.YtaffplmfnincfaaGreatDoor
/- Values: the contract of Do. -/
namespace Go.Proofs.YtaffplmfnincfaaGreatDoor
set_option linter.unusedVariables false
open Go.RowKit Go.MapKept
attribute [local go_sem ↓] Go.wp_at_zero Go.wp_at_succ
end Go.Proofs.YtaffplmfnincfaaGreatDoor
/- The contracts of the document's Num, Null, NaN, Plus, Minus, Truth, Is; of num; live. -/
namespace Go.Proofs.YtaffplmfnincfaaGreatDoor
set_option linter.unusedVariables false
open Go.RowKit
attribute [local go_sem ↓] Go.wp_at_zero Go.wp_at_succ
set_option maxRecDepth 100000 in
theorem rnull_b (w : World) : Calls Tryz.prog 82 #[] w fun e w' => e = .returned (vlV nul) ∧ Below w.heap.size w w' := by
  go_enter Tryz.func82, Tryz.ntmps82
  go_wp2
  exact ret_cell Tryz.results82 rfl (vlNew w nul) ⟨rfl, bW0 w _⟩
set_option maxRecDepth 100000 in
theorem rnan_b (w : World) : Calls Tryz.prog 83 #[] w fun e w' => e = .returned (vlV nan) ∧ Below w.heap.size w w' := by
  go_enter Tryz.func83, Tryz.ntmps83
  go_wp2
  exact ret_cell Tryz.results83 rfl (vlNew w nan) ⟨rfl, bW0 w _⟩
set_option maxRecDepth 100000 in
theorem rplus_b (w : World) : Calls Tryz.prog 40 #[] w fun e w' => e = .returned (vlV pls) ∧ Below w.heap.size w w' := by
  go_enter Tryz.func40, Tryz.ntmps40
  go_wp2
  exact ret_cell Tryz.results40 rfl (vlNew w pls) ⟨rfl, bW0 w _⟩
set_option maxRecDepth 100000 in
theorem rminus_b (w : World) : Calls Tryz.prog 41 #[] w fun e w' => e = .returned (vlV mns) ∧ Below w.heap.size w w' := by
  go_enter Tryz.func41, Tryz.ntmps41
  go_wp2
  exact ret_cell Tryz.results41 rfl (vlNew w mns) ⟨rfl, bW0 w _⟩
set_option maxRecDepth 100000 in
theorem rnum_any (n : Int) (w : World) : Calls Tryz.prog 20 #[.int .i64 n] w fun e w' => e = .returned (vlV (num n)) ∧ Below w.heap.size w w' := by
  have hr := vlNew w zer
  have hB : Below (w.alloc (vlO zer)).heap.size (w.alloc (vlO zer)) (w.alloc (vlO zer)) := Below.refl _ _
  have hp := fun W => rplus_b W
  have hm := fun W => rminus_b W
  unfold vlV at hp hm
  by_cases h1 : 1000000000000000 < n
  · have e : num n = pls := by rw [num, if_pos h1]
    rw [e]; clear e
    go_enter Tryz.func20, Tryz.ntmps20
    go_wp2_with (first | (go_at_call 40; with_reducible refine (hp _).mono ?_; rintro e w2 ⟨rfl, hb2⟩; replace hB := hB.trans (hb2.mono hB.size); obtain ⟨r0, r1⟩ := (hr.grow hB).cells; obtain ⟨rf0, rf1⟩ := (hr.grow hB).frozen))
    exact end_set (v := pls) Tryz.results20 rfl (Nat.le_refl _) (bW0 w _) hB hr
  · by_cases h2 : n < -1000000000000000
    · have e : num n = mns := by rw [num, if_neg h1, if_pos h2]
      rw [e]; clear e
      go_enter Tryz.func20, Tryz.ntmps20
      go_wp2_with (first | (go_at_call 41; with_reducible refine (hm _).mono ?_; rintro e w2 ⟨rfl, hb2⟩; replace hB := hB.trans (hb2.mono hB.size); obtain ⟨r0, r1⟩ := (hr.grow hB).cells; obtain ⟨rf0, rf1⟩ := (hr.grow hB).frozen))
      exact end_set (v := mns) Tryz.results20 rfl (Nat.le_refl _) (bW0 w _) hB hr
    · have e : num n = ⟨1, n⟩ := by rw [num, if_neg h1, if_neg h2]
      rw [e]; clear e
      go_enter Tryz.func20, Tryz.ntmps20
      go_wp2
      exact ret_cell Tryz.results20 rfl (vlNew w ⟨1, n⟩) ⟨rfl, bW0 w _⟩
set_option maxRecDepth 100000 in
theorem ris_any (v : Vl) (w : World) : Calls Tryz.prog 80 #[vlV v] w fun e w' => e = .returned (.bool (isB v)) ∧ Below w.heap.size w w' := by
  obtain ⟨k, n⟩ := v
  unfold vlV
  obtain ⟨R, hR⟩ : ∃ R, Hid (R = isB ⟨k, n⟩) := ⟨_, rfl⟩
  rw [← hR.out]
  have hR2 : Hid (R = decide ((k = 1 ∧ -1000000000000000 ≤ n ∧ n ≤ 1000000000000000) ∨ (2 ≤ k ∧ k ≤ 5 ∧ n = 0))) := hR.out
  clear hR
  go_enter Tryz.func80, Tryz.ntmps80
  go_wp2
  all_goals
    go_ret
    refine ⟨?_, bW0 w _⟩
    rw [hR2.out]
    refine ret_bool ?_
    clear hR2
    rw [Bool.eq_iff_iff]
    simp_all
    try omega
end Go.Proofs.YtaffplmfnincfaaGreatDoor
