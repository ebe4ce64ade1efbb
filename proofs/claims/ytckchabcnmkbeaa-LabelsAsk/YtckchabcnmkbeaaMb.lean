/- Match, Check. -/
import Derived.Test.YtckchabcnmkbeaaMa
namespace Go.Proofs.Ytckchabcnmkbeaa
set_option linter.unusedVariables false
open Go.RowKit
/-- Match. -/
def matchB (l : List Lb) (ms : List Mt) : Bool := ms.all fun m => holdsB m.op m.value (getL l m.name)
theorem getL_reach {l : List Lb} (h : LbsR l) (n : ByteArray) : (getL l n).size ≤ reachBytes := by
  unfold getL
  cases e : l.find? (fun b => decide (b.name = n)) with
  | none => exact Nat.zero_le _
  | some b => exact (h b (List.mem_of_find?_eq_some e)).2
theorem matchB_no {l : List Lb} {ms : List Mt} {k : Nat} (hk : k < ms.length) (h : holdsB (ms.getD k mt0).op (ms.getD k mt0).value (getL l (ms.getD k mt0).name) = false) : matchB l ms = false := by
  cases e : matchB l ms with
  | false => rfl
  | true =>
    have := List.all_eq_true.1 e _ (getD_mem ms mt0 k hk)
    rw [h] at this; cases this
theorem matchB_take {l : List Lb} {ms : List Mt} {k : Nat} (hk : k < ms.length) (h : matchB l (ms.take k) = true) (h2 : holdsB (ms.getD k mt0).op (ms.getD k mt0).value (getL l (ms.getD k mt0).name) = true) : matchB l (ms.take (k + 1)) = true := by
  rw [take_getD ms mt0 k hk]
  unfold matchB at *
  rw [List.all_append, h, List.all_cons, h2]
  rfl
set_option maxRecDepth 100000 in
set_option maxHeartbeats 2000000 in
/-- labels.Match. -/
theorem match_any (v u : Value) (l : List Lb) (ms : List Mt) (w : World) (hv : Lbs w v l) (hu : Mts w u ms) (hl : l.length ≤ 1000000) (hm : ms.length ≤ 1000000) (rl : LbsR l) (rm : MtsR ms) :
    Calls Try.prog 33 #[v, u] w fun e w' => e = .returned (.bool (matchB l ms)) ∧ Below w.heap.size w w' := by
  obtain ⟨a, c, rfl⟩ := hv.shape
  obtain ⟨a2, c2, rfl⟩ := hu.shape
  replace hv : Hid (Lbs w (.slice a l.length c) l) := hv
  replace hu : Hid (Mts w (.slice a2 ms.length c2) ms) := hu
  replace rl : Hid (LbsR l) := rl
  replace rm : Hid (MtsR ms) := rm
  go_enter Try.func33, Try.ntmps33
  go_wp2
  go_loopw [9] (fun i wr => ∃ k : Nat, k ≤ ms.length ∧ i = .int .i64 k ∧ Hid (matchB l (ms.take k) = true) ∧ Below w.heap.size w wr) (fun i _ => ms.length - (intOf i).toNat)
  case atStart => exact ⟨0, Nat.zero_le _, rfl, rfl, Below.refl _ _⟩
  case round =>
    obtain ⟨k, hk, rfl, hto, hB⟩ := hrel
    have hbz := hB.size
    by_cases hlt : k < ms.length
    · have hki : (k : Int) < (ms.length : Int) := by omega
      obtain ⟨b, o, rfl, x0, x1, x2⟩ := mt_at (Sls.grow hu.out hB) k hlt
      have hG : ∀ W, Below wr.heap.size wr W → Calls Try.prog 21 #[.slice a l.length c, .string (ms.getD k mt0).name] W fun e w' => e = .returned (.string (getL l (ms.getD k mt0).name)) ∧ Below W.heap.size W w' := fun W hW => get_any _ l _ W (Sls.grow hv.out (hB.trans (hW.mono hbz))) hl
      have hH := fun W => calls_alloc (holds_any (ms.getD k mt0) (getL l (ms.getD k mt0).name) W (rm.out _ (getD_mem ms mt0 k hlt)) (getL_reach rl.out _))
      have hyes : Hid (holdsB (ms.getD k mt0).op (ms.getD k mt0).value (getL l (ms.getD k mt0).name) = true → matchB l (ms.take (k + 1)) = true) := fun h => matchB_take hlt hto.out h
      have hnot : Hid (holdsB (ms.getD k mt0).op (ms.getD k mt0).value (getL l (ms.getD k mt0).name) = false → matchB l ms = false) := fun h => matchB_no hlt h
      generalize ms.getD k mt0 = x at *
      obtain ⟨n, op, val⟩ := x
      unfold mtV at hH
      simp only at x0 x1 x2 hG hH hyes hnot
      generalize getL l n = g at *
      have hbox : Below wr.heap.size wr (wr.alloc (.cells #[.string n, .string op, .string val] 46)) := (Below.refl _ _).alloc (Nat.le_refl _) _
      have hBa := hB.trans (hbox.mono hbz)
      have hG2 : ∀ p : Bel (wr.alloc (.cells #[.string n, .string op, .string val] 46)), Calls Try.prog 21 #[.slice a l.length c, .string n] p.W fun e w' => e = .returned (.string g) ∧ Below p.W.heap.size p.W w' := fun p => hG _ (hbox.trans (p.h.mono hbox.size))
      have c0 : ∀ p : Bel (wr.alloc (.cells #[.string n, .string op, .string val] 46)), p.W.cell? ⟨wr.heap.size, 0, none⟩ = some (.string n) := fun p => p.cell (by simp)
      have c1 : ∀ p : Bel (wr.alloc (.cells #[.string n, .string op, .string val] 46)), p.W.cell? ⟨wr.heap.size, 1, none⟩ = some (.string op) := fun p => p.cell (by simp)
      have c2 : ∀ p : Bel (wr.alloc (.cells #[.string n, .string op, .string val] 46)), p.W.cell? ⟨wr.heap.size, 2, none⟩ = some (.string val) := fun p => p.cell (by simp)
      cases hd : holdsB op val g with
      | true =>
        have hst : Hid (matchB l (ms.take (k + 1)) = true) := hyes.out hd
        rw [hd] at hH
        clear hd hyes hnot hG
        go_wp2
        refine wp_region_bel (by kernel_rfl) (by kernel_rfl) ?_
        repeat (go_big_quiet_step ((first | (go_at_call 21; exact Calls.bel (hG2 _)) | (go_at_call 49; exact Calls.bel (hH _)))))
        refine wpQuiet_nil ?_
        rintro _ ⟨⟨wq, hq⟩, rfl⟩
        go_wp2
        refine ⟨⟨k + 1, by omega, by go_num, hst, hBa.trans (hq.mono hBa.size)⟩, ?_⟩
        simp [intOf]; omega
      | false =>
        have hst : Hid (matchB l ms = false) := hnot.out hd
        rw [hd] at hH
        clear hd hyes hnot hG
        go_wp2
        refine wp_region_bel (by kernel_rfl) (by kernel_rfl) ?_
        repeat (go_big_quiet_step ((first | (go_at_call 21; exact Calls.bel (hG2 _)) | (go_at_call 49; exact Calls.bel (hH _)))))
        refine wpQuiet_nil ?_
        rintro _ ⟨⟨wq, hq⟩, rfl⟩
        go_wp2
        go_ret
        exact ⟨by rw [hst.out]; rfl, hBa.trans (hq.mono hBa.size)⟩
    · obtain rfl : k = ms.length := by omega
      have hki : ¬ (ms.length : Int) < (ms.length : Int) := by omega
      have hR : Hid (matchB l ms = true) := by
        have := hto.out
        rw [List.take_of_length_le (Nat.le_refl _)] at this
        exact this
      go_wp2
      go_ret
      exact ⟨by rw [hR.out]; rfl, hB⟩
/-! ### Check -/
open Classical in
noncomputable def okM (m : Mt) : Bool := nameB m.name && (opB m.op && decide (m.value.size ≤ 128))
noncomputable def chkE (ms : List Mt) : Int := if 16 < ms.length then 6 else if ms.all okM then 0 else 90
theorem chkE_in (ms : List Mt) : 0 ≤ chkE ms ∧ chkE ms ≤ 90 := by unfold chkE; split <;> (try split) <;> omega
theorem chkE_no {ms : List Mt} {k : Nat} (h16 : ms.length ≤ 16) (hk : k < ms.length) (h : okM (ms.getD k mt0) = false) : chkE ms = 90 := by
  unfold chkE
  rw [if_neg (by omega), if_neg]
  intro e
  have := List.all_eq_true.1 e _ (getD_mem ms mt0 k hk)
  rw [h] at this; cases this
theorem okM_take {ms : List Mt} {k : Nat} (hk : k < ms.length) (h : (ms.take k).all okM = true) (h2 : okM (ms.getD k mt0) = true) : (ms.take (k + 1)).all okM = true := by
  rw [take_getD ms mt0 k hk, List.all_append, h, List.all_cons, h2]
  rfl
set_option maxRecDepth 100000 in
set_option maxHeartbeats 2000000 in
/-- labels.Check. -/
theorem check_any (u : Value) (ms : List Mt) (w : World) (hu : Mts w u ms) (hm : ms.length ≤ 1000000) (rm : MtsR ms) :
    Calls Try.prog 31 #[u] w fun e w' => e = .returned (.int .i64 (chkE ms)) ∧ Below w.heap.size w w' := by
  obtain ⟨a2, c2, rfl⟩ := hu.shape
  by_cases h16 : 16 < ms.length
  · have hR : Hid (chkE ms = 6) := by show _ = _; unfold chkE; rw [if_pos h16]
    have h16i : (16 : Int) < (ms.length : Int) := by omega
    go_enter Try.func31, Try.ntmps31
    go_wp2
    go_ret
    exact ⟨by rw [hR.out]; rfl, Below.refl _ _⟩
  · have h16i : ¬ (16 : Int) < (ms.length : Int) := by omega
    replace hu : Hid (Mts w (.slice a2 ms.length c2) ms) := hu
    replace rm : Hid (MtsR ms) := rm
    go_enter Try.func31, Try.ntmps31
    go_wp2
    go_loopw [10] (fun i wr => ∃ k : Nat, k ≤ ms.length ∧ i = .int .i64 k ∧ Hid ((ms.take k).all okM = true) ∧ Below w.heap.size w wr) (fun i _ => ms.length - (intOf i).toNat)
    case atStart => exact ⟨0, Nat.zero_le _, rfl, rfl, Below.refl _ _⟩
    case round =>
      obtain ⟨k, hk, rfl, hto, hB⟩ := hrel
      have hbz := hB.size
      by_cases hlt : k < ms.length
      · have hki : (k : Int) < (ms.length : Int) := by omega
        obtain ⟨b, o, rfl, x0, x1, x2⟩ := mt_at (Sls.grow hu.out hB) k hlt
        have hrm := rm.out _ (getD_mem ms mt0 k hlt)
        unfold MtR reachBytes at hrm
        have hN := fun W => isName_any (ms.getD k mt0).name W (by omega)
        have hO := fun W => isOp_any (ms.getD k mt0).op W
        have hyes : Hid (okM (ms.getD k mt0) = true → (ms.take (k + 1)).all okM = true) := fun h => okM_take hlt hto.out h
        have hnot : Hid (okM (ms.getD k mt0) = false → chkE ms = 90) := fun h => chkE_no (by omega) hlt h
        have hok : Hid (okM (ms.getD k mt0) = (nameB (ms.getD k mt0).name && (opB (ms.getD k mt0).op && decide ((ms.getD k mt0).value.size ≤ 128)))) := rfl
        generalize ms.getD k mt0 = x at *
        obtain ⟨n, op, val⟩ := x
        simp only at x0 x1 x2 hN hO hyes hnot hok hrm
        have h3 := hrm.2.2
        clear hrm
        generalize nameB n = B1 at *
        generalize opB op = B2 at *
        cases B1
        · have hst : Hid (chkE ms = 90) := hnot.out hok.out
          go_wp2_with (first | (go_at_call 46; refine (hN _).mono ?_; rintro e wx ⟨rfl, hwx⟩; subst wx) | (go_at_call 47; refine (hO _).mono ?_; rintro e wx ⟨rfl, hwx⟩; subst wx))
          go_ret
          exact ⟨by rw [hst.out]; rfl, hB.alloc hbz _⟩
        · cases B2
          · have hst : Hid (chkE ms = 90) := hnot.out hok.out
            go_wp2_with (first | (go_at_call 46; refine (hN _).mono ?_; rintro e wx ⟨rfl, hwx⟩; subst wx) | (go_at_call 47; refine (hO _).mono ?_; rintro e wx ⟨rfl, hwx⟩; subst wx))
            go_ret
            exact ⟨by rw [hst.out]; rfl, hB.alloc hbz _⟩
          · by_cases hvs : val.size ≤ 128
            · have hst : Hid ((ms.take (k + 1)).all okM = true) := hyes.out (by rw [hok.out, decide_eq_true hvs]; rfl)
              have hvi : ¬ (128 : Int) < (val.size : Int) := by omega
              go_wp2_with (first | (go_at_call 46; refine (hN _).mono ?_; rintro e wx ⟨rfl, hwx⟩; subst wx) | (go_at_call 47; refine (hO _).mono ?_; rintro e wx ⟨rfl, hwx⟩; subst wx))
              refine ⟨⟨k + 1, by omega, by go_num, hst, hB.alloc hbz _⟩, ?_⟩
              simp [intOf]; omega
            · have hst : Hid (chkE ms = 90) := hnot.out (by rw [hok.out, decide_eq_false hvs]; rfl)
              have hvi : (128 : Int) < (val.size : Int) := by omega
              go_wp2_with (first | (go_at_call 46; refine (hN _).mono ?_; rintro e wx ⟨rfl, hwx⟩; subst wx) | (go_at_call 47; refine (hO _).mono ?_; rintro e wx ⟨rfl, hwx⟩; subst wx))
              go_ret
              exact ⟨by rw [hst.out]; rfl, hB.alloc hbz _⟩
      · obtain rfl : k = ms.length := by omega
        have hki : ¬ (ms.length : Int) < (ms.length : Int) := by omega
        have hR : Hid (chkE ms = 0) := by
          have := hto.out
          rw [List.take_of_length_le (Nat.le_refl _)] at this
          show _ = _
          unfold chkE
          rw [if_neg h16, if_pos this]
        go_wp2
        go_ret
        exact ⟨by rw [hR.out]; rfl, hB⟩
end Go.Proofs.Ytckchabcnmkbeaa
