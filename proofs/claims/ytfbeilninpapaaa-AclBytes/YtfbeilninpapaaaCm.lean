/- areTeams, User; the document's Check and User. -/
import Derived.Test.YtfbeilninpapaaaCl
namespace Go.Proofs.Ytfbeilninpapaaa
set_option linter.unusedVariables false
open Go.RowKit
def TxR (l : List ByteArray) : Prop := ∀ s ∈ l, s.size ≤ 1000000000000000
/-- Teams. -/
def tmB (ts : List ByteArray) : Bool := decide (ts.length ≤ 8) && ts.all nmB
/-- User. -/
def usE (n r : ByteArray) (ts : List ByteArray) : Int := if nmB n then (if roB r then (if tmB ts then 0 else 150) else 150) else 150
theorem usE_in (n r : ByteArray) (ts : List ByteArray) : 0 ≤ usE n r ts ∧ usE n r ts ≤ 150 := by unfold usE; split <;> (try split) <;> (try split) <;> omega
theorem nm_take {l : List ByteArray} {k : Nat} (hk : k < l.length) (h : (l.take k).all nmB = true) (h2 : nmB (l.getD k ⟨#[]⟩) = true) : (l.take (k + 1)).all nmB = true := by
  rw [take_getD l ⟨#[]⟩ k hk, List.all_append, h, List.all_cons, h2]
  rfl
theorem tm_no {l : List ByteArray} {k : Nat} (hk : k < l.length) (h2 : nmB (l.getD k ⟨#[]⟩) = false) : tmB l = false := by
  cases e : tmB l with
  | false => rfl
  | true =>
    unfold tmB at e
    have := List.all_eq_true.1 (Bool.and_eq_true_iff.1 e).2 _ (getD_mem l ⟨#[]⟩ k hk)
    rw [h2] at this; cases this
set_option maxRecDepth 100000 in
set_option maxHeartbeats 1000000 in
theorem areTeams_any (v : Value) (l : List ByteArray) (w : World) (hv : Txs w v l) (hl : l.length ≤ 1000000000000000) (hr : TxR l) :
    Calls Try.prog 28 #[v] w fun e w' => e = .returned (.bool (tmB l)) ∧ w' = w := by
  obtain ⟨a2, c2, rfl⟩ := hv.shape
  by_cases h8 : 8 < l.length
  · have hR : Hid (tmB l = false) := by show _ = _; unfold tmB; rw [decide_eq_false (by omega)]; rfl
    have h8i : (8 : Int) < (l.length : Int) := by omega
    clear hv
    go_enter Try.func28, Try.ntmps28
    go_wp2
    go_ret
    exact ⟨by rw [hR.out]; rfl, rfl⟩
  · have h8i : ¬ (8 : Int) < (l.length : Int) := by omega
    replace hr : Hid (TxR l) := hr
    replace hv : Hid (Txs w (.slice a2 l.length c2) l) := hv
    go_enter Try.func28, Try.ntmps28
    go_wp2
    go_loop [10] (fun i => ∃ k : Nat, k ≤ l.length ∧ i = .int .i64 k ∧ Hid ((l.take k).all nmB = true)) (fun i => l.length - (intOf i).toNat)
    case atStart => exact ⟨0, Nat.zero_le _, rfl, rfl⟩
    case round =>
      obtain ⟨k, hk, rfl, hto⟩ := hrel
      by_cases hlt : k < l.length
      · have hki : (k : Int) < (l.length : Int) := by omega
        obtain ⟨b, o, rfl, x0⟩ := tx_at hv.out k hlt
        have hN := fun W => name_any (l.getD k ⟨#[]⟩) W (by have := hr.out _ (getD_mem l ⟨#[]⟩ k hlt); omega)
        have hyes : Hid (nmB (l.getD k ⟨#[]⟩) = true → (l.take (k + 1)).all nmB = true) := fun h => nm_take hlt hto.out h
        have hnot : Hid (nmB (l.getD k ⟨#[]⟩) = false → tmB l = false) := fun h => tm_no hlt h
        generalize l.getD k ⟨#[]⟩ = t at *
        cases hm : nmB t with
        | true =>
          rw [hm] at hN
          have hst : Hid ((l.take (k + 1)).all nmB = true) := hyes.out hm
          clear hm hyes hnot
          go_wp2_with (first | (go_at_call 26; refine (hN _).mono ?_; rintro e wx ⟨rfl, hwx⟩; subst wx))
          go_round
          case rel => exact ⟨k + 1, by omega, by go_num, hst⟩
          case measure => simp [intOf]; omega
        | false =>
          rw [hm] at hN
          have hst : Hid (tmB l = false) := hnot.out hm
          clear hm hyes hnot
          go_wp2_with (first | (go_at_call 26; refine (hN _).mono ?_; rintro e wx ⟨rfl, hwx⟩; subst wx))
          go_ret
          exact ⟨by rw [hst.out]; rfl, rfl⟩
      · obtain rfl : l.length = k := by omega
        have hki : ¬ (l.length : Int) < (l.length : Int) := by omega
        have hR : Hid (tmB l = true) := by
          have := hto.out
          rw [List.take_of_length_le (Nat.le_refl _)] at this
          show _ = _
          unfold tmB; rw [decide_eq_true (by omega), this]; rfl
        go_wp2
        go_ret
        exact ⟨by rw [hR.out]; rfl, rfl⟩
set_option maxRecDepth 100000 in
set_option maxHeartbeats 1000000 in
/-- acl.User. -/
theorem user_any (n r : ByteArray) (tv : Value) (ts : List ByteArray) (w : World) (ht : Txs w tv ts) (hts : ts.length ≤ 1000000000000000) (hn : n.size ≤ 1000000000000000) (hr : TxR ts) :
    Calls Try.prog 12 #[.agg #[.string n, .string r, tv]] w fun e w' => e = .returned (.int .i64 (usE n r ts)) ∧ Below w.heap.size w w' := by
  have hT := areTeams_any tv ts (w.alloc (.cells #[.string n, .string r, tv] 24)) (ht.alloc _) hts hr
  have hN := fun W => name_any n W (by omega)
  have hO := fun W => isRole_any r W
  obtain ⟨a, c, rfl⟩ := ht.shape
  have hb1 : Hid (Below w.heap.size w (w.alloc (.cells #[.string n, .string r, .slice a ts.length c] 24))) := (Below.refl _ _).alloc (Nat.le_refl _) _
  have hR : Hid (usE n r ts = if nmB n then (if roB r then (if tmB ts then 0 else 150) else 150) else 150) := rfl
  clear ht hr
  generalize nmB n = B1 at *
  generalize roB r = B2 at *
  generalize tmB ts = B3 at *
  cases B1 <;> cases B2 <;> cases B3
  all_goals
    go_enter Try.func12, Try.ntmps12
    go_wp2_with (first | (go_at_call 26; refine (hN _).mono ?_; rintro e wx ⟨rfl, hwx⟩; subst wx) | (go_at_call 27; refine (hO _).mono ?_; rintro e wx ⟨rfl, hwx⟩; subst wx) | (go_at_call 28; refine hT.mono ?_; rintro e wx ⟨rfl, hwx⟩; subst wx))
    go_ret
    exact ⟨by rw [hR.out]; rfl, hb1.out⟩
set_option maxRecDepth 100000 in
set_option maxHeartbeats 4000000 in
/-- The document's User. -/
theorem ruser_any (n r : ByteArray) (tv : Value) (ts : List ByteArray) (w : World) (ht : Txs w tv ts) (hts : ts.length ≤ 1000000000000000) (hn : n.size ≤ 1000000000000000) (hr : TxR ts) :
    Calls Try.prog 13 #[.agg #[.string n, .string r, tv]] w fun e w' => e = .returned (.int .i64 (usE n r ts)) ∧ Below w.heap.size w w' := by
  have hN := fun W => rname_any n W (by omega)
  have hO := fun W => role_any r W
  obtain ⟨a, c, rfl⟩ := ht.shape
  have hb1 : Hid (Below w.heap.size w (w.alloc (.cells #[.string n, .string r, .slice a ts.length c] 24))) := (Below.refl _ _).alloc (Nat.le_refl _) _
  have hR : Hid (usE n r ts = if nmB n then (if roB r then (if tmB ts then 0 else 150) else 150) else 150) := rfl
  have htk : Hid (∀ W, Below w.heap.size w W → Txs W (.slice a ts.length c) ts) := fun W h => ht.grow h
  replace hr : Hid (TxR ts) := hr
  clear ht
  generalize nmB n = B1 at *
  generalize roB r = B2 at *
  cases B1
  · go_enter Try.func13, Try.ntmps13
    go_wp2_with (first | (go_at_call 24; refine (hN _).mono ?_; rintro e wx ⟨rfl, hwx⟩; subst wx) | (go_at_call 25; refine (hO _).mono ?_; rintro e wx ⟨rfl, hwx⟩; subst wx))
    go_ret
    exact ⟨by rw [hR.out]; rfl, hb1.out⟩
  · cases B2
    · go_enter Try.func13, Try.ntmps13
      go_wp2_with (first | (go_at_call 24; refine (hN _).mono ?_; rintro e wx ⟨rfl, hwx⟩; subst wx) | (go_at_call 25; refine (hO _).mono ?_; rintro e wx ⟨rfl, hwx⟩; subst wx))
      go_ret
      exact ⟨by rw [hR.out]; rfl, hb1.out⟩
    · by_cases h8 : 8 < ts.length
      · have hR2 : Hid (tmB ts = false) := by show _ = _; unfold tmB; rw [decide_eq_false (by omega)]; rfl
        have h8i : (8 : Int) < (ts.length : Int) := by omega
        go_enter Try.func13, Try.ntmps13
        go_wp2_with (first | (go_at_call 24; refine (hN _).mono ?_; rintro e wx ⟨rfl, hwx⟩; subst wx) | (go_at_call 25; refine (hO _).mono ?_; rintro e wx ⟨rfl, hwx⟩; subst wx))
        go_ret
        exact ⟨by rw [hR.out, hR2.out]; rfl, hb1.out⟩
      · have h8i : ¬ (8 : Int) < (ts.length : Int) := by omega
        have hv := htk.out _ hb1.out
        replace hv : Hid (Txs (w.alloc (.cells #[.string n, .string r, .slice a ts.length c] 24)) (.slice a ts.length c) ts) := hv
        go_enter Try.func13, Try.ntmps13
        go_wp2_with (first | (go_at_call 24; refine (hN _).mono ?_; rintro e wx ⟨rfl, hwx⟩; subst wx) | (go_at_call 25; refine (hO _).mono ?_; rintro e wx ⟨rfl, hwx⟩; subst wx))
        clear hN hO
        go_loop [3] (fun i => ∃ k : Nat, k ≤ ts.length ∧ i = .int .i64 k ∧ Hid ((ts.take k).all nmB = true)) (fun i => ts.length - (intOf i).toNat)
        case atStart => exact ⟨0, Nat.zero_le _, rfl, rfl⟩
        case round =>
          obtain ⟨k, hk, rfl, hto⟩ := hrel
          by_cases hlt : k < ts.length
          · have hki : (k : Int) < (ts.length : Int) := by omega
            obtain ⟨b, o, rfl, x0⟩ := tx_at hv.out k hlt
            have hN := fun W => rname_any (ts.getD k ⟨#[]⟩) W (by have := hr.out _ (getD_mem ts ⟨#[]⟩ k hlt); omega)
            have hyes : Hid (nmB (ts.getD k ⟨#[]⟩) = true → (ts.take (k + 1)).all nmB = true) := fun h => nm_take hlt hto.out h
            have hnot : Hid (nmB (ts.getD k ⟨#[]⟩) = false → tmB ts = false) := fun h => tm_no hlt h
            generalize ts.getD k ⟨#[]⟩ = t at *
            cases hm : nmB t with
            | true =>
              rw [hm] at hN
              have hst : Hid ((ts.take (k + 1)).all nmB = true) := hyes.out hm
              clear hm hyes hnot
              go_wp2_with (first | (go_at_call 24; refine (hN _).mono ?_; rintro e wx ⟨rfl, hwx⟩; subst wx))
              go_round
              case rel => exact ⟨k + 1, by omega, by go_num, hst⟩
              case measure => simp [intOf]; omega
            | false =>
              rw [hm] at hN
              have hst : Hid (tmB ts = false) := hnot.out hm
              clear hm hyes hnot
              go_wp2_with (first | (go_at_call 24; refine (hN _).mono ?_; rintro e wx ⟨rfl, hwx⟩; subst wx))
              go_ret
              exact ⟨by rw [hR.out, hst.out]; rfl, hb1.out⟩
          · obtain rfl : ts.length = k := by omega
            have hki : ¬ (ts.length : Int) < (ts.length : Int) := by omega
            have hR2 : Hid (tmB ts = true) := by
              have := hto.out
              rw [List.take_of_length_le (Nat.le_refl _)] at this
              show _ = _
              unfold tmB; rw [decide_eq_true (by omega), this]; rfl
            go_wp2
            go_ret
            exact ⟨by rw [hR.out, hR2.out]; rfl, hb1.out⟩
end Go.Proofs.Ytfbeilninpapaaa
