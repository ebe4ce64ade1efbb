/- Order as it is asked; place; a list turned round. -/
import Derived.Test.YtaffplmfnincfaaGreatDoorOvOx
namespace Go.Proofs.YtaffplmfnincfaaGreatDoor
set_option linter.unusedVariables false
open Go.RowKit
open Classical in
/-- The error of Order. -/
noncomputable def ordE (l : List Nd) : Int := if ¬ (l.map (·.ref)).Nodup then 8 else if ordN l = none then 121 else 0
open Classical in
/-- What Order tells. -/
noncomputable def ordL (l : List Nd) : List ByteArray := if ¬ (l.map (·.ref)).Nodup then [] else (ordN l).getD []
theorem ordE_d {l : List Nd} (h : (l.map (·.ref)).Nodup) : ordE l = if ordN l = none then 121 else 0 := by unfold ordE; rw [if_neg (fun g => g h)]
theorem ordL_d {l : List Nd} (h : (l.map (·.ref)).Nodup) : ordL l = (ordN l).getD [] := by unfold ordL; rw [if_neg (fun g => g h)]
theorem ordE_n {l : List Nd} (h : ¬ (l.map (·.ref)).Nodup) : ordE l = 8 := by unfold ordE; rw [if_pos h]
theorem ordL_n {l : List Nd} (h : ¬ (l.map (·.ref)).Nodup) : ordL l = [] := by unfold ordL; rw [if_pos h]
theorem order9 (a : Option Addr) (n c : Nat) (l : List Nd) (w : World) (hG : G w) (hS : SignsAt w) (hv : Sls encN w (.slice a n c) l) (hl : l.length ≤ 1000) (hsh : ShN l) : Calls Tryz.prog 9 #[.slice a n c] w fun e w' => ∃ a' n' c', e = .returned (.tuple #[.slice a' n' c', .int .i64 (ordE l)]) ∧ Hid (Txs w' (.slice a' n' c') (ordL l) ∧ Below w.heap.size w w') := by
  by_cases hd : (l.map (·.ref)).Nodup
  · refine (order9_ok a n c l w hG hS hv hl hsh hd).mono ?_
    rintro e w' ⟨r, h⟩
    obtain ⟨h1, h2, h3⟩ := h.out
    have hr := ordN_is h1
    rw [ordE_d hd, ordL_d hd, hr]
    rcases h2 with ⟨g, rfl⟩ | ⟨out, a', n', c', g, rfl, ht⟩
    · rw [if_pos g, g]
      exact ⟨none, 0, 0, rfl, sls_nil _, h3⟩
    · rw [if_neg (by rw [g]; intro e; cases e), g]
      exact ⟨a', n', c', rfl, ht, h3⟩
  · refine (order9_there a n c l w hv hl ((there_iff l).2 hd)).mono ?_
    rintro e w' ⟨rfl, hb⟩
    rw [ordE_n hd, ordL_n hd]
    exact ⟨none, 0, 0, rfl, sls_nil _, hb⟩
theorem OrdT.perm {l m : List Nd} {r : Option (List ByteArray)} (h : OrdT l r) (p : l.Perm m) : OrdT m r := by
  obtain ⟨L, q, hr, e⟩ := h
  exact ⟨L, q.trans (p.map _), hr, e⟩
theorem ordN_perm {l m : List Nd} (p : l.Perm m) : ordN l = ordN m := by
  by_cases h : ∃ r, OrdT l r
  · obtain ⟨r, hr⟩ := h
    rw [ordN_is hr, ordN_is (hr.perm p)]
  · have h2 : ¬ ∃ r, OrdT m r := fun ⟨r, hr⟩ => h ⟨r, hr.perm p.symm⟩
    unfold ordN
    rw [dif_neg h, dif_neg h2]
theorem ordE_perm {l m : List Nd} (p : l.Perm m) : ordE l = ordE m := by
  by_cases hd : (l.map (·.ref)).Nodup
  · rw [ordE_d hd, ordE_d ((p.map _).nodup_iff.1 hd), ordN_perm p]
  · rw [ordE_n hd, ordE_n (fun h => hd ((p.map _).nodup_iff.2 h))]
theorem ordL_perm {l m : List Nd} (p : l.Perm m) : ordL l = ordL m := by
  by_cases hd : (l.map (·.ref)).Nodup
  · rw [ordL_d hd, ordL_d ((p.map _).nodup_iff.1 hd), ordN_perm p]
  · rw [ordL_n hd, ordL_n (fun h => hd ((p.map _).nodup_iff.2 h))]
/-- A sorted list of the steps is there. -/
theorem ordT_ex {l : List Nd} (hd : (l.map (·.ref)).Nodup) : ∃ r, OrdT l r := by
  have key : ∀ L : List Sq, (L.map Prod.fst).Nodup → ∃ M : List Sq, M.Perm L ∧ SRise M := by
    intro L
    induction L with
    | nil => exact fun _ => ⟨[], List.Perm.refl _, List.Pairwise.nil⟩
    | cons x L ih =>
      intro h
      obtain ⟨h1, h2⟩ := List.nodup_cons.1 h
      obtain ⟨M, p, hM⟩ := ih h2
      have hx : ∀ y ∈ M, y.1 ≠ x.1 := fun y hy e => h1 (e ▸ List.mem_map_of_mem (p.subset hy))
      clear ih h h1 h2
      have ins : ∀ M : List Sq, SRise M → (∀ y ∈ M, y.1 ≠ x.1) → ∃ N : List Sq, N.Perm (x :: M) ∧ SRise N := by
        intro M
        induction M with
        | nil => exact fun _ _ => ⟨[x], List.Perm.refl _, List.pairwise_singleton _ _⟩
        | cons y M ih =>
          intro hs hne
          have hs' := List.pairwise_cons.1 hs
          rcases bltS_total (hne y List.mem_cons_self) with h | h
          · obtain ⟨N, p, hN⟩ := ih hs'.2 fun z hz => hne z (List.mem_cons_of_mem _ hz)
            refine ⟨y :: N, (p.cons y).trans (List.Perm.swap _ _ _), List.pairwise_cons.2 ⟨fun z hz => ?_, hN⟩⟩
            rcases List.mem_cons.1 (p.subset hz) with e | e
            · rw [e]; exact h
            · exact hs'.1 z e
          · refine ⟨x :: y :: M, List.Perm.refl _, List.pairwise_cons.2 ⟨fun z hz => ?_, hs⟩⟩
            rcases List.mem_cons.1 hz with e | e
            · rw [e]; exact h
            · exact h.trans (hs'.1 z e)
      obtain ⟨N, q, hN⟩ := ins M hM hx
      exact ⟨N, q.trans (p.cons x), hN⟩
  obtain ⟨M, p, hM⟩ := key (l.map sqN) (by rw [List.map_map]; exact hd)
  exact ⟨_, M, p, hM, rfl⟩
/-- The place of a text. -/
def plc (L : List ByteArray) (s : ByteArray) : Int := idxP (fun t : ByteArray => t.toList == s.toList) L
theorem plc_at {P Q : List ByteArray} {s : ByteArray} (h : s ∉ P) : plc (P ++ s :: Q) s = P.length := by
  have hany : (P ++ s :: Q).any (fun t : ByteArray => t.toList == s.toList) = true := by simp
  unfold plc idxP
  rw [hany, if_pos rfl]
  congr 1
  induction P with
  | nil => simp [List.findIdx_cons]
  | cons p P ih =>
    have hp : (p.toList == s.toList) = false := toList_ne fun e => h (e ▸ List.mem_cons_self)
    rw [List.cons_append, List.findIdx_cons, hp]
    simp only [cond_false, List.length_cons]
    rw [ih (fun hm => h (List.mem_cons_of_mem _ hm)) (by simp)]
theorem plc_in {L : List ByteArray} {s : ByteArray} (h : s ∈ L) : 0 ≤ plc L s ∧ plc L s < L.length := by
  have hany : L.any (fun t : ByteArray => t.toList == s.toList) = true := List.any_eq_true.2 ⟨s, h, by simp⟩
  obtain ⟨h1, _, _⟩ := idxP_some (fun t : ByteArray => t.toList == s.toList) ⟨#[]⟩ hany
  unfold plc idxP
  rw [hany, if_pos rfl]
  omega
theorem plc_app {P Q : List ByteArray} {s : ByteArray} (h : s ∈ P) : 0 ≤ plc (P ++ Q) s ∧ plc (P ++ Q) s < P.length := by
  have hany : (P ++ Q).any (fun t : ByteArray => t.toList == s.toList) = true := List.any_eq_true.2 ⟨s, List.mem_append.2 (.inl h), by simp⟩
  unfold plc idxP
  rw [hany, if_pos rfl]
  have : List.findIdx (fun t : ByteArray => t.toList == s.toList) (P ++ Q) < P.length := by
    rw [List.findIdx_append, if_pos]
    · exact List.findIdx_lt_length.2 ⟨s, h, by simp⟩
    · exact List.findIdx_lt_length.2 ⟨s, h, by simp⟩
  omega
theorem plc_no {L : List ByteArray} {s : ByteArray} (h : s ∉ L) : plc L s = -1 := by
  have hany : L.any (fun t : ByteArray => t.toList == s.toList) = false := List.any_eq_false.2 fun x hx e => h (toList_eq e ▸ hx)
  unfold plc idxP
  rw [hany]
  rfl
/-- What is told, in its order. -/
theorem ordL_ahead {l : List Nd} (h : ordE l = 0) : (ordL l).Nodup ∧ (ordL l).length = l.length ∧ ∀ x ∈ l, ∀ r ∈ inpN x, 0 ≤ plc (ordL l) r ∧ plc (ordL l) r < plc (ordL l) x.ref := by
  by_cases hd : (l.map (·.ref)).Nodup
  · obtain ⟨r, hr⟩ := ordT_ex hd
    rw [ordE_d hd, ordN_is hr] at h
    rw [ordL_d hd, ordN_is hr]
    cases r with
    | none => rw [if_pos rfl] at h; omega
    | some out =>
      obtain ⟨L, p, hs, e⟩ := hr
      obtain ⟨S, e1, q, g⟩ := ordF_some L.length rfl e.symm
      simp only [List.nil_append] at e1
      subst e1
      have hm : out.Perm (l.map (·.ref)) := by
        have := p.map Prod.fst
        rw [List.map_map] at this
        exact q.trans this
      have hnd : out.Nodup := hm.nodup_iff.2 hd
      refine ⟨hnd, by have := hm.length_eq; simpa using this, fun x hx r hr => ?_⟩
      obtain ⟨P, Q, e2, hP⟩ := g (sqN x) (p.symm.subset (List.mem_map_of_mem hx))
      have hx2 : x.ref ∉ P := fun hm2 => by
        rw [e2, List.nodup_append] at hnd
        exact hnd.2.2 _ hm2 _ List.mem_cons_self rfl
      have h1 := plc_at (Q := Q) hx2
      have h2 := plc_app (Q := x.ref :: Q) (hP r hr)
      simp only [Option.getD_some]
      have e3 : out = P ++ x.ref :: Q := e2
      rw [e3, h1]
      exact h2
  · rw [ordE_n hd] at h
    omega
theorem ordL_err {l : List Nd} (h : ordE l ≠ 0) : ordL l = [] := by
  by_cases hd : (l.map (·.ref)).Nodup
  · rw [ordE_d hd] at h
    rw [ordL_d hd]
    by_cases hn : ordN l = none
    · rw [hn]; rfl
    · rw [if_neg hn] at h; exact absurd rfl h
  · exact ordL_n hd
/-- A list turned round. -/
def rot (l : List Nd) (s : Nat) : List Nd := l.drop s ++ l.take s
theorem rot_perm (l : List Nd) (s : Nat) : l.Perm (rot l s) := by
  unfold rot
  have := List.perm_append_comm (l₁ := l.take s) (l₂ := l.drop s)
  rwa [List.take_append_drop] at this
theorem rot_at (l : List Nd) (s k : Nat) (hs : s < l.length) (hk : k < l.length) : (rot l s).getD k nd0 = l.getD ((k + s) % l.length) nd0 := by
  unfold rot
  rw [List.getD_eq_getElem?_getD, List.getD_eq_getElem?_getD]
  congr 1
  by_cases h : k + s < l.length
  · rw [List.getElem?_append_left (by simp; omega), List.getElem?_drop, Nat.mod_eq_of_lt h, Nat.add_comm]
  · rw [List.getElem?_append_right (by simp; omega), List.length_drop, List.getElem?_take_of_lt (by omega)]
    have : (k + s) % l.length = k - (l.length - s) := by
      rw [Nat.mod_eq_sub_mod (by omega), Nat.mod_eq_of_lt (by omega)]
      omega
    rw [this]
theorem rot_len (l : List Nd) (s : Nat) : (rot l s).length = l.length := (rot_perm l s).length_eq.symm
set_option maxRecDepth 100000 in
set_option maxHeartbeats 4000000 in
/-- place. -/
theorem place19 (a : Option Addr) (n c : Nat) (L : List ByteArray) (s : ByteArray) (w : World) (hv : Txs w (.slice a n c) L) (hl : n ≤ 1000000) : Calls Tryz.prog 19 #[.slice a n c, .string s] w fun e w' => e = .returned (.int .i64 (plc L s)) ∧ Below w.heap.size w w' := by
  have hn : Hid (n = L.length) := hv.len
  replace hv : Hid (Txs w (.slice a n c) L) := hv
  cases hany : L.any (fun t : ByteArray => t.toList == s.toList) with
  | false =>
    have hid : Hid (plc L s = -1) := by unfold plc idxP; rw [hany]; rfl
    have hno : Hid (∀ k, k < L.length → ((L.getD k ⟨#[]⟩).toList == s.toList) = false) := fun k hk => idxP_none (fun t : ByteArray => t.toList == s.toList) _ hany k hk
    clear hany
    rw [hid.out]
    go_enter Tryz.func19, Tryz.ntmps19
    go_wp2
    go_loopw [5] (fun i wr => ∃ k : Nat, k ≤ n ∧ i = .int .i64 k ∧ Hid (Below w.heap.size w wr)) (fun i _ => n - (intOf i).toNat)
    case atStart => exact ⟨0, Nat.zero_le _, rfl, Below.refl _ _⟩
    case round =>
      obtain ⟨k, hk, rfl, hB⟩ := hrel
      by_cases hlt : k < n
      · have hki : (k : Int) < (n : Int) := by omega
        have hkl : k < L.length := by have := hn.out; omega
        obtain ⟨b, o, rfl, x0⟩ := tx_at (hv.out.grow hB.out) k hkl
        have he := hno.out k hkl
        generalize L.getD k ⟨#[]⟩ = r at *
        go_wp2
        refine ⟨⟨k + 1, by omega, by go_num, hB⟩, ?_⟩
        simp [intOf]; omega
      · have hki : ¬ (k : Int) < (n : Int) := by omega
        have hB' := hB.out
        go_wp2
        go_ret
        exact ⟨rfl, hB'⟩
  | true =>
    obtain ⟨h1, h2, h3⟩ := idxP_some (fun t : ByteArray => t.toList == s.toList) ⟨#[]⟩ hany
    have hid : Hid (plc L s = (L.findIdx (fun t : ByteArray => t.toList == s.toList) : Int)) := by unfold plc idxP; rw [hany]; rfl
    rw [hid.out]
    clear hid hany
    generalize L.findIdx (fun t : ByteArray => t.toList == s.toList) = K at *
    replace h2 : Hid (((L.getD K ⟨#[]⟩).toList == s.toList) = true) := h2
    replace h3 : Hid (∀ k, k < K → ((L.getD k ⟨#[]⟩).toList == s.toList) = false) := h3
    have hKn : K < n := by have := hn.out; omega
    go_enter Tryz.func19, Tryz.ntmps19
    go_wp2
    go_loopw [5] (fun i wr => ∃ k : Nat, k ≤ K ∧ i = .int .i64 k ∧ Hid (Below w.heap.size w wr)) (fun i _ => n - (intOf i).toNat)
    case atStart => exact ⟨0, Nat.zero_le _, rfl, Below.refl _ _⟩
    case round =>
      obtain ⟨k, hk, rfl, hB⟩ := hrel
      have hki : (k : Int) < (n : Int) := by omega
      obtain ⟨b, o, rfl, x0⟩ := tx_at (hv.out.grow hB.out) k (by omega)
      by_cases hlt : k < K
      · have he := h3.out k hlt
        generalize L.getD k ⟨#[]⟩ = r at *
        go_wp2
        refine ⟨⟨k + 1, by omega, by go_num, hB⟩, ?_⟩
        simp [intOf]; omega
      · obtain rfl : k = K := by omega
        have he := h2.out
        clear h3
        have hB' := hB.out
        generalize L.getD k ⟨#[]⟩ = r at *
        go_wp2
        go_ret
        exact ⟨rfl, hB'⟩
end Go.Proofs.YtaffplmfnincfaaGreatDoor
