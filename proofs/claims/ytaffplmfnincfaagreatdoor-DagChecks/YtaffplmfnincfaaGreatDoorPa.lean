/- Order as it is asked; place; a list turned round. -/
import Derived.Test.YtaffplmfnincfaaGreatDoorOvOx
namespace Go.Proofs.YtaffplmfnincfaaGreatDoor
set_option linter.unusedVariables false
open Go.RowKit
open Classical in
/-- The error of Order. -/
noncomputable def ordE (l : List Nd) : Int := if ¬ (l.map (·.ref)).Nodup then 8 else if ordN l = none then 121 else 0
open Classical in
/-- What Order tells. -/
noncomputable def ordL (l : List Nd) : List ByteArray := if ¬ (l.map (·.ref)).Nodup then [] else (ordN l).getD []
theorem ordE_d {l : List Nd} (h : (l.map (·.ref)).Nodup) : ordE l = if ordN l = none then 121 else 0 := by unfold ordE; rw [if_neg (fun g => g h)]
theorem ordL_d {l : List Nd} (h : (l.map (·.ref)).Nodup) : ordL l = (ordN l).getD [] := by unfold ordL; rw [if_neg (fun g => g h)]
theorem ordE_n {l : List Nd} (h : ¬ (l.map (·.ref)).Nodup) : ordE l = 8 := by unfold ordE; rw [if_pos h]
theorem ordL_n {l : List Nd} (h : ¬ (l.map (·.ref)).Nodup) : ordL l = [] := by unfold ordL; rw [if_pos h]
theorem order9 (a : Option Addr) (n c : Nat) (l : List Nd) (w : World) (hG : G w) (hS : SignsAt w) (hv : Sls encN w (.slice a n c) l) (hl : l.length ≤ 1000) (hsh : ShN l) : Calls Tryz.prog 9 #[.slice a n c] w fun e w' => ∃ a' n' c', e = .returned (.tuple #[.slice a' n' c', .int .i64 (ordE l)]) ∧ Hid (Txs w' (.slice a' n' c') (ordL l) ∧ Below w.heap.size w w') := by
  by_cases hd : (l.map (·.ref)).Nodup
  · refine (order9_ok a n c l w hG hS hv hl hsh hd).mono ?_
    rintro e w' ⟨r, h⟩
    obtain ⟨h1, h2, h3⟩ := h.out
    have hr := ordN_is h1
    rw [ordE_d hd, ordL_d hd, hr]
    rcases h2 with ⟨g, rfl⟩ | ⟨out, a', n', c', g, rfl, ht⟩
    · rw [if_pos g, g]
      exact ⟨none, 0, 0, rfl, sls_nil _, h3⟩
    · rw [if_neg (by rw [g]; intro e; cases e), g]
      exact ⟨a', n', c', rfl, ht, h3⟩
  · refine (order9_there a n c l w hv hl ((there_iff l).2 hd)).mono ?_
    rintro e w' ⟨rfl, hb⟩
    rw [ordE_n hd, ordL_n hd]
    exact ⟨none, 0, 0, rfl, sls_nil _, hb⟩
/-- A sorted list of the steps is there. -/
theorem ordT_ex {l : List Nd} (hd : (l.map (·.ref)).Nodup) : ∃ r, OrdT l r := by
  have key : ∀ L : List Sq, (L.map Prod.fst).Nodup → ∃ M : List Sq, M.Perm L ∧ SRise M := by
    intro L
    induction L with
    | nil => exact fun _ => ⟨[], List.Perm.refl _, List.Pairwise.nil⟩
    | cons x L ih =>
      intro h
      obtain ⟨h1, h2⟩ := List.nodup_cons.1 h
      obtain ⟨M, p, hM⟩ := ih h2
      have hx : ∀ y ∈ M, y.1 ≠ x.1 := fun y hy e => h1 (e ▸ List.mem_map_of_mem (p.subset hy))
      clear ih h h1 h2
      have ins : ∀ M : List Sq, SRise M → (∀ y ∈ M, y.1 ≠ x.1) → ∃ N : List Sq, N.Perm (x :: M) ∧ SRise N := by
        intro M
        induction M with
        | nil => exact fun _ _ => ⟨[x], List.Perm.refl _, List.pairwise_singleton _ _⟩
        | cons y M ih =>
          intro hs hne
          have hs' := List.pairwise_cons.1 hs
          rcases bltS_total (hne y List.mem_cons_self) with h | h
          · obtain ⟨N, p, hN⟩ := ih hs'.2 fun z hz => hne z (List.mem_cons_of_mem _ hz)
            refine ⟨y :: N, (p.cons y).trans (List.Perm.swap _ _ _), List.pairwise_cons.2 ⟨fun z hz => ?_, hN⟩⟩
            rcases List.mem_cons.1 (p.subset hz) with e | e
            · rw [e]; exact h
            · exact hs'.1 z e
          · refine ⟨x :: y :: M, List.Perm.refl _, List.pairwise_cons.2 ⟨fun z hz => ?_, hs⟩⟩
            rcases List.mem_cons.1 hz with e | e
            · rw [e]; exact h
            · exact h.trans (hs'.1 z e)
      obtain ⟨N, q, hN⟩ := ins M hM hx
      exact ⟨N, q.trans (p.cons x), hN⟩
  obtain ⟨M, p, hM⟩ := key (l.map sqN) (by rw [List.map_map]; exact hd)
  exact ⟨_, M, p, hM, rfl⟩
/-- The place of a text. -/
def plc (L : List ByteArray) (s : ByteArray) : Int := idxP (fun t : ByteArray => t.toList == s.toList) L
theorem plc_at {P Q : List ByteArray} {s : ByteArray} (h : s ∉ P) : plc (P ++ s :: Q) s = P.length := by
  have hany : (P ++ s :: Q).any (fun t : ByteArray => t.toList == s.toList) = true := by simp
  unfold plc idxP
  rw [hany, if_pos rfl]
  congr 1
  induction P with
  | nil => simp [List.findIdx_cons]
  | cons p P ih =>
    have hp : (p.toList == s.toList) = false := toList_ne fun e => h (e ▸ List.mem_cons_self)
    rw [List.cons_append, List.findIdx_cons, hp]
    simp only [cond_false, List.length_cons]
    rw [ih (fun hm => h (List.mem_cons_of_mem _ hm)) (by simp)]
theorem plc_in {L : List ByteArray} {s : ByteArray} (h : s ∈ L) : 0 ≤ plc L s ∧ plc L s < L.length := by
  have hany : L.any (fun t : ByteArray => t.toList == s.toList) = true := List.any_eq_true.2 ⟨s, h, by simp⟩
  obtain ⟨h1, _, _⟩ := idxP_some (fun t : ByteArray => t.toList == s.toList) ⟨#[]⟩ hany
  unfold plc idxP
  rw [hany, if_pos rfl]
  omega
theorem plc_app {P Q : List ByteArray} {s : ByteArray} (h : s ∈ P) : 0 ≤ plc (P ++ Q) s ∧ plc (P ++ Q) s < P.length := by
  have hany : (P ++ Q).any (fun t : ByteArray => t.toList == s.toList) = true := List.any_eq_true.2 ⟨s, List.mem_append.2 (.inl h), by simp⟩
  unfold plc idxP
  rw [hany, if_pos rfl]
  have : List.findIdx (fun t : ByteArray => t.toList == s.toList) (P ++ Q) < P.length := by
    rw [List.findIdx_append, if_pos]
    · exact List.findIdx_lt_length.2 ⟨s, h, by simp⟩
    · exact List.findIdx_lt_length.2 ⟨s, h, by simp⟩
  omega
theorem plc_no {L : List ByteArray} {s : ByteArray} (h : s ∉ L) : plc L s = -1 := by
  have hany : L.any (fun t : ByteArray => t.toList == s.toList) = false := List.any_eq_false.2 fun x hx e => h (toList_eq e ▸ hx)
  unfold plc idxP
  rw [hany]
  rfl
/-- What is told, in its order. -/
theorem ordL_ahead {l : List Nd} (h : ordE l = 0) : (ordL l).Nodup ∧ (ordL l).length = l.length ∧ ∀ x ∈ l, ∀ r ∈ inpN x, 0 ≤ plc (ordL l) r ∧ plc (ordL l) r < plc (ordL l) x.ref := by
  by_cases hd : (l.map (·.ref)).Nodup
  · obtain ⟨r, hr⟩ := ordT_ex hd
    rw [ordE_d hd, ordN_is hr] at h
    rw [ordL_d hd, ordN_is hr]
    cases r with
    | none => rw [if_pos rfl] at h; omega
    | some out =>
      obtain ⟨L, p, hs, e⟩ := hr
      obtain ⟨S, e1, q, g⟩ := ordF_some L.length rfl e.symm
      simp only [List.nil_append] at e1
      subst e1
      have hm : out.Perm (l.map (·.ref)) := by
        have := p.map Prod.fst
        rw [List.map_map] at this
        exact q.trans this
      have hnd : out.Nodup := hm.nodup_iff.2 hd
      refine ⟨hnd, by have := hm.length_eq; simpa using this, fun x hx r hr => ?_⟩
      obtain ⟨P, Q, e2, hP⟩ := g (sqN x) (p.symm.subset (List.mem_map_of_mem hx))
      have hx2 : x.ref ∉ P := fun hm2 => by
        rw [e2, List.nodup_append] at hnd
        exact hnd.2.2 _ hm2 _ List.mem_cons_self rfl
      have h1 := plc_at (Q := Q) hx2
      have h2 := plc_app (Q := x.ref :: Q) (hP r hr)
      simp only [Option.getD_some]
      have e3 : out = P ++ x.ref :: Q := e2
      rw [e3, h1]
      exact h2
  · rw [ordE_n hd] at h
    omega
theorem ordL_err {l : List Nd} (h : ordE l ≠ 0) : ordL l = [] := by
  by_cases hd : (l.map (·.ref)).Nodup
  · rw [ordE_d hd] at h
    rw [ordL_d hd]
    by_cases hn : ordN l = none
    · rw [hn]; rfl
    · rw [if_neg hn] at h; exact absurd rfl h
  · exact ordL_n hd
/-- A list turned round. -/
def rot (l : List Nd) (s : Nat) : List Nd := l.drop s ++ l.take s
end Go.Proofs.YtaffplmfnincfaaGreatDoor
