/- Needs: mathematics. -/
import Derived.Test.YtaffplmfnincfaaGreatDoorPa
namespace Go.Proofs.YtaffplmfnincfaaGreatDoor
set_option linter.unusedVariables false
open Go.RowKit
theorem asc_key {β : Type} {r : ByteArray} {l : List (ByteArray × β)} (h : r ∉ l.map (·.1)) : asc r l = none := by
  cases e : asc r l with
  | none => rfl
  | some x => exact absurd (List.mem_map_of_mem (f := (·.1)) (asc_mem e)) h
theorem dropK_sublist {β : Type} (k : ByteArray) : ∀ (M : List (ByteArray × β)), List.Sublist (dropK k M) M
  | [] => List.Sublist.refl _
  | p :: M => by
    unfold dropK
    by_cases h : k = p.1
    · rw [if_pos h]; exact List.sublist_cons_self p M
    · rw [if_neg h]; exact (dropK_sublist k M).cons_cons p
theorem asc_dropK {β : Type} {k r : ByteArray} : ∀ {M : List (ByteArray × β)}, (M.map (·.1)).Nodup → asc r (dropK k M) = if r = k then none else asc r M
  | [], _ => by simp [dropK, asc]
  | p :: M, h => by
    rw [List.map_cons, List.nodup_cons] at h
    unfold dropK
    by_cases hk : k = p.1
    · rw [if_pos hk]
      by_cases hr : r = k
      · rw [if_pos hr, asc_key (by rw [hr, hk]; exact h.1)]
      · rw [if_neg hr, asc, if_neg (by rw [← hk]; exact hr)]
    · rw [if_neg hk]
      unfold asc
      by_cases hp : r = p.1
      · rw [if_pos hp, if_pos hp, if_neg (by rw [hp]; exact fun e => hk e.symm)]
      · rw [if_neg hp, if_neg hp, asc_dropK h.2]
open Classical in
/-- What Needs gathers: closed, and no more than it must be. -/
theorem NeedR.spec {M : List (ByteArray × Nd)} {A L out : List ByteArray} (h : NeedR M A L out) : ∀ (M0 : List (ByteArray × Nd)), (M.map (·.1)).Nodup → (∀ r, asc r M = if r ∈ L then none else asc r M0) → L.Nodup →
    (∀ r ∈ L, r ∈ out) ∧ out.Nodup ∧ (∀ a ∈ A, asc a M0 ≠ none → a ∈ out) ∧ (∀ s ∈ out, s ∉ L → ∀ x, asc s M0 = some x → ∀ r ∈ inpN x, asc r M0 ≠ none → r ∈ out) ∧ (∀ s ∈ out, s ∈ L ∨ asc s M0 ≠ none) ∧
    (∀ P : ByteArray → Prop, (∀ a ∈ A, asc a M0 ≠ none → P a) → (∀ s ∈ L, P s) → (∀ s x, P s → asc s M0 = some x → ∀ r ∈ inpN x, asc r M0 ≠ none → P r) → ∀ s ∈ out, P s) := by
  induction h with
  | done M L =>
    intro M0 _ _ hn
    exact ⟨fun r h => h, hn, (fun a h => by cases h), fun s hs hns => absurd hs hns, fun s hs => .inl hs, fun P _ hL _ => hL⟩
  | @miss M A L out r hr _ ih =>
    intro M0 hk hM hn
    obtain ⟨g1, g2, g3, g4, g5, g6⟩ := ih M0 hk hM hn
    have hrL : asc r M0 ≠ none → r ∈ L := fun h => Classical.byContradiction fun hc => by
      have := hM r
      rw [hr, if_neg hc] at this
      exact h this.symm
    refine ⟨g1, g2, fun a ha h0 => ?_, g4, g5, fun P hA hL hP => g6 P (fun a ha => hA a (List.mem_append.2 (.inl ha))) hL hP⟩
    rcases List.mem_append.1 ha with ha | ha
    · exact g3 a ha h0
    · rw [List.mem_singleton.1 ha] at h0 ⊢
      exact g1 r (hrL h0)
  | @hit M A L out r x hr _ ih =>
    intro M0 hk hM hn
    have hrL : r ∉ L := fun hc => by
      have := hM r
      rw [hr, if_pos hc] at this
      cases this
    have hx0 : asc r M0 = some x := by
      have := hM r
      rw [hr, if_neg hrL] at this
      exact this.symm
    obtain ⟨g1, g2, g3, g4, g5, g6⟩ := ih M0 (hk.sublist ((dropK_sublist r M).map _)) (fun s => by
      rw [asc_dropK hk]
      by_cases e : s = r
      · rw [if_pos e, if_pos (by rw [e]; simp)]
      · rw [if_neg e, hM s]
        by_cases hs : s ∈ L
        · rw [if_pos hs, if_pos (List.mem_append.2 (.inl hs))]
        · rw [if_neg hs, if_neg]
          intro hc
          rcases List.mem_append.1 hc with hc | hc
          · exact hs hc
          · exact e (List.mem_singleton.1 hc)) (List.nodup_append.2 ⟨hn, by simp, fun a ha b hb e => by
        rw [List.mem_singleton.1 hb] at e
        exact hrL (e ▸ ha)⟩)
    have hro : r ∈ out := g1 r (by simp)
    refine ⟨fun s hs => g1 s (List.mem_append.2 (.inl hs)), g2, fun a ha h0 => ?_, fun s hs hns y hy t ht h0 => ?_, fun s hs => ?_, fun P hA hL hP => ?_⟩
    · rcases List.mem_append.1 ha with ha | ha
      · exact g3 a (List.mem_append.2 (.inl ha)) h0
      · rw [List.mem_singleton.1 ha]; exact hro
    · by_cases e : s = r
      · rw [e, hx0] at hy
        injection hy with hy
        subst hy
        exact g3 t (List.mem_append.2 (.inr ht)) h0
      · refine g4 s hs (fun hc => ?_) y hy t ht h0
        rcases List.mem_append.1 hc with hc | hc
        · exact hns hc
        · exact e (List.mem_singleton.1 hc)
    · rcases g5 s hs with h | h
      · rcases List.mem_append.1 h with h | h
        · exact .inl h
        · rw [List.mem_singleton.1 h, hx0]
          exact .inr (by intro e; cases e)
      · exact .inr h
    · have hPr : P r := hA r (by simp) (by rw [hx0]; intro e; cases e)
      refine g6 P (fun a ha h0 => ?_) (fun s hs => ?_) hP
      · rcases List.mem_append.1 ha with ha | ha
        · exact hA a (List.mem_append.2 (.inl ha)) h0
        · exact hP r x hPr hx0 a ha h0
      · rcases List.mem_append.1 hs with hs | hs
        · exact hL s hs
        · rw [List.mem_singleton.1 hs]; exact hPr
/-- A node's ref. -/
def IsR (l : List Nd) (r : ByteArray) : Prop := ∃ x ∈ l, x.ref = r
theorem asc_is {l : List Nd} (hd : (l.map (·.ref)).Nodup) {r : ByteArray} : asc r (byN l) ≠ none ↔ IsR l r := by
  rw [byN_of_nodup hd]
  constructor
  · intro h
    cases e : asc r (l.map fun x => (x.ref, x)) with
    | none => exact absurd e h
    | some x =>
      obtain ⟨y, hy, e2⟩ := List.mem_map.1 (asc_mem e)
      exact ⟨y, hy, congrArg Prod.fst e2⟩
  · rintro ⟨x, hx, rfl⟩ e
    have := asc_some_of (p := (x.ref, x)) (List.mem_map_of_mem (f := fun x : Nd => (x.ref, x)) hx)
    rw [e] at this
    cases this
/-- What Needs tells. -/
structure NdQ (l : List Nd) (ref : ByteArray) (out : List ByteArray) : Prop where
  nod : out.Nodup
  has : IsR l ref → ref ∈ out
  clo : ∀ s ∈ out, ∀ x ∈ l, x.ref = s → ∀ r ∈ inpN x, IsR l r → r ∈ out
  are : ∀ s ∈ out, IsR l s
  min : ∀ P : ByteArray → Prop, (IsR l ref → P ref) → (∀ x ∈ l, P x.ref → ∀ r ∈ inpN x, IsR l r → P r) → ∀ s ∈ out, P s
theorem nodup_perm : ∀ {a b : List ByteArray}, a.Nodup → b.Nodup → (∀ s, s ∈ a ↔ s ∈ b) → a.Perm b := by
  intro a b ha hb h
  exact (List.perm_ext_iff_of_nodup ha hb).2 h
open Classical in
/-- The nodes that are needed. -/
noncomputable def keptN (l : List Nd) (out : List ByteArray) : List Nd := l.filter fun x => decide (x.ref ∈ out)
end Go.Proofs.YtaffplmfnincfaaGreatDoor
