/- Needs: mathematics. -/
import Derived.Test.YtaffplmfnincfaaGreatDoorPa
namespace Go.Proofs.YtaffplmfnincfaaGreatDoor
set_option linter.unusedVariables false
open Go.RowKit
theorem asc_key {β : Type} {r : ByteArray} {l : List (ByteArray × β)} (h : r ∉ l.map (·.1)) : asc r l = none := by
  cases e : asc r l with
  | none => rfl
  | some x => exact absurd (List.mem_map_of_mem (f := (·.1)) (asc_mem e)) h
theorem dropK_sublist {β : Type} (k : ByteArray) : ∀ (M : List (ByteArray × β)), List.Sublist (dropK k M) M
  | [] => List.Sublist.refl _
  | p :: M => by
    unfold dropK
    by_cases h : k = p.1
    · rw [if_pos h]; exact List.sublist_cons_self p M
    · rw [if_neg h]; exact (dropK_sublist k M).cons_cons p
theorem asc_dropK {β : Type} {k r : ByteArray} : ∀ {M : List (ByteArray × β)}, (M.map (·.1)).Nodup → asc r (dropK k M) = if r = k then none else asc r M
  | [], _ => by simp [dropK, asc]
  | p :: M, h => by
    rw [List.map_cons, List.nodup_cons] at h
    unfold dropK
    by_cases hk : k = p.1
    · rw [if_pos hk]
      by_cases hr : r = k
      · rw [if_pos hr, asc_key (by rw [hr, hk]; exact h.1)]
      · rw [if_neg hr, asc, if_neg (by rw [← hk]; exact hr)]
    · rw [if_neg hk]
      unfold asc
      by_cases hp : r = p.1
      · rw [if_pos hp, if_pos hp, if_neg (by rw [hp]; exact fun e => hk e.symm)]
      · rw [if_neg hp, if_neg hp, asc_dropK h.2]
open Classical in
/-- What Needs gathers: closed, and no more than it must be. -/
theorem NeedR.spec {M : List (ByteArray × Nd)} {A L out : List ByteArray} (h : NeedR M A L out) : ∀ (M0 : List (ByteArray × Nd)), (M.map (·.1)).Nodup → (∀ r, asc r M = if r ∈ L then none else asc r M0) → L.Nodup →
    (∀ r ∈ L, r ∈ out) ∧ out.Nodup ∧ (∀ a ∈ A, asc a M0 ≠ none → a ∈ out) ∧ (∀ s ∈ out, s ∉ L → ∀ x, asc s M0 = some x → ∀ r ∈ inpN x, asc r M0 ≠ none → r ∈ out) ∧ (∀ s ∈ out, s ∈ L ∨ asc s M0 ≠ none) ∧
    (∀ P : ByteArray → Prop, (∀ a ∈ A, asc a M0 ≠ none → P a) → (∀ s ∈ L, P s) → (∀ s x, P s → asc s M0 = some x → ∀ r ∈ inpN x, asc r M0 ≠ none → P r) → ∀ s ∈ out, P s) := by
  induction h with
  | done M L =>
    intro M0 _ _ hn
    exact ⟨fun r h => h, hn, (fun a h => by cases h), fun s hs hns => absurd hs hns, fun s hs => .inl hs, fun P _ hL _ => hL⟩
  | @miss M A L out r hr _ ih =>
    intro M0 hk hM hn
    obtain ⟨g1, g2, g3, g4, g5, g6⟩ := ih M0 hk hM hn
    have hrL : asc r M0 ≠ none → r ∈ L := fun h => Classical.byContradiction fun hc => by
      have := hM r
      rw [hr, if_neg hc] at this
      exact h this.symm
    refine ⟨g1, g2, fun a ha h0 => ?_, g4, g5, fun P hA hL hP => g6 P (fun a ha => hA a (List.mem_append.2 (.inl ha))) hL hP⟩
    rcases List.mem_append.1 ha with ha | ha
    · exact g3 a ha h0
    · rw [List.mem_singleton.1 ha] at h0 ⊢
      exact g1 r (hrL h0)
  | @hit M A L out r x hr _ ih =>
    intro M0 hk hM hn
    have hrL : r ∉ L := fun hc => by
      have := hM r
      rw [hr, if_pos hc] at this
      cases this
    have hx0 : asc r M0 = some x := by
      have := hM r
      rw [hr, if_neg hrL] at this
      exact this.symm
    obtain ⟨g1, g2, g3, g4, g5, g6⟩ := ih M0 (hk.sublist ((dropK_sublist r M).map _)) (fun s => by
      rw [asc_dropK hk]
      by_cases e : s = r
      · rw [if_pos e, if_pos (by rw [e]; simp)]
      · rw [if_neg e, hM s]
        by_cases hs : s ∈ L
        · rw [if_pos hs, if_pos (List.mem_append.2 (.inl hs))]
        · rw [if_neg hs, if_neg]
          intro hc
          rcases List.mem_append.1 hc with hc | hc
          · exact hs hc
          · exact e (List.mem_singleton.1 hc)) (List.nodup_append.2 ⟨hn, by simp, fun a ha b hb e => by
        rw [List.mem_singleton.1 hb] at e
        exact hrL (e ▸ ha)⟩)
    have hro : r ∈ out := g1 r (by simp)
    refine ⟨fun s hs => g1 s (List.mem_append.2 (.inl hs)), g2, fun a ha h0 => ?_, fun s hs hns y hy t ht h0 => ?_, fun s hs => ?_, fun P hA hL hP => ?_⟩
    · rcases List.mem_append.1 ha with ha | ha
      · exact g3 a (List.mem_append.2 (.inl ha)) h0
      · rw [List.mem_singleton.1 ha]; exact hro
    · by_cases e : s = r
      · rw [e, hx0] at hy
        injection hy with hy
        subst hy
        exact g3 t (List.mem_append.2 (.inr ht)) h0
      · refine g4 s hs (fun hc => ?_) y hy t ht h0
        rcases List.mem_append.1 hc with hc | hc
        · exact hns hc
        · exact e (List.mem_singleton.1 hc)
    · rcases g5 s hs with h | h
      · rcases List.mem_append.1 h with h | h
        · exact .inl h
        · rw [List.mem_singleton.1 h, hx0]
          exact .inr (by intro e; cases e)
      · exact .inr h
    · have hPr : P r := hA r (by simp) (by rw [hx0]; intro e; cases e)
      refine g6 P (fun a ha h0 => ?_) (fun s hs => ?_) hP
      · rcases List.mem_append.1 ha with ha | ha
        · exact hA a (List.mem_append.2 (.inl ha)) h0
        · exact hP r x hPr hx0 a ha h0
      · rcases List.mem_append.1 hs with hs | hs
        · exact hL s hs
        · rw [List.mem_singleton.1 hs]; exact hPr
/-- A node's ref. -/
def IsR (l : List Nd) (r : ByteArray) : Prop := ∃ x ∈ l, x.ref = r
theorem asc_is {l : List Nd} (hd : (l.map (·.ref)).Nodup) {r : ByteArray} : asc r (byN l) ≠ none ↔ IsR l r := by
  rw [byN_of_nodup hd]
  constructor
  · intro h
    cases e : asc r (l.map fun x => (x.ref, x)) with
    | none => exact absurd e h
    | some x =>
      obtain ⟨y, hy, e2⟩ := List.mem_map.1 (asc_mem e)
      exact ⟨y, hy, congrArg Prod.fst e2⟩
  · rintro ⟨x, hx, rfl⟩ e
    have := asc_some_of (p := (x.ref, x)) (List.mem_map_of_mem (f := fun x : Nd => (x.ref, x)) hx)
    rw [e] at this
    cases this
theorem ref_inj : ∀ {l : List Nd}, (l.map (·.ref)).Nodup → ∀ {x y : Nd}, x ∈ l → y ∈ l → x.ref = y.ref → x = y
  | [], _, _, _, h, _, _ => by cases h
  | a :: l, hd, x, y, hx, hy, e => by
    rw [List.map_cons, List.nodup_cons] at hd
    rcases List.mem_cons.1 hx with hx | hx
    · rcases List.mem_cons.1 hy with hy | hy
      · rw [hx, hy]
      · exact absurd (by rw [← hx, e]; exact List.mem_map_of_mem hy) hd.1
    · rcases List.mem_cons.1 hy with hy | hy
      · exact absurd (by rw [← hy, ← e]; exact List.mem_map_of_mem hx) hd.1
      · exact ref_inj hd.2 hx hy e
theorem asc_get {l : List Nd} (hd : (l.map (·.ref)).Nodup) {x : Nd} (hx : x ∈ l) : asc x.ref (byN l) = some x := by
  rw [byN_of_nodup hd]
  cases e : asc x.ref (l.map fun x => (x.ref, x)) with
  | none => exact absurd e ((by have := (asc_is hd (r := x.ref)).2 ⟨x, hx, rfl⟩; rwa [byN_of_nodup hd] at this))
  | some y =>
    obtain ⟨z, hz, e2⟩ := List.mem_map.1 (asc_mem e)
    have e3 : z.ref = x.ref := congrArg Prod.fst e2
    have e4 : z = y := congrArg Prod.snd e2
    have : z = x := ref_inj hd hz hx e3
    rw [← e4, this]
theorem asc_mem_get {l : List Nd} (hd : (l.map (·.ref)).Nodup) {r : ByteArray} {x : Nd} (h : asc r (byN l) = some x) : x ∈ l ∧ x.ref = r := by
  obtain ⟨h1, h2⟩ := byN_mem (asc_mem h)
  exact ⟨h1, h2.symm⟩
/-- What Needs tells. -/
structure NdQ (l : List Nd) (ref : ByteArray) (out : List ByteArray) : Prop where
  nod : out.Nodup
  has : IsR l ref → ref ∈ out
  clo : ∀ s ∈ out, ∀ x ∈ l, x.ref = s → ∀ r ∈ inpN x, IsR l r → r ∈ out
  are : ∀ s ∈ out, IsR l s
  min : ∀ P : ByteArray → Prop, (IsR l ref → P ref) → (∀ x ∈ l, P x.ref → ∀ r ∈ inpN x, IsR l r → P r) → ∀ s ∈ out, P s
theorem NeedR.q {l : List Nd} {ref : ByteArray} {out : List ByteArray} (hd : (l.map (·.ref)).Nodup) (h : NeedR (byN l) [ref] [] out) : NdQ l ref out := by
  obtain ⟨g1, g2, g3, g4, g5, g6⟩ := h.spec (byN l) (by rw [byN_of_nodup hd, List.map_map]; exact hd) (fun r => by rw [if_neg (by simp)]) (by simp)
  refine ⟨g2, fun h => g3 ref (by simp) ((asc_is hd).2 h), fun s hs x hx e r hr hi => g4 s hs (by simp) x (by rw [← e]; exact asc_get hd hx) r hr ((asc_is hd).2 hi), fun s hs => ?_, fun P h1 h2 => ?_⟩
  · rcases g5 s hs with h | h
    · cases h
    · exact (asc_is hd).1 h
  · refine g6 P (fun a ha h0 => ?_) (fun s hs => by cases hs) (fun s x hs hx r hr h0 => ?_)
    · rw [List.mem_singleton.1 ha] at h0 ⊢
      exact h1 ((asc_is hd).1 h0)
    · obtain ⟨hxl, rfl⟩ := asc_mem_get hd hx
      exact h2 x hxl hs r hr ((asc_is hd).1 h0)
/-- Check tells OK. -/
theorem chk_ok {c : ByteArray} {l : List Nd} (h : chkN c l = 0) : l.length ≤ 16 ∧ (∀ x ∈ l, mayB x = true) ∧ (l.map (·.ref)).Nodup ∧ (∀ x ∈ l, ∀ r ∈ inpN x, IsR l r) ∧ IsR l c ∧ ordE l = 0 := by
  unfold chkN at h
  split at h
  · omega
  · rename_i h1
    split at h
    · omega
    · rename_i h2
      split at h
      · omega
      · rename_i h3
        have hd := Classical.not_not.1 h3
        split at h
        · omega
        · rename_i h4
          split at h
          · omega
          · rename_i h5
            have ht : thB (byN l) (allI l ++ [c]) = true := by simpa using h4
            unfold thB at ht
            rw [List.all_eq_true] at ht
            have hi : ∀ r, r ∈ allI l ++ [c] → IsR l r := fun r hr => (asc_is hd).1 (by
              have := ht r hr
              intro e
              rw [e] at this
              cases this)
            refine ⟨by omega, fun x hx => ?_, hd, fun x hx r hr => hi r (List.mem_append.2 (.inl (List.mem_flatMap.2 ⟨x, hx, hr⟩))), hi c (by simp), ?_⟩
            · have h6 : l.any (fun x => !mayB x) = false := by simpa using h2
              have := List.any_eq_false.1 h6 x hx
              simpa using this
            · rw [ordE_d hd, if_neg h5]
theorem chk_is {c : ByteArray} {l : List Nd} (h1 : l.length ≤ 16) (h2 : ∀ x ∈ l, mayB x = true) (hd : (l.map (·.ref)).Nodup) (h3 : ∀ x ∈ l, ∀ r ∈ inpN x, IsR l r) (h4 : IsR l c) (h5 : ordE l = 0) : chkN c l = 0 := by
  unfold chkN
  have h6 : l.any (fun x => !mayB x) = false := List.any_eq_false.2 fun x hx => by rw [h2 x hx]; decide
  have ht : thB (byN l) (allI l ++ [c]) = true := by
    unfold thB
    rw [List.all_eq_true]
    intro r hr
    have hr2 : IsR l r := by
      rcases List.mem_append.1 hr with hr | hr
      · obtain ⟨x, hx, hxr⟩ := List.mem_flatMap.1 hr
        exact h3 x hx r hxr
      · rw [List.mem_singleton.1 hr]; exact h4
    have := (asc_is hd).2 hr2
    cases e : asc r (byN l) with
    | none => exact absurd e this
    | some y => rfl
  rw [if_neg (by omega), if_neg (by rw [h6]; decide), if_neg (fun h => h hd), if_neg (by rw [ht]; decide), if_neg]
  intro e
  rw [ordE_d hd, if_pos e] at h5
  omega
/-- An order is there where each hangs on lesser ones. -/
theorem ordE_rank {l : List Nd} (f : ByteArray → Nat) (hd : (l.map (·.ref)).Nodup) (h : ∀ x ∈ l, ∀ r ∈ inpN x, f r < f x.ref ∧ IsR l r) : ordE l = 0 := by
  obtain ⟨r, hr⟩ := ordT_ex hd
  rw [ordE_d hd, ordN_is hr]
  obtain ⟨L, p, hs, e⟩ := hr
  obtain ⟨out, ho⟩ := ordF_rank f L.length (L := L) (T := []) rfl fun s hs2 t ht => by
    obtain ⟨x, hx, e2⟩ := List.mem_map.1 (p.subset hs2)
    subst e2
    obtain ⟨g1, y, hy, g2⟩ := h x hx t ht
    exact ⟨g1, .inr ⟨sqN y, p.symm.subset (List.mem_map_of_mem hy), g2⟩⟩
  rw [e, ho, if_neg (by intro e; cases e)]
theorem nodup_perm : ∀ {a b : List ByteArray}, a.Nodup → b.Nodup → (∀ s, s ∈ a ↔ s ∈ b) → a.Perm b := by
  intro a b ha hb h
  exact (List.perm_ext_iff_of_nodup ha hb).2 h
open Classical in
/-- The nodes that are needed. -/
noncomputable def keptN (l : List Nd) (out : List ByteArray) : List Nd := l.filter fun x => decide (x.ref ∈ out)
theorem kept_mem {l : List Nd} {out : List ByteArray} {x : Nd} : x ∈ keptN l out ↔ x ∈ l ∧ x.ref ∈ out := by
  unfold keptN
  rw [List.mem_filter]
  simp
theorem kept_all {c : ByteArray} {l : List Nd} {out : List ByteArray} (h : chkN c l = 0) (q : NdQ l c out) : (keptN l out).length = out.length ∧ chkN c (keptN l out) = 0 ∧ ∀ out', NdQ (keptN l out) c out' → out'.Perm out := by
  obtain ⟨h1, h2, hd, h3, h4, h5⟩ := chk_ok h
  have hsub : ∀ x ∈ keptN l out, x ∈ l := fun x hx => (kept_mem.1 hx).1
  have hkd : ((keptN l out).map (·.ref)).Nodup := hd.sublist (List.Sublist.map _ List.filter_sublist)
  have hkr : ∀ s, IsR (keptN l out) s ↔ s ∈ out := fun s => by
    constructor
    · rintro ⟨x, hx, rfl⟩; exact (kept_mem.1 hx).2
    · intro hs
      obtain ⟨x, hx, e⟩ := q.are s hs
      exact ⟨x, kept_mem.2 ⟨hx, by rw [e]; exact hs⟩, e⟩
  have hin : ∀ x ∈ keptN l out, ∀ r ∈ inpN x, r ∈ out := fun x hx r hr => q.clo x.ref (kept_mem.1 hx).2 x (hsub x hx) rfl r hr (h3 x (hsub x hx) r hr)
  have hp : ((keptN l out).map (·.ref)).Perm out := nodup_perm hkd q.nod fun s => by
    rw [← hkr s]
    constructor
    · intro hs
      obtain ⟨x, hx, e⟩ := List.mem_map.1 hs
      exact ⟨x, hx, e⟩
    · rintro ⟨x, hx, rfl⟩
      exact List.mem_map_of_mem hx
  refine ⟨by have := hp.length_eq; simpa using this, ?_, fun out' q' => ?_⟩
  · refine chk_is (by have := List.length_filter_le (fun x => @decide (x.ref ∈ out) (Classical.propDecidable _)) l; unfold keptN; omega) (fun x hx => h2 x (hsub x hx)) hkd (fun x hx r hr => (hkr r).2 (hin x hx r hr)) ((hkr c).2 (q.has h4)) ?_
    refine ordE_rank (fun r => (plc (ordL l) r).toNat) hkd fun x hx r hr => ⟨?_, (hkr r).2 (hin x hx r hr)⟩
    have := (ordL_ahead h5).2.2 x (hsub x hx) r hr
    omega
  · refine nodup_perm q'.nod q.nod fun s => ⟨fun hs => (hkr s).1 (q'.are s hs), fun hs => ?_⟩
    refine q.min (fun s => s ∈ out ∧ s ∈ out') (fun hc => ⟨q.has hc, q'.has ((hkr c).2 (q.has hc))⟩) (fun x hx ⟨g1, g2⟩ r hr hi => ?_) s hs |>.2
    have hxk : x ∈ keptN l out := kept_mem.2 ⟨hx, g1⟩
    have hro := hin x hxk r hr
    exact ⟨hro, q'.clo x.ref g2 x hxk rfl r hr ((hkr r).2 hro)⟩
end Go.Proofs.YtaffplmfnincfaaGreatDoor
