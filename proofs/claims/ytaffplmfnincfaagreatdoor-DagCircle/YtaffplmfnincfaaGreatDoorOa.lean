/- Order: mathematics. -/
import Derived.Test.YtaffplmfnincfaaGreatDoorLmLk
namespace Go.Proofs.YtaffplmfnincfaaGreatDoor
set_option linter.unusedVariables false
/-- A step: a ref, and what must be told ahead of it. -/
abbrev Sq := ByteArray × List ByteArray
/-- One text ahead of another. -/
def bltS (a b : ByteArray) : Prop := cmpL (numsS a) (numsS b) = -1
theorem bltS.trans {a b c : ByteArray} (h : bltS a b) (g : bltS b c) : bltS a c := cmpL_trans h g
theorem bltS.ne {a b : ByteArray} (h : bltS a b) : a ≠ b := fun e => by
  unfold bltS at h
  rw [e, cmpL_self] at h
  omega
theorem bltS.asymm {a b : ByteArray} (h : bltS a b) : ¬ bltS b a := fun g => (h.trans g).ne rfl
theorem bltS_total {a b : ByteArray} (h : a ≠ b) : bltS a b ∨ bltS b a := by
  unfold bltS
  rcases cmpL_in (numsS a) (numsS b) with e | e | e
  · exact .inl e
  · exact absurd (numsS_inj (cmpL_eq e)) h
  · refine .inr ?_
    rw [cmpL_neg, e]
def SRise (l : List Sq) : Prop := l.Pairwise fun a b => bltS a.1 b.1
theorem srise_eq : ∀ {l m : List Sq}, SRise l → SRise m → l.Perm m → l = m
  | [], m, _, _, p => by rw [List.nil_perm.1 p]
  | x :: l, [], _, _, p => by have := List.perm_nil.1 p; cases this
  | x :: l, y :: m, hl, hm, p => by
    have hx := List.pairwise_cons.1 hl
    have hy := List.pairwise_cons.1 hm
    have e : x = y := by
      rcases List.mem_cons.1 (p.subset List.mem_cons_self) with h | h
      · exact h
      · rcases List.mem_cons.1 (p.symm.subset List.mem_cons_self) with g | g
        · exact g.symm
        · exact absurd (hx.1 y g) (hy.1 x h).asymm
    subst e
    rw [srise_eq hx.2 hy.2 ((List.perm_cons x).1 p)]
/-- All that must be told ahead is told. -/
theorem inB_iff {T : List ByteArray} {r : ByteArray} : inB T r = true ↔ r ∈ T := by
  unfold inB
  simp
def rdy (T : List ByteArray) (s : Sq) : Bool := s.2.all fun r => inB T r
/-- What comes of the steps that are left. -/
def ordF : Nat → List Sq → List ByteArray → Option (List ByteArray)
  | 0, _, T => some T
  | n + 1, L, T => match L.find? (rdy T) with
    | none => none
    | some s => ordF n (L.eraseP (rdy T)) (T ++ [s.1])
theorem ordF_nil (T : List ByteArray) : ordF 0 [] T = some T := rfl
theorem findS_at {T : List ByteArray} : ∀ {A B : List Sq} {s : Sq}, (∀ x ∈ A, rdy T x = false) → rdy T s = true → (A ++ s :: B).find? (rdy T) = some s ∧ (A ++ s :: B).eraseP (rdy T) = A ++ B
  | [], B, s, _, hs => by simp [hs]
  | x :: A, B, s, hA, hs => by
    have h0 := hA x List.mem_cons_self
    obtain ⟨h1, h2⟩ := findS_at (B := B) (fun y hy => hA y (List.mem_cons_of_mem _ hy)) hs
    refine ⟨?_, ?_⟩
    · rw [List.cons_append, List.find?_cons_of_neg (by simp [h0]), h1]
    · rw [List.cons_append, List.eraseP_cons_of_neg (by simp [h0]), h2]; rfl
theorem ordF_step {A B : List Sq} {s : Sq} {T : List ByteArray} (hA : ∀ x ∈ A, rdy T x = false) (hs : rdy T s = true) : ordF (A ++ s :: B).length (A ++ s :: B) T = ordF (A ++ B).length (A ++ B) (T ++ [s.1]) := by
  obtain ⟨h1, h2⟩ := findS_at (B := B) hA hs
  rw [show (A ++ s :: B).length = (A ++ B).length + 1 by simp; omega]
  rw [ordF, h1, h2]
theorem ordF_stuck {L : List Sq} {T : List ByteArray} (h0 : L ≠ []) (h : ∀ x ∈ L, rdy T x = false) : ordF L.length L T = none := by
  obtain ⟨n, hn⟩ : ∃ n, L.length = n + 1 := ⟨L.length - 1, by have := List.length_pos_iff.2 h0; omega⟩
  rw [hn, ordF, List.find?_eq_none.2 (fun x hx => by simp [h x hx])]
/-- One of them is found. -/
theorem split_find {T : List ByteArray} : ∀ {L : List Sq}, (∀ x ∈ L, rdy T x = false) ∨ ∃ A s B, L = A ++ s :: B ∧ (∀ x ∈ A, rdy T x = false) ∧ rdy T s = true
  | [] => .inl fun x h => by cases h
  | x :: L => by
    cases hx : rdy T x with
    | true => exact .inr ⟨[], x, L, rfl, (fun y h => by cases h), hx⟩
    | false =>
      rcases split_find (L := L) with h | ⟨A, s, B, e, hA, hs⟩
      · refine .inl fun y hy => ?_
        rcases List.mem_cons.1 hy with rfl | hy
        · exact hx
        · exact h y hy
      · refine .inr ⟨x :: A, s, B, by rw [e]; rfl, fun y hy => ?_, hs⟩
        rcases List.mem_cons.1 hy with rfl | hy
        · exact hx
        · exact hA y hy
/-- What is told: all of them, each behind all that it hangs on. -/
theorem ordF_some : ∀ (n : Nat) {L : List Sq} {T out : List ByteArray}, L.length = n → ordF n L T = some out → ∃ S, out = T ++ S ∧ S.Perm (L.map (·.1)) ∧ ∀ s ∈ L, ∃ P Q, out = P ++ s.1 :: Q ∧ ∀ r ∈ s.2, r ∈ P
  | 0, L, T, out, hn, h => by
    have hL : L = [] := List.length_eq_zero_iff.1 hn
    subst hL
    rw [ordF] at h
    injection h with h
    subst h
    exact ⟨[], by simp, List.Perm.refl _, fun s hs => by cases hs⟩
  | n + 1, L, T, out, hn, h => by
    rcases split_find (T := T) (L := L) with h1 | ⟨A, s, B, e, hA, hs⟩
    · rw [← hn, ordF_stuck (fun e => by rw [e] at hn; cases hn) h1] at h
      cases h
    · subst e
      rw [← hn, ordF_step hA hs] at h
      have hl : (A ++ B).length = n := by simp at hn ⊢; omega
      rw [hl] at h
      obtain ⟨S, e, p, g⟩ := ordF_some n hl h
      refine ⟨s.1 :: S, by rw [e]; simp, ?_, ?_⟩
      · have p2 : (s.1 :: S).Perm (s.1 :: ((A ++ B).map (·.1))) := p.cons _
        refine p2.trans ?_
        simp only [List.map_append, List.map_cons]
        exact List.perm_middle.symm
      · intro x hx
        rcases List.mem_append.1 hx with hx | hx
        · exact g x (List.mem_append.2 (.inl hx))
        · rcases List.mem_cons.1 hx with rfl | hx
          · refine ⟨T, S, by rw [e]; simp, fun r hr => ?_⟩
            have := List.all_eq_true.1 hs r hr
            exact inB_iff.1 this
          · exact g x (List.mem_append.2 (.inr hx))
/-- A circle: none of these is ever told. -/
theorem ordF_none : ∀ (n : Nat) {L : List Sq} {T : List ByteArray} (C : ByteArray → Prop), L.length = n → (∃ s ∈ L, C s.1) → (∀ s ∈ L, C s.1 → ∃ r ∈ s.2, C r) → (∀ r ∈ T, ¬ C r) → ordF n L T = none
  | 0, L, T, C, hn, ⟨s, hs, _⟩, _, _ => by
    have hL : L = [] := List.length_eq_zero_iff.1 hn
    subst hL
    cases hs
  | n + 1, L, T, C, hn, ⟨c, hc, hC⟩, hall, hT => by
    rcases split_find (T := T) (L := L) with h1 | ⟨A, s, B, e, hA, hs⟩
    · rw [← hn, ordF_stuck (fun e => by rw [e] at hn; cases hn) h1]
    · have hsC : ¬ C s.1 := fun h => by
        obtain ⟨r, hr, hCr⟩ := hall s (by rw [e]; simp) h
        have := List.all_eq_true.1 hs r hr
        exact hT r (inB_iff.1 this) hCr
      have hin : ∀ x ∈ A ++ B, x ∈ L := fun x hx => by
        rw [e]
        rcases List.mem_append.1 hx with h | h
        · exact List.mem_append.2 (.inl h)
        · exact List.mem_append.2 (.inr (List.mem_cons_of_mem _ h))
      have hcm : c ∈ A ++ B := by
        rw [e] at hc
        rcases List.mem_append.1 hc with h | h
        · exact List.mem_append.2 (.inl h)
        · rcases List.mem_cons.1 h with h | h
          · exact absurd (h ▸ hC) hsC
          · exact List.mem_append.2 (.inr h)
      subst e
      rw [← hn, ordF_step hA hs]
      refine ordF_none _ C rfl ⟨c, hcm, hC⟩ (fun x hx => hall x (hin x hx)) fun r hr => ?_
      rcases List.mem_append.1 hr with h | h
      · exact hT r h
      · rw [List.mem_singleton.1 h]; exact hsC
  termination_by n => n
  decreasing_by all_goals (simp at hn ⊢; omega)
/-- Where each hangs on lesser ones alone, there is an order. -/
theorem ordF_rank (f : ByteArray → Nat) : ∀ (n : Nat) {L : List Sq} {T : List ByteArray}, L.length = n → (∀ s ∈ L, ∀ r ∈ s.2, f r < f s.1 ∧ (r ∈ T ∨ ∃ x ∈ L, x.1 = r)) → ∃ out, ordF n L T = some out
  | 0, L, T, hn, _ => ⟨T, by rw [ordF]⟩
  | n + 1, L, T, hn, h => by
    rcases split_find (T := T) (L := L) with h1 | ⟨A, s, B, e, hA, hs⟩
    · exfalso
      have key : ∀ k, ∀ s ∈ L, f s.1 ≤ k → False := by
        intro k
        induction k with
        | zero =>
          intro s hs hk
          have := h1 s hs
          rw [rdy, List.all_eq_false] at this
          obtain ⟨r, hr, _⟩ := this
          have := (h s hs r hr).1
          omega
        | succ k ih =>
          intro s hs hk
          have := h1 s hs
          rw [rdy, List.all_eq_false] at this
          obtain ⟨r, hr, hnr⟩ := this
          obtain ⟨g1, g2⟩ := h s hs r hr
          rcases g2 with g2 | ⟨x, hx, hxr⟩
          · exact hnr (inB_iff.2 g2)
          · exact ih x hx (by rw [hxr]; omega)
      cases L with
      | nil => cases hn
      | cons s L => exact key (f s.1) s List.mem_cons_self (Nat.le_refl _)
    · subst e
      have hl : (A ++ B).length = n := by simp at hn ⊢; omega
      obtain ⟨out, ho⟩ := ordF_rank f n (L := A ++ B) (T := T ++ [s.1]) hl fun x hx r hr => by
        have hxL : x ∈ A ++ s :: B := by
          rcases List.mem_append.1 hx with h | h
          · exact List.mem_append.2 (.inl h)
          · exact List.mem_append.2 (.inr (List.mem_cons_of_mem _ h))
        obtain ⟨g1, g2⟩ := h x hxL r hr
        refine ⟨g1, ?_⟩
        rcases g2 with g2 | ⟨y, hy, hyr⟩
        · exact .inl (List.mem_append.2 (.inl g2))
        · rcases List.mem_append.1 hy with h | h
          · exact .inr ⟨y, List.mem_append.2 (.inl h), hyr⟩
          · rcases List.mem_cons.1 h with h | h
            · exact .inl (List.mem_append.2 (.inr (by rw [← hyr, h]; simp)))
            · exact .inr ⟨y, List.mem_append.2 (.inr h), hyr⟩
      exact ⟨out, by rw [← hn, ordF_step hA hs, hl, ho]⟩
end Go.Proofs.YtaffplmfnincfaaGreatDoor
