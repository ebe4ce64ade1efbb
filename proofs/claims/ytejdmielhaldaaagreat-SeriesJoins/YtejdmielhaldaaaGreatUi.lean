/- What the document's Map and Join come to: the same as the program's. -/
import Derived.Test.YtejdmielhaldaaaGreatUh
import Derived.Test.YtejdmielhaldaaaGreatOc
namespace Go.Proofs.YtejdmielhaldaaaGreat
set_option linter.unusedVariables false
open Go.RowKit
theorem num0_isV : IsV (num 0) := by unfold IsV num; simp
theorem doE_one_eq (op : ByteArray) {a b : Vl} (ha : IsV a) (hb : IsV b) : doE op [a] = doE op [b] := by
  unfold doE
  rw [chk_one ha, chk_one hb, if_pos rfl, if_pos rfl]
  simp only [ops, one_asc, Option.isSome_map]
theorem doE_two_eq (op : ByteArray) {a b c d : Vl} (ha : IsV a) (hb : IsV b) (hc : IsV c) (hd : IsV d) : doE op [a, b] = doE op [c, d] := by
  unfold doE
  rw [chk_two ha hb, chk_two hc hd, if_pos rfl, if_pos rfl]
  simp only [ops, two_asc, Option.isSome_map]
theorem doE_one_in (op : ByteArray) {a : Vl} (ha : IsV a) : doE op [a] = 0 ∨ doE op [a] = 2 := by
  unfold doE
  rw [chk_one ha, if_pos rfl]
  split
  · exact .inl rfl
  · exact .inr rfl
theorem doE_two_in (op : ByteArray) {a b : Vl} (ha : IsV a) (hb : IsV b) : doE op [a, b] = 0 ∨ doE op [a, b] = 2 := by
  unfold doE
  rw [chk_two ha hb, if_pos rfl]
  split
  · exact .inl rfl
  · exact .inr rfl
/-- What Map is. -/
def MapT (op : ByteArray) (A out : List Series10.Sr) (er : Int) : Prop :=
  (∃ p, Series10.SortQ A p 0 ∧ ((doE op [nul] = 0 ∧ out = mapF op p ∧ er = 0) ∨ (doE op [nul] ≠ 0 ∧ out = [] ∧ er = doE op [nul]))) ∨ (er ≠ 0 ∧ Series10.SortQ A [] er ∧ out = [])
theorem MapT.one {op : ByteArray} {A o1 o2 : List Series10.Sr} {e1 e2 : Int} (h : MapT op A o1 e1) (g : MapT op A o2 e2) : o1 = o2 ∧ e1 = e2 := by
  rcases h with ⟨p, hp, ⟨h0, rfl, rfl⟩ | ⟨h0, rfl, rfl⟩⟩ | ⟨h0, hp, rfl⟩ <;>
    rcases g with ⟨q, hq, ⟨g0, rfl, rfl⟩ | ⟨g0, rfl, rfl⟩⟩ | ⟨g0, hq, rfl⟩
  all_goals first
    | (obtain ⟨rfl, _⟩ := hp.one hq; exact ⟨rfl, rfl⟩)
    | exact ⟨rfl, rfl⟩
    | exact absurd g0 h0
    | exact absurd h0 g0
    | exact absurd (hp.one hq).2.symm g0
    | exact absurd (hp.one hq).2 h0
    | exact ⟨rfl, (hp.one hq).2⟩
theorem mapT_ex (op : ByteArray) (A : List Series10.Sr) : ∃ out er, MapT op A out er := by
  by_cases h : ∃ p, Series10.SortQ A p 0
  · obtain ⟨p, hp⟩ := h
    by_cases h0 : doE op [nul] = 0
    · exact ⟨_, _, .inl ⟨p, hp, .inl ⟨h0, rfl, rfl⟩⟩⟩
    · exact ⟨_, _, .inl ⟨p, hp, .inr ⟨h0, rfl, rfl⟩⟩⟩
  · obtain ⟨er, h0, hq⟩ := sort_er h
    exact ⟨_, er, .inr ⟨h0, hq, rfl⟩⟩
theorem sortQ_ex (A : List Series10.Sr) : ∃ out er, Series10.SortQ A out er := by
  by_cases h : ∃ p, Series10.SortQ A p 0
  · obtain ⟨p, hp⟩ := h
    exact ⟨p, 0, hp⟩
  · obtain ⟨er, h0, hq⟩ := sort_er h
    exact ⟨_, er, hq⟩
theorem joinT_ex (op : ByteArray) (A B : List Series10.Sr) : ∃ out er, JoinT op A B out er := by
  by_cases h : ∃ p, Series10.SortQ A p 0
  · obtain ⟨p, hp⟩ := h
    by_cases g : ∃ q, Series10.SortQ B q 0
    · obtain ⟨q, hq⟩ := g
      by_cases h0 : doE op [nul, nul] = 0
      · obtain ⟨out, er, ho⟩ := sortQ_ex (joinA op p q)
        exact ⟨out, er, .inl ⟨p, hp, .inl ⟨q, hq, .inr ⟨h0, ho⟩⟩⟩⟩
      · exact ⟨_, _, .inl ⟨p, hp, .inl ⟨q, hq, .inl ⟨h0, rfl, rfl⟩⟩⟩⟩
    · obtain ⟨er, h0, hq⟩ := sort_er g
      exact ⟨_, er, .inl ⟨p, hp, .inr ⟨h0, hq, rfl⟩⟩⟩
  · obtain ⟨er, h0, hq⟩ := sort_er h
    exact ⟨_, er, .inr ⟨h0, hq, rfl⟩⟩
theorem within_to {a b : List Lb} (ha : IsSet a) (hb : IsSet b) (h : Series10.Within a b) : withinB a b = true := by
  unfold withinB
  rw [List.all_eq_true]
  intro x hx
  rw [(Series10.within_iff ha hb).1 h x hx]
  simp
/-- The document's two questions are the program's one. -/
theorem fit_or {a b : List Lb} (ha : IsSet a) (hb : IsSet b) : fitB a b = (withinB a b || withinB b a) := by
  unfold fitB
  by_cases hc : b.length < a.length
  · rw [if_pos hc]
    have : withinB a b = false := by
      cases h : withinB a b with
      | false => rfl
      | true =>
        have := Series10.within_len ha (within_of ha hb h)
        omega
    rw [this, Bool.false_or]
  · rw [if_neg hc]
    cases h : withinB b a with
    | false => rw [Bool.or_false]
    | true =>
      rw [Bool.or_true]
      have h1 := within_of hb ha h
      have h2 := Series10.within_eq hb ha h1 (by omega)
      subst h2
      exact h
/-- The longer one, as the document takes it. -/
def longer (a b : List Lb) : List Lb := if a.length < b.length then b else a
theorem longer_bigger {a b : List Lb} (ha : IsSet a) (hb : IsSet b) (h : fitB a b = true) : longer a b = bigger a b := by
  unfold longer bigger
  by_cases h1 : a.length < b.length
  · rw [if_pos h1, if_neg (by omega)]
  · rw [if_neg h1]
    by_cases h2 : b.length < a.length
    · rw [if_pos h2]
    · rw [if_neg h2]
      unfold fitB at h
      rw [if_neg h2] at h
      exact Series10.within_eq ha hb (within_of ha hb h) (by omega)
end Go.Proofs.YtejdmielhaldaaaGreat
