/- The order of labels; sorted lists: the mathematics of sorted, repeatsName, Compact. -/
import Derived.Test.YtiajafljgfpdcaaGreatSt
import Derived.Shelf.SlSortCmp.NoneTotal
namespace Go.Proofs.YtiajafljgfpdcaaGreat
set_option linter.unusedVariables false
open Go.RowKit Go.Sort
instance : Inhabited Lb := ⟨lb0⟩
theorem cmpB_trans {a b c : Lb} (h : cmpB a b = -1) (g : cmpB b c = -1) : cmpB a c = -1 := by
  unfold cmpB at *
  rcases cmpL_in (numsS a.name) (numsS b.name) with h1 | h1 | h1
  · rcases cmpL_in (numsS b.name) (numsS c.name) with h2 | h2 | h2
    · rw [cmpL_trans h1 h2]; rfl
    · rw [← cmpL_eq h2, h1]; rfl
    · rw [h2] at g; simp at g
  · have e := cmpL_eq h1
    rw [h1] at h
    simp at h
    rw [e]
    rcases cmpL_in (numsS b.name) (numsS c.name) with h2 | h2 | h2
    · rw [h2]; rfl
    · rw [h2] at g ⊢
      simp at g ⊢
      exact cmpL_trans h g
    · rw [h2] at g; simp at g
  · rw [h1] at h; simp at h
theorem lt_iff (x y : Lb) : ltOf cmpB x y = true ↔ cmpB x y = -1 := by
  unfold ltOf
  rw [decide_eq_true_eq]
  rcases cmpB_in x y with h | h | h <;> rw [h] <;> decide
theorem lt_no (x y : Lb) : ltOf cmpB x y = false ↔ cmpB x y ≠ -1 := by
  have := lt_iff x y
  cases h : ltOf cmpB x y <;> rw [h] at this <;> simp_all
theorem swo_lb : SWO (ltOf cmpB) where
  irrefl x := by rw [lt_no, cmpB_eq.2 rfl]; decide
  trans x y z h1 h2 := by rw [lt_iff] at *; exact cmpB_trans h1 h2
  ntrans x y z h1 h2 := by
    rw [lt_no] at *
    intro h
    rcases cmpB_in x y with a | a | a
    · exact h1 a
    · rw [cmpB_eq.1 a] at h; exact h2 h
    · have b : cmpB y x = -1 := by rw [cmpB_neg, a]
      exact h2 (cmpB_trans b h)
theorem lt_tot (x y : Lb) (h1 : ltOf cmpB x y = false) (h2 : ltOf cmpB y x = false) : x = y := by
  rw [lt_no] at *
  rw [cmpB_neg] at h2
  rcases cmpB_in x y with a | a | a
  · exact absurd a h1
  · exact cmpB_eq.1 a
  · rw [a] at h2; exact absurd rfl h2
/-- slices.SortFunc by compareLabel. -/
def sortL (l : List Lb) : List Lb := l.mergeSort fun x y => !(ltOf cmpB) y x
theorem sortL_perm (l : List Lb) : (sortL l).Perm l := List.mergeSort_perm _ _
/-- By rising labels, each as often as it is there. -/
def Srt (l : List Lb) : Prop := l.Pairwise fun x y => cmpB y x ≠ -1
theorem sortL_srt (l : List Lb) : Srt (sortL l) := by
  have h := List.pairwise_mergeSort (le := fun x y => !(ltOf cmpB) y x) (fun a b c h1 h2 => by
    simp only [Bool.not_eq_true', lt_no] at *
    intro h
    rcases cmpB_in b a with e | e | e
    · exact h1 e
    · rw [← cmpB_eq.1 e] at h; exact h2 h
    · have e2 : cmpB a b = -1 := by rw [cmpB_neg, e]
      exact h2 (cmpB_trans h e2)) (fun a b => by
    cases h : ltOf cmpB b a with
    | false => simp
    | true =>
      have : ltOf cmpB a b = false := by
        rw [lt_no]; rw [lt_iff, cmpB_neg] at h; omega
      simp [this]) l
  refine List.Pairwise.imp (fun {x y} hxy => ?_) h
  rw [← lt_no]; simpa using hxy
/-- Of neighbours the names are unlike. -/
def Nbr (l : List Lb) : Prop := ∀ j, j + 1 < l.length → (l.getD j lb0).name ≠ (l.getD (j + 1) lb0).name
theorem cmpB_name {x y : Lb} (h : cmpB y x ≠ -1) (hn : x.name ≠ y.name) : Nlt x y := by
  rcases nlt_total x y with a | a | a
  · exact a
  · exact absurd a hn
  · exfalso
    refine h ?_
    unfold Nlt at a
    unfold cmpB
    rw [a]; rfl
theorem Srt.rise {l : List Lb} (h : Srt l) (hn : Nbr l) : Rise l := by
  induction l with
  | nil => exact List.Pairwise.nil
  | cons a l ih =>
    have h1 := List.pairwise_cons.1 h
    have ht : Rise l := ih h1.2 (fun j hj => hn (j + 1) (by simpa using hj))
    refine List.pairwise_cons.2 ⟨fun b hb => ?_, ht⟩
    cases l with
    | nil => cases hb
    | cons c l =>
      have hac : Nlt a c := cmpB_name (h1.1 c (by simp)) (hn 0 (by simp))
      rcases List.mem_cons.1 hb with rfl | hb
      · exact hac
      · exact hac.trans (ht.head b hb)
theorem not_apart {l : List Lb} {j : Nat} (hj : j + 1 < l.length) (e : (l.getD j lb0).name = (l.getD (j + 1) lb0).name) : ¬ Apart l := by
  intro h
  unfold Apart at h
  rw [List.pairwise_iff_getElem] at h
  have := h j (j + 1) (by omega) hj (by omega)
  refine this ?_
  rw [List.getD_eq_getElem?_getD, List.getD_eq_getElem?_getD, List.getElem?_eq_getElem (by omega), List.getElem?_eq_getElem hj] at e
  exact e
/-- What Make does with the sorted list. -/
theorem make_rep {l : List Lb} (hl : ∀ a ∈ l, IsLb a) {j : Nat} (hj : j + 1 < (sortL l).length) (e : ((sortL l).getD j lb0).name = ((sortL l).getD (j + 1) lb0).name) : MkQ l [] 8 :=
  .inr (.inl ⟨hl, fun h => not_apart hj e (h.perm (sortL_perm l).symm), rfl, rfl⟩)
theorem make_many {l : List Lb} (hl : ∀ a ∈ l, IsLb a) (hn : Nbr (sortL l)) (h : 16 < l.length) : MkQ l [] 6 :=
  .inr (.inr (.inl ⟨hl, ((sortL_srt l).rise hn).apart.perm (sortL_perm l), h, rfl, rfl⟩))
theorem make_ok {l : List Lb} (hl : ∀ a ∈ l, IsLb a) (hn : Nbr (sortL l)) (h : l.length ≤ 16) : MkQ l (sortL l) 0 :=
  .inr (.inr (.inr ⟨hl, h, rfl, (sortL_srt l).rise hn, sortL_perm l⟩))
theorem make_lb {l : List Lb} {k : Nat} (hk : k < l.length) (h : ¬ IsLb (l.getD k lb0)) : MkQ l [] 90 :=
  .inl ⟨⟨_, getD_mem l lb0 k hk, h⟩, rfl, rfl⟩
/-! ### Compact -/
/-- slices.Compact: of equal neighbours one. -/
def cpt : List Lb → List Lb
  | [] => []
  | [a] => [a]
  | a :: b :: l => if a = b then cpt (b :: l) else a :: cpt (b :: l)
theorem cpt_mem : ∀ (l : List Lb) (x : Lb), x ∈ cpt l ↔ x ∈ l
  | [], x => by simp [cpt]
  | [a], x => by simp [cpt]
  | a :: b :: l, x => by
    have ih := cpt_mem (b :: l) x
    unfold cpt
    by_cases e : a = b
    · rw [if_pos e, ih, e]; simp
    · rw [if_neg e, List.mem_cons, ih, List.mem_cons]; simp
theorem cpt_sub : ∀ (l : List Lb), (cpt l).Sublist l
  | [] => by simp [cpt]
  | [a] => by simp [cpt]
  | a :: b :: l => by
    have ih := cpt_sub (b :: l)
    unfold cpt
    by_cases e : a = b
    · rw [if_pos e]; exact ih.cons _
    · rw [if_neg e]; exact ih.cons_cons _
theorem cpt_srt {l : List Lb} (h : Srt l) : Srt (cpt l) := List.Pairwise.sublist (cpt_sub l) h
theorem cpt_nodup : ∀ {l : List Lb}, Srt l → (cpt l).Nodup
  | [], _ => by simp [cpt]
  | [a], _ => by simp [cpt]
  | a :: b :: l, h => by
    have h1 := List.pairwise_cons.1 h
    have ih := cpt_nodup h1.2
    unfold cpt
    by_cases e : a = b
    · rw [if_pos e]; exact ih
    · rw [if_neg e]
      refine List.nodup_cons.2 ⟨fun hm => ?_, ih⟩
      have hm2 := (cpt_mem (b :: l) a).1 hm
      rcases List.mem_cons.1 hm2 with rfl | hm3
      · exact e rfl
      · have h2 := (List.pairwise_cons.1 h1.2).1 a hm3
        have h3 := h1.1 b (by simp)
        refine e (lt_tot a b ?_ ?_)
        · rw [lt_no]; exact h2
        · rw [lt_no]; exact h3
/-- Join: Make of the compacted, sorted labels of both. -/
theorem join_make {a b out : List Lb} {e : Int} (ha : ∀ x ∈ a, IsLb x) (hb : ∀ x ∈ b, IsLb x) (h : MkQ (cpt (sortL (a ++ b))) out e) : JoinQ a b out (decide (e = 0)) := by
  have hm : ∀ x, x ∈ cpt (sortL (a ++ b)) ↔ x ∈ a ∨ x ∈ b := fun x => by rw [cpt_mem, (sortL_perm _).mem_iff, List.mem_append]
  have hlb : ∀ x ∈ cpt (sortL (a ++ b)), IsLb x := fun x hx => ((hm x).1 hx).elim (ha x) (hb x)
  have hnd := cpt_nodup (sortL_srt (a ++ b))
  generalize cpt (sortL (a ++ b)) = m at *
  rcases h with ⟨⟨x, hx, nx⟩, rfl, rfl⟩ | ⟨_, h2, rfl, rfl⟩ | ⟨_, _, h3, rfl, rfl⟩ | ⟨h1, h2, rfl, h3, h4⟩
  · exact absurd (hlb x hx) nx
  · refine .inr ⟨by decide, rfl, fun c hc => h2 ?_⟩
    have hcm : ∀ x, x ∈ c ↔ x ∈ m := fun x => (hc.2 x).trans (hm x).symm
    exact List.Pairwise.imp_of_mem (fun {p q} hp hq hne e => hne (hc.1.2.1.one ((hcm p).2 hp) ((hcm q).2 hq) e)) hnd
  · refine .inr ⟨by decide, rfl, fun c hc => ?_⟩
    have : m.length ≤ c.length := nodup_len hnd (fun x hx => (hc.2 x).2 ((hm x).1 hx))
    have := hc.1.2.2
    omega
  · exact .inl ⟨by decide, ⟨fun x hx => h1 x (h4.mem_iff.1 hx), h3, by rw [h4.length_eq]; exact h2⟩, fun x => h4.mem_iff.trans (hm x)⟩
end Go.Proofs.YtiajafljgfpdcaaGreat
