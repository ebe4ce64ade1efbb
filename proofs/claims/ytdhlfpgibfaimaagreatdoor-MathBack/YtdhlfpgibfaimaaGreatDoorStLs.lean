/- St; Ls. -/
import Derived.Test.YtdhlfpgibfaimaaGreatDoorNmQb
import Derived.Shelf.SlSortCmp.NoneTotal
/- The document's Set. -/
namespace Go.Proofs.YtdhlfpgibfaimaaGreatDoor
set_option linter.unusedVariables false
open Go.RowKit
open Classical in
noncomputable def setB (l : List Lb) : Bool := decide (IsSet l)
theorem setB_iff {l : List Lb} : setB l = true ↔ IsSet l := by simp [setB]
theorem setB_no {l : List Lb} (h : ¬ IsSet l) : setB l = false := by simp [setB, h]
/-- Labels that may be, by rising names. -/
def Okl (l : List Lb) : Prop := (∀ a ∈ l, IsLb a) ∧ Rise l
theorem Okl.nil : Okl [] := ⟨(fun a h => by cases h), List.Pairwise.nil⟩
theorem Okl.take {l : List Lb} (h : Okl l) (k : Nat) : Okl (l.take k) := ⟨fun a ha => h.1 a (List.mem_of_mem_take ha), List.Pairwise.sublist (List.take_sublist k l) h.2⟩
theorem rise_snoc {l : List Lb} {a : Lb} (h : Rise l) (ha : ∀ b ∈ l, Nlt b a) : Rise (l ++ [a]) := by
  unfold Rise
  rw [List.pairwise_append]
  exact ⟨h, List.pairwise_cons.2 ⟨(fun b hb => by cases hb), List.Pairwise.nil⟩, fun b hb c hc => by
    have : c = a := by simpa using hc
    subst this; exact ha b hb⟩
theorem okl_snoc {l : List Lb} {a : Lb} (h : Okl l) (hl : IsLb a) (ha : l = [] ∨ ∃ m b, l = m ++ [b] ∧ Nlt b a) : Okl (l ++ [a]) := by
  refine ⟨fun b hb => ?_, rise_snoc h.2 fun b hb => ?_⟩
  · rcases List.mem_append.1 hb with hb | hb
    · exact h.1 b hb
    · have : b = a := by simpa using hb
      subst this; exact hl
  · rcases ha with rfl | ⟨m, c, rfl, hc⟩
    · cases hb
    · rcases List.mem_append.1 hb with hb | hb
      · have h2 := h.2
        unfold Rise at h2
        rw [List.pairwise_append] at h2
        exact (h2.2.2 b hb c (by simp)).trans hc
      · have : b = c := by simpa using hb
        subst this; exact hc
theorem okl_zero {l : List Lb} (h0 : 0 < l.length) (hl : IsLb (l.getD 0 lb0)) : Okl (l.take 1) := by
  rw [ltake_getD l lb0 0 h0]
  exact okl_snoc Okl.nil hl (.inl rfl)
theorem okl_succ {l : List Lb} {j : Nat} (h : Okl (l.take (j + 1))) (hk : j + 1 < l.length) (hl : IsLb (l.getD (j + 1) lb0)) (hn : Nlt (l.getD j lb0) (l.getD (j + 1) lb0)) : Okl (l.take (j + 1 + 1)) := by
  rw [ltake_getD l lb0 (j + 1) hk]
  refine okl_snoc h hl (.inr ⟨l.take j, l.getD j lb0, ltake_getD l lb0 j (by omega), hn⟩)
theorem not_okl_lb {l : List Lb} {k : Nat} (hk : k < l.length) (h : ¬ IsLb (l.getD k lb0)) : ¬ Okl l := fun g => h (g.1 _ (lgetD_mem l lb0 k hk))
theorem not_okl_lt {l : List Lb} {j : Nat} (hk : j + 1 < l.length) (h : ¬ Nlt (l.getD j lb0) (l.getD (j + 1) lb0)) : ¬ Okl l := by
  rintro ⟨_, g⟩
  unfold Rise at g
  rw [List.pairwise_iff_getElem] at g
  refine h ?_
  have := g j (j + 1) (by omega) hk (by omega)
  rw [List.getD_eq_getElem?_getD, List.getD_eq_getElem?_getD, List.getElem?_eq_getElem (by omega), List.getElem?_eq_getElem hk]
  exact this
theorem set_of_okl {l : List Lb} (h : ¬ Okl l) : ¬ IsSet l := fun g => h ⟨g.1, g.2.1⟩
theorem nlt_less (a b : Lb) : Op.bytesLess a.name.toList b.name.toList = decide (Nlt a b) := less_cmp _ _
theorem LbsR.at {l : List Lb} (h : LbsR l) {k : Nat} (hk : k < l.length) : LbR (l.getD k lb0) := h _ (lgetD_mem l lb0 k hk)
set_option maxRecDepth 100000 in
set_option maxHeartbeats 2000000 in
theorem set_any (v : Value) (l : List Lb) (w : World) (hv : Lbs w v l) (hr : LbsR l) (hlen : l.length ≤ 9223372036854775807) : Calls Tryz.prog 76 #[v] w fun e w' => e = .returned (.bool (setB l)) ∧ Below w.heap.size w w' := by
  obtain ⟨a, c, rfl⟩ := hv.shape
  replace hv : Hid _ := hv
  replace hr : Hid _ := hr
  go_enter Tryz.func76, Tryz.ntmps76
  go_wp2
  go_loopw [3] (fun i wr => ∃ k : Nat, k ≤ l.length ∧ i = .int .i64 k ∧ Okl (l.take k) ∧ Below w.heap.size w wr) (fun i _ => l.length - (intOf i).toNat)
  case atStart => exact ⟨0, Nat.zero_le _, rfl, Okl.nil, Below.refl _ _⟩
  case round =>
    obtain ⟨k, hk, rfl, hok, hB⟩ := hrel
    by_cases hlt : k < l.length
    · have hki : (k : Int) < (l.length : Int) := by omega
      obtain ⟨b, o, rfl, hc0, hc1⟩ := lb_at (Sls.grow hv.out hB) k hlt
      have hI := fun W => calls_alloc (is_any (l.getD k lb0) W (LbsR.at hr.out hlt))
      have c0 : ∀ p : Bel wr, p.W.cell? ⟨b, o + k * 2, none⟩ = some (.string (l.getD k lb0).name) := fun p => p.cell hc0
      have c1 : ∀ p : Bel wr, p.W.cell? ⟨b, o + k * 2 + 1, none⟩ = some (.string (l.getD k lb0).value) := fun p => p.cell hc1
      clear hc0 hc1
      cases hlb : lbB (l.getD k lb0) with
      | false =>
        have hn : Hid (setB l = false) := setB_no (set_of_okl (not_okl_lb hlt (fun h => by rw [lbB_iff.2 h] at hlb; cases hlb)))
        rw [hlb] at hI
        clear hlb
        generalize l.getD k lb0 = x at *
        obtain ⟨n, u⟩ := x
        unfold lbV at hI
        simp only at hI c0 c1
        go_wp2
        refine wp_region_bel (by kernel_rfl) (by kernel_rfl) ?_
        repeat (go_big_quiet_step ((go_at_call 120; exact Calls.bel (hI _))))
        refine wpQuiet_nil ?_
        rintro _ ⟨⟨wq, hq⟩, rfl⟩
        go_wp2
        go_ret
        exact ⟨by rw [hn.out]; rfl, hB.trans (hq.mono hB.size)⟩
      | true =>
        have hil : IsLb (l.getD k lb0) := lbB_iff.1 hlb
        rw [hlb] at hI
        clear hlb
        cases k with
        | zero =>
          have hok2 := okl_zero hlt hil
          generalize l.getD 0 lb0 = x at *
          obtain ⟨n, u⟩ := x
          unfold lbV at hI
          simp only [Nat.zero_mul, Nat.add_zero] at hI c0 c1
          clear hil
          simp only [Int.natCast_zero] at hki ⊢
          go_wp2
          refine wp_region_bel (by kernel_rfl) (by kernel_rfl) ?_
          repeat (go_big_quiet_step ((go_at_call 120; exact Calls.bel (hI _))))
          refine wpQuiet_nil ?_
          rintro _ ⟨⟨wq, hq⟩, rfl⟩
          go_wp2
          refine ⟨⟨0 + 1, by omega, by go_num, hok2, hB.trans (hq.mono hB.size)⟩, ?_⟩
          simp [intOf]; omega
        | succ j =>
          obtain ⟨b', o', e, hd0, hd1⟩ := lb_at (Sls.grow hv.out hB) j (by omega)
          cases e
          have d0 : ∀ p : Bel wr, p.W.cell? ⟨b, o + j * 2, none⟩ = some (.string (l.getD j lb0).name) := fun p => p.cell hd0
          clear hd0 hd1
          have hless := nlt_less (l.getD j lb0) (l.getD (j + 1) lb0)
          by_cases hnl : Nlt (l.getD j lb0) (l.getD (j + 1) lb0)
          · have hok2 := okl_succ hok hlt hil hnl
            rw [decide_eq_true hnl] at hless
            have hle : Op.bytesLess (l.getD (j + 1) lb0).name.toList (l.getD j lb0).name.toList = false := by rw [nlt_less]; exact decide_eq_false hnl.asymm
            have hne : ((l.getD (j + 1) lb0).name.toList == (l.getD j lb0).name.toList) = false := toList_ne (Ne.symm hnl.irrefl)
            clear hil hnl
            generalize l.getD (j + 1) lb0 = x at *
            generalize l.getD j lb0 = y at *
            obtain ⟨n, u⟩ := x
            obtain ⟨n2, u2⟩ := y
            unfold lbV at hI
            simp only at hI c0 c1 d0 hless hle hne
            go_wp2
            refine wp_region_bel (by kernel_rfl) (by kernel_rfl) ?_
            repeat (go_big_quiet_step ((go_at_call 120; exact Calls.bel (hI _))))
            refine wpQuiet_nil ?_
            rintro _ ⟨⟨wq, hq⟩, rfl⟩
            go_wp2
            refine ⟨⟨j + 1 + 1, by omega, by go_num, hok2, hB.trans (hq.mono hB.size)⟩, ?_⟩
            simp [intOf]; omega
          · have hn : Hid (setB l = false) := setB_no (set_of_okl (not_okl_lt hlt hnl))
            have hor : Op.bytesLess (l.getD (j + 1) lb0).name.toList (l.getD j lb0).name.toList = true ∨ (Op.bytesLess (l.getD (j + 1) lb0).name.toList (l.getD j lb0).name.toList = false ∧ ((l.getD (j + 1) lb0).name.toList == (l.getD j lb0).name.toList) = true) := by
              rcases nlt_total (l.getD (j + 1) lb0) (l.getD j lb0) with h | h | h
              · exact .inl (by rw [nlt_less]; exact decide_eq_true h)
              · refine .inr ⟨?_, by rw [h]; simp⟩
                rw [nlt_less]; exact decide_eq_false fun g => g.irrefl h
              · exact absurd h hnl
            clear hil hnl hless
            generalize l.getD (j + 1) lb0 = x at *
            generalize l.getD j lb0 = y at *
            obtain ⟨n, u⟩ := x
            obtain ⟨n2, u2⟩ := y
            unfold lbV at hI
            simp only at hI c0 c1 d0 hor
            rcases hor with hor | ⟨hor, hor2⟩
            all_goals
              go_wp2
              refine wp_region_bel (by kernel_rfl) (by kernel_rfl) ?_
              repeat (go_big_quiet_step ((go_at_call 120; exact Calls.bel (hI _))))
              refine wpQuiet_nil ?_
              rintro _ ⟨⟨wq, hq⟩, rfl⟩
              go_wp2
              go_ret
              exact ⟨by rw [hn.out]; rfl, hB.trans (hq.mono hB.size)⟩
    · obtain rfl : k = l.length := by omega
      have hki : ¬ (l.length : Int) < (l.length : Int) := by omega
      rw [List.take_of_length_le (Nat.le_refl _)] at hok
      have hn : Hid (setB l = decide ((l.length : Int) ≤ 16)) := by
        show _ = _
        rw [Bool.eq_iff_iff, setB_iff, decide_eq_true_eq]
        exact ⟨fun h => by have := h.2.2; omega, fun h => ⟨hok.1, hok.2, by omega⟩⟩
      clear hok
      go_wp2
      go_ret
      exact ⟨by rw [hn.out]; rfl, hB⟩
end Go.Proofs.YtdhlfpgibfaimaaGreatDoor
/- The order of labels; sorted lists: the mathematics of sorted, repeatsName, Compact. -/
namespace Go.Proofs.YtdhlfpgibfaimaaGreatDoor
set_option linter.unusedVariables false
open Go.RowKit Go.Sort
instance : Inhabited Lb := ⟨lb0⟩
theorem cmpB_trans {a b c : Lb} (h : cmpB a b = -1) (g : cmpB b c = -1) : cmpB a c = -1 := by
  unfold cmpB at *
  rcases cmpL_in (numsS a.name) (numsS b.name) with h1 | h1 | h1
  · rcases cmpL_in (numsS b.name) (numsS c.name) with h2 | h2 | h2
    · rw [cmpL_trans h1 h2]; rfl
    · rw [← cmpL_eq h2, h1]; rfl
    · rw [h2] at g; simp at g
  · have e := cmpL_eq h1
    rw [h1] at h
    simp at h
    rw [e]
    rcases cmpL_in (numsS b.name) (numsS c.name) with h2 | h2 | h2
    · rw [h2]; rfl
    · rw [h2] at g ⊢
      simp at g ⊢
      exact cmpL_trans h g
    · rw [h2] at g; simp at g
  · rw [h1] at h; simp at h
theorem lt_iff (x y : Lb) : ltOf cmpB x y = true ↔ cmpB x y = -1 := by
  unfold ltOf
  rw [decide_eq_true_eq]
  rcases cmpB_in x y with h | h | h <;> rw [h] <;> decide
theorem lt_no (x y : Lb) : ltOf cmpB x y = false ↔ cmpB x y ≠ -1 := by
  have := lt_iff x y
  cases h : ltOf cmpB x y <;> rw [h] at this <;> simp_all
theorem swo_lb : SWO (ltOf cmpB) where
  irrefl x := by rw [lt_no, cmpB_eq.2 rfl]; decide
  trans x y z h1 h2 := by rw [lt_iff] at *; exact cmpB_trans h1 h2
  ntrans x y z h1 h2 := by
    rw [lt_no] at *
    intro h
    rcases cmpB_in x y with a | a | a
    · exact h1 a
    · rw [cmpB_eq.1 a] at h; exact h2 h
    · have b : cmpB y x = -1 := by rw [cmpB_neg, a]
      exact h2 (cmpB_trans b h)
theorem lt_tot (x y : Lb) (h1 : ltOf cmpB x y = false) (h2 : ltOf cmpB y x = false) : x = y := by
  rw [lt_no] at *
  rw [cmpB_neg] at h2
  rcases cmpB_in x y with a | a | a
  · exact absurd a h1
  · exact cmpB_eq.1 a
  · rw [a] at h2; exact absurd rfl h2
/-- slices.SortFunc by compareLabel. -/
def sortL (l : List Lb) : List Lb := l.mergeSort fun x y => !(ltOf cmpB) y x
theorem sortL_perm (l : List Lb) : (sortL l).Perm l := List.mergeSort_perm _ _
/-- By rising labels, each as often as it is there. -/
def Srt (l : List Lb) : Prop := l.Pairwise fun x y => cmpB y x ≠ -1
theorem sortL_srt (l : List Lb) : Srt (sortL l) := by
  have h := List.pairwise_mergeSort (le := fun x y => !(ltOf cmpB) y x) (fun a b c h1 h2 => by
    simp only [Bool.not_eq_true', lt_no] at *
    intro h
    rcases cmpB_in b a with e | e | e
    · exact h1 e
    · rw [← cmpB_eq.1 e] at h; exact h2 h
    · have e2 : cmpB a b = -1 := by rw [cmpB_neg, e]
      exact h2 (cmpB_trans h e2)) (fun a b => by
    cases h : ltOf cmpB b a with
    | false => simp
    | true =>
      have : ltOf cmpB a b = false := by
        rw [lt_no]; rw [lt_iff, cmpB_neg] at h; omega
      simp [this]) l
  refine List.Pairwise.imp (fun {x y} hxy => ?_) h
  rw [← lt_no]; simpa using hxy
/-- Of neighbours the names are unlike. -/
def Nbr (l : List Lb) : Prop := ∀ j, j + 1 < l.length → (l.getD j lb0).name ≠ (l.getD (j + 1) lb0).name
theorem cmpB_name {x y : Lb} (h : cmpB y x ≠ -1) (hn : x.name ≠ y.name) : Nlt x y := by
  rcases nlt_total x y with a | a | a
  · exact a
  · exact absurd a hn
  · exfalso
    refine h ?_
    unfold Nlt at a
    unfold cmpB
    rw [a]; rfl
theorem Srt.rise {l : List Lb} (h : Srt l) (hn : Nbr l) : Rise l := by
  induction l with
  | nil => exact List.Pairwise.nil
  | cons a l ih =>
    have h1 := List.pairwise_cons.1 h
    have ht : Rise l := ih h1.2 (fun j hj => hn (j + 1) (by simpa using hj))
    refine List.pairwise_cons.2 ⟨fun b hb => ?_, ht⟩
    cases l with
    | nil => cases hb
    | cons c l =>
      have hac : Nlt a c := cmpB_name (h1.1 c (by simp)) (hn 0 (by simp))
      rcases List.mem_cons.1 hb with rfl | hb
      · exact hac
      · exact hac.trans (ht.head b hb)
theorem not_apart {l : List Lb} {j : Nat} (hj : j + 1 < l.length) (e : (l.getD j lb0).name = (l.getD (j + 1) lb0).name) : ¬ Apart l := by
  intro h
  unfold Apart at h
  rw [List.pairwise_iff_getElem] at h
  have := h j (j + 1) (by omega) hj (by omega)
  refine this ?_
  rw [List.getD_eq_getElem?_getD, List.getD_eq_getElem?_getD, List.getElem?_eq_getElem (by omega), List.getElem?_eq_getElem hj] at e
  exact e
/-- What Make does with the sorted list. -/
theorem make_rep {l : List Lb} (hl : ∀ a ∈ l, IsLb a) {j : Nat} (hj : j + 1 < (sortL l).length) (e : ((sortL l).getD j lb0).name = ((sortL l).getD (j + 1) lb0).name) : MkQ l [] 8 :=
  .inr (.inl ⟨hl, fun h => not_apart hj e (h.perm (sortL_perm l).symm), rfl, rfl⟩)
theorem make_many {l : List Lb} (hl : ∀ a ∈ l, IsLb a) (hn : Nbr (sortL l)) (h : 16 < l.length) : MkQ l [] 6 :=
  .inr (.inr (.inl ⟨hl, ((sortL_srt l).rise hn).apart.perm (sortL_perm l), h, rfl, rfl⟩))
theorem make_ok {l : List Lb} (hl : ∀ a ∈ l, IsLb a) (hn : Nbr (sortL l)) (h : l.length ≤ 16) : MkQ l (sortL l) 0 :=
  .inr (.inr (.inr ⟨hl, h, rfl, (sortL_srt l).rise hn, sortL_perm l⟩))
theorem make_lb {l : List Lb} {k : Nat} (hk : k < l.length) (h : ¬ IsLb (l.getD k lb0)) : MkQ l [] 90 :=
  .inl ⟨⟨_, lgetD_mem l lb0 k hk, h⟩, rfl, rfl⟩
/-! ### Compact -/
/-- slices.Compact: of equal neighbours one. -/
def cpt : List Lb → List Lb
  | [] => []
  | [a] => [a]
  | a :: b :: l => if a = b then cpt (b :: l) else a :: cpt (b :: l)
theorem cpt_mem : ∀ (l : List Lb) (x : Lb), x ∈ cpt l ↔ x ∈ l
  | [], x => by simp [cpt]
  | [a], x => by simp [cpt]
  | a :: b :: l, x => by
    have ih := cpt_mem (b :: l) x
    unfold cpt
    by_cases e : a = b
    · rw [if_pos e, ih, e]; simp
    · rw [if_neg e, List.mem_cons, ih, List.mem_cons]; simp
theorem cpt_sub : ∀ (l : List Lb), (cpt l).Sublist l
  | [] => by simp [cpt]
  | [a] => by simp [cpt]
  | a :: b :: l => by
    have ih := cpt_sub (b :: l)
    unfold cpt
    by_cases e : a = b
    · rw [if_pos e]; exact ih.cons _
    · rw [if_neg e]; exact ih.cons_cons _
theorem cpt_srt {l : List Lb} (h : Srt l) : Srt (cpt l) := List.Pairwise.sublist (cpt_sub l) h
theorem cpt_nodup : ∀ {l : List Lb}, Srt l → (cpt l).Nodup
  | [], _ => by simp [cpt]
  | [a], _ => by simp [cpt]
  | a :: b :: l, h => by
    have h1 := List.pairwise_cons.1 h
    have ih := cpt_nodup h1.2
    unfold cpt
    by_cases e : a = b
    · rw [if_pos e]; exact ih
    · rw [if_neg e]
      refine List.nodup_cons.2 ⟨fun hm => ?_, ih⟩
      have hm2 := (cpt_mem (b :: l) a).1 hm
      rcases List.mem_cons.1 hm2 with rfl | hm3
      · exact e rfl
      · have h2 := (List.pairwise_cons.1 h1.2).1 a hm3
        have h3 := h1.1 b (by simp)
        refine e (lt_tot a b ?_ ?_)
        · rw [lt_no]; exact h2
        · rw [lt_no]; exact h3
/-- Join: Make of the compacted, sorted labels of both. -/
theorem join_make {a b out : List Lb} {e : Int} (ha : ∀ x ∈ a, IsLb x) (hb : ∀ x ∈ b, IsLb x) (h : MkQ (cpt (sortL (a ++ b))) out e) : JoinQ a b out (decide (e = 0)) := by
  have hm : ∀ x, x ∈ cpt (sortL (a ++ b)) ↔ x ∈ a ∨ x ∈ b := fun x => by rw [cpt_mem, (sortL_perm _).mem_iff, List.mem_append]
  have hlb : ∀ x ∈ cpt (sortL (a ++ b)), IsLb x := fun x hx => ((hm x).1 hx).elim (ha x) (hb x)
  have hnd := cpt_nodup (sortL_srt (a ++ b))
  generalize cpt (sortL (a ++ b)) = m at *
  rcases h with ⟨⟨x, hx, nx⟩, rfl, rfl⟩ | ⟨_, h2, rfl, rfl⟩ | ⟨_, _, h3, rfl, rfl⟩ | ⟨h1, h2, rfl, h3, h4⟩
  · exact absurd (hlb x hx) nx
  · refine .inr ⟨by decide, rfl, fun c hc => h2 ?_⟩
    have hcm : ∀ x, x ∈ c ↔ x ∈ m := fun x => (hc.2 x).trans (hm x).symm
    exact List.Pairwise.imp_of_mem (fun {p q} hp hq hne e => hne (hc.1.2.1.one ((hcm p).2 hp) ((hcm q).2 hq) e)) hnd
  · refine .inr ⟨by decide, rfl, fun c hc => ?_⟩
    have : m.length ≤ c.length := nodup_len hnd (fun x hx => (hc.2 x).2 ((hm x).1 hx))
    have := hc.1.2.2
    omega
  · exact .inl ⟨by decide, ⟨fun x hx => h1 x (h4.mem_iff.1 hx), h3, by rw [h4.length_eq]; exact h2⟩, fun x => h4.mem_iff.trans (hm x)⟩
end Go.Proofs.YtdhlfpgibfaimaaGreatDoor
