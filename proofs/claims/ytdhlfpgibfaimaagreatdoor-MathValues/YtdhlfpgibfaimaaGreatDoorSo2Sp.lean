/- So2; Sp. -/
import Derived.Test.YtdhlfpgibfaimaaGreatDoorSlSn
/- series.repeatsLabels, frame. -/
namespace Go.Proofs.YtdhlfpgibfaimaaGreatDoor
set_option linter.unusedVariables false
open Go.RowKit
theorem eql_b (v u : Value) (l m : List Lb) (w : World) (hv : Lbs w v l) (hu : Lbs w u m) (hl : l.length ≤ 4398046511104) (hm : m.length ≤ 4398046511104) : Calls Tryz.prog 151 #[v, u] w fun e w' => e = .returned (.bool (decide (l = m))) ∧ Below w.heap.size w w' :=
  (eql_any v u l m w hv hu hl hm).mono fun e w' ⟨B, he, hB, hb⟩ => ⟨by
    rw [he]
    by_cases h : l = m
    · rw [hB.2 h, decide_eq_true h]
    · rw [decide_eq_false h]
      cases B with
      | false => rfl
      | true => exact absurd (hB.1 rfl) h, hb⟩
/-- Two neighbours have the same labels. -/
def RepS (l : List Se) : Prop := ∃ i, i + 1 < l.length ∧ (l.getD (i + 1) se0).labs = (l.getD i se0).labs
noncomputable instance (l : List Se) : Decidable (RepS l) := Classical.propDecidable _
set_option maxRecDepth 100000 in
set_option maxHeartbeats 4000000 in
theorem rep_any (v : Value) (l : List Se) (w : World) (hv : Srs w v l) (hok : ∀ x ∈ l, Lbs w (.slice x.a x.n x.c) x.labs ∧ x.labs.length ≤ 1000000) (hl : l.length ≤ 1000000) : Calls Tryz.prog 155 #[v] w fun e w' => e = .returned (.bool (decide (RepS l))) ∧ Below w.heap.size w w' := by
  obtain ⟨a, c, rfl⟩ := hv.shape
  have hmem : Hid (∀ k, k < l.length → l.getD k se0 ∈ l) := fun k hk => by rw [List.getD_eq_getElem?_getD, List.getElem?_eq_getElem hk]; exact List.getElem_mem hk
  replace hv : Hid (Srs w (.slice a l.length c) l) := hv
  replace hok : Hid (∀ x ∈ l, Lbs w (.slice x.a x.n x.c) x.labs ∧ x.labs.length ≤ 1000000) := hok
  obtain ⟨R, hR⟩ : ∃ R, Hid (R = decide (RepS l)) := ⟨_, rfl⟩
  rw [← hR.out]
  go_enter Tryz.func155, Tryz.ntmps155
  go_wp2
  go_loopw [3] (fun i wr => ∃ j : Nat, (j + 1 ≤ l.length ∨ j = 0) ∧ i = .int .i64 ((j + 1 : Nat) : Int) ∧ Hid (∀ i, i + 1 < j + 1 → ¬ (l.getD (i + 1) se0).labs = (l.getD i se0).labs) ∧ Hid (Below w.heap.size w wr)) (fun i _ => l.length - (intOf i).toNat)
  case atStart => exact ⟨0, .inr rfl, rfl, fun i hi => absurd hi (by omega), Below.refl _ _⟩
  case round =>
    obtain ⟨j, hj, rfl, hno, hB⟩ := hrel
    by_cases hlt : j + 1 < l.length
    · have hki : ((j + 1 : Nat) : Int) < (l.length : Int) := by omega
      have hrow := Sls.grow hv.out hB.out
      obtain ⟨b, o, rfl, x0, x1, x2⟩ := sr_at hrow (j + 1) hlt
      obtain ⟨b', o', e', y0, y1, y2⟩ := sr_at hrow j (by omega)
      cases e'
      have hx := hok.out _ (hmem.out (j + 1) hlt)
      have hy := hok.out _ (hmem.out j (by omega))
      have hcall : ∀ p : Bel wr, Calls Tryz.prog 151 #[.slice (l.getD (j + 1) se0).a (l.getD (j + 1) se0).n (l.getD (j + 1) se0).c, .slice (l.getD j se0).a (l.getD j se0).n (l.getD j se0).c] p.W fun e w' => e = .returned (.bool (decide ((l.getD (j + 1) se0).labs = (l.getD j se0).labs))) ∧ Below p.W.heap.size p.W w' := fun p => eql_b _ _ _ _ _ (hx.1.grow (hB.out.trans (p.h.mono hB.out.size))) (hy.1.grow (hB.out.trans (p.h.mono hB.out.size))) (by omega) (by omega)
      have c0 : ∀ p : Bel wr, p.W.cell? ⟨b, o + (j + 1) * 3, none⟩ = some (.slice (l.getD (j + 1) se0).a (l.getD (j + 1) se0).n (l.getD (j + 1) se0).c) := fun p => p.cell x0
      have d0 : ∀ p : Bel wr, p.W.cell? ⟨b, o + j * 3, none⟩ = some (.slice (l.getD j se0).a (l.getD j se0).n (l.getD j se0).c) := fun p => p.cell y0
      have hres : Hid (decide ((l.getD (j + 1) se0).labs = (l.getD j se0).labs) = true ↔ (l.getD (j + 1) se0).labs = (l.getD j se0).labs) := decide_eq_true_iff
      clear x0 x1 x2 y0 y1 y2 hx hy hrow
      generalize decide ((l.getD (j + 1) se0).labs = (l.getD j se0).labs) = D at *
      cases D with
      | true =>
        have hRt : Hid (R = true) := by
          show _ = _
          rw [hR.out]; exact decide_eq_true ⟨j, hlt, hres.out.1 rfl⟩
        clear hres
        generalize l.getD (j + 1) se0 = x at *
        generalize l.getD j se0 = y at *
        go_wp2
        refine wp_region_bel (by kernel_rfl) (by kernel_rfl) ?_
        repeat (go_big_quiet_step (exact Calls.bel (hcall _)))
        refine wpQuiet_nil ?_
        rintro W ⟨p, rfl⟩
        go_wp2
        go_ret
        exact ⟨by rw [hRt.out]; rfl, hB.out.trans (p.h.mono hB.out.size)⟩
      | false =>
        have hno2 : Hid (∀ i, i + 1 < j + 1 + 1 → ¬ (l.getD (i + 1) se0).labs = (l.getD i se0).labs) := fun i hi => by
          by_cases e : i = j
          · subst e; intro h; exact absurd (hres.out.2 h) (by decide)
          · exact hno.out i (by omega)
        clear hres hno
        generalize hgx : l.getD (j + 1) se0 = x at hcall c0
        generalize hgy : l.getD j se0 = y at hcall d0
        clear hgx hgy
        go_wp2
        refine wp_region_bel (by kernel_rfl) (by kernel_rfl) ?_
        repeat (go_big_quiet_step (exact Calls.bel (hcall _)))
        refine wpQuiet_nil ?_
        rintro W ⟨p, rfl⟩
        go_wp2
        refine ⟨⟨j + 1, .inl (by omega), by go_num, hno2, hB.out.trans (p.h.mono hB.out.size)⟩, ?_⟩
        simp [intOf]; omega
    · have hki : ¬ ((j + 1 : Nat) : Int) < (l.length : Int) := by omega
      have hRf : Hid (R = false) := by
        show _ = _
        rw [hR.out]
        refine decide_eq_false ?_
        rintro ⟨i, hi, he⟩
        exact hno.out i (by omega) he
      have hB' := hB.out
      go_wp2
      go_ret
      exact ⟨by rw [hRf.out]; rfl, hB'⟩
end Go.Proofs.YtdhlfpgibfaimaaGreatDoor
/- series.frame. -/
namespace Go.Proofs.YtdhlfpgibfaimaaGreatDoor
set_option linter.unusedVariables false
open Go.RowKit Go.Sort Go.Shelf
theorem rep_cons {a b : Se} {r : List Se} (h : ¬ RepS (a :: b :: r)) : a.labs ≠ b.labs ∧ ¬ RepS (b :: r) := by
  refine ⟨fun e => h ⟨0, by simp, e.symm⟩, fun ⟨i, hi, he⟩ => h ⟨i + 1, by simp at hi ⊢; omega, ?_⟩⟩
  exact he
theorem rise_of : ∀ {l : List Se}, SrtS l → ¬ RepS l → Series10.Rise (l.map serOf)
  | [], _, _ => List.Pairwise.nil
  | [a], _, _ => by simp [Series10.Rise]
  | a :: b :: r, hs, hr => by
    obtain ⟨h1, h2⟩ := rep_cons hr
    have hs' := List.pairwise_cons.1 hs
    have ih := rise_of hs'.2 h2
    have hab : Series10.Slt (serOf a) (serOf b) := by
      rcases Series10.slt_total (serOf a) (serOf b) with h | h | h
      · exact h
      · exact absurd h h1
      · exact absurd h (hs'.1 b (by simp))
    rw [List.map_cons]
    refine List.pairwise_cons.2 ⟨fun z hz => ?_, ih⟩
    rw [List.map_cons] at hz ih
    rcases List.mem_cons.1 hz with rfl | hz
    · exact hab
    · exact hab.trans ((List.pairwise_cons.1 ih).1 z hz)
theorem rep_apart {l : List Se} (h : RepS l) : ¬ Series10.Apart (l.map serOf) := by
  obtain ⟨i, hi, he⟩ := h
  intro ha
  unfold Series10.Apart at ha
  rw [List.pairwise_map] at ha
  have := List.pairwise_iff_getElem.1 ha i (i + 1) (by omega) hi (by omega)
  rw [List.getD_eq_getElem?_getD, List.getElem?_eq_getElem hi, List.getD_eq_getElem?_getD, List.getElem?_eq_getElem (by omega)] at he
  exact this he.symm
/-- Sets and values alone. -/
def Right (l : List Se) : Prop := ∀ x ∈ l, IsSet x.labs ∧ IsV x.v
theorem Right.sets {l : List Se} (h : Right l) : ∀ a ∈ l.map serOf, IsSet a.labels := fun a ha => by obtain ⟨x, hx, rfl⟩ := List.mem_map.1 ha; exact (h x hx).1
theorem Right.vals {l : List Se} (h : Right l) : ∀ a ∈ l.map serOf, IsV a.value := fun a ha => by obtain ⟨x, hx, rfl⟩ := List.mem_map.1 ha; exact (h x hx).2
/-- What frame tells of the row v of l: Sort's answer; where there is one, v is it. -/
def FrameR (base g cap : Nat) (l : List Se) (w : World) (e : Ending) (w' : World) : Prop :=
  Below base w w' ∧ ((∃ l', Series10.SortQ (l.map serOf) (l'.map serOf) 0 ∧ e = .returned (.tuple #[.slice (some ⟨g, 0, none⟩) l.length cap, .int .i64 0]) ∧ OwnR w' base (.slice (some ⟨g, 0, none⟩) l.length cap) l' ∧ LsOk w' g l') ∨
    (∃ er : Int, (er = 8 ∨ er = 6) ∧ Series10.SortQ (l.map serOf) [] er ∧ e = .returned (.tuple #[.slice none 0 0, .int .i64 er])))
set_option maxRecDepth 100000 in
set_option maxHeartbeats 4000000 in
/-- series.frame. -/
theorem frame_any (base g cap : Nat) (l : List Se) (w : World) (hown : OwnR w base (.slice (some ⟨g, 0, none⟩) l.length cap) l) (hbg : base ≤ g) (hok : LsOk w g l) (hri : Right l) (hl : l.length ≤ 1000000) :
    Calls Tryz.prog 116 #[.slice (some ⟨g, 0, none⟩) l.length cap] w fun e w' => FrameR base g cap l w e w' := by
  have hll : ∀ x ∈ l, x.labs.length ≤ 1000000 := fun x hx => by have := (hri x hx).1.2.2; omega
  have hso := ssort_any base g cap l w hown hok hll hl
  have hgl : g < w.heap.size := (hown.lt g rfl).2
  have hbw : base ≤ w.heap.size := by omega
  have hrp := fun (l' : List Se) (W : World) (h : OwnR W base (.slice (some ⟨g, 0, none⟩) l.length cap) l') (ho : LsOk W g l') (hp : l'.Perm l) => rep_any _ l' W h.sls (fun x hx => ⟨(ho x hx).1, hll x (hp.mem_iff.1 hx)⟩) (by rw [hp.length_eq]; exact hl)
  -- which of the three it is, is told by l
  by_cases hap : Series10.Apart (l.map serOf)
  · have hr0 : ∀ l' : List Se, l'.Perm l → SrtS l' → decide (RepS l') = false := fun l' hp hs => decide_eq_false fun h => rep_apart h (hap.perm (hp.symm.map _))
    by_cases h200 : 200 < l.length
    · have h2i : (200 : Int) < (l.length : Int) := by omega
      have hq : Hid (Series10.SortQ (l.map serOf) [] 6) := .inr (.inr (.inr (.inl ⟨hri.sets, hri.vals, hap, by rw [List.length_map]; exact h200, rfl, rfl⟩)))
      go_enter Tryz.func116, Tryz.ntmps116
      go_wp2_with (first
        | (go_at_call 152; refine hso.mono ?_; rintro e w1 ⟨rfl, l', hp, hs, ho1, hok1, hg1⟩; have hb1 : Below base w w1 := (Below.refl base w).grown hg1 hbw (fun k hk => by cases hk; exact hbg); have hr1 := hrp l' w1 ho1 hok1 hp; rw [hr0 l' hp hs] at hr1)
        | (go_at_call 155; refine hr1.mono ?_; rintro e w2 ⟨rfl, hb2⟩; have hB2 := hb1.trans (hb2.mono (Nat.le_trans hbw hb1.size))))
      go_ret2
      exact ⟨hB2, .inr ⟨6, .inr rfl, hq.out, rfl⟩⟩
    · have h2i : ¬ (200 : Int) < (l.length : Int) := by omega
      go_enter Tryz.func116, Tryz.ntmps116
      go_wp2_with (first
        | (go_at_call 152; refine hso.mono ?_; rintro e w1 ⟨rfl, l', hp, hs, ho1, hok1, hg1⟩; have hb1 : Below base w w1 := (Below.refl base w).grown hg1 hbw (fun k hk => by cases hk; exact hbg); have hr1 := hrp l' w1 ho1 hok1 hp; have hd1 := hr0 l' hp hs; rw [hd1] at hr1)
        | (go_at_call 155; refine hr1.mono ?_; rintro e w2 ⟨rfl, hb2⟩; have hB2 := hb1.trans (hb2.mono (Nat.le_trans hbw hb1.size)); have ho2 := ho1.stay hb2; have hok2 := hok1.grow hb2))
      go_ret2
      refine ⟨hB2, .inl ⟨l', .inr (.inr (.inr (.inr ⟨hri.sets, hri.vals, by rw [List.length_map]; omega, rfl, rise_of hs (of_decide_eq_false hd1), hp.map _⟩))), rfl, ho2, hok2⟩⟩
  · have hr0 : ∀ l' : List Se, l'.Perm l → SrtS l' → decide (RepS l') = true := fun l' hp hs => decide_eq_true (Classical.byContradiction fun h => hap ((rise_of hs h).apart.perm (hp.map _)))
    have hq : Hid (Series10.SortQ (l.map serOf) [] 8) := .inr (.inr (.inl ⟨hri.sets, hri.vals, hap, rfl, rfl⟩))
    go_enter Tryz.func116, Tryz.ntmps116
    go_wp2_with (first
      | (go_at_call 152; refine hso.mono ?_; rintro e w1 ⟨rfl, l', hp, hs, ho1, hok1, hg1⟩; have hb1 : Below base w w1 := (Below.refl base w).grown hg1 hbw (fun k hk => by cases hk; exact hbg); have hr1 := hrp l' w1 ho1 hok1 hp; rw [hr0 l' hp hs] at hr1)
      | (go_at_call 155; refine hr1.mono ?_; rintro e w2 ⟨rfl, hb2⟩; have hB2 := hb1.trans (hb2.mono (Nat.le_trans hbw hb1.size))))
    go_ret2
    exact ⟨hB2, .inr ⟨8, .inl rfl, hq.out, rfl⟩⟩
end Go.Proofs.YtdhlfpgibfaimaaGreatDoor
