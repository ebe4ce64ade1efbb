/- Ss; Su; Sw. -/
import Derived.Test.YtdhlfpgibfaimaaGreatDoorSqSr
/- The document's Same at series; series.Scalar. -/
namespace Go.Proofs.YtdhlfpgibfaimaaGreatDoor
set_option linter.unusedVariables false
open Go.RowKit
theorem same_b (v u : Value) (l m : List Lb) (w : World) (hv : Lbs w v l) (hu : Lbs w u m) (hl : l.length ≤ 1000000000) (hm : m.length ≤ 1000000000) : Calls Tryz.prog 53 #[v, u] w fun e w' => e = .returned (.bool (decide (l = m))) ∧ Below w.heap.size w w' :=
  (same_any v u l m w hv hu hl hm).mono fun e w' ⟨B, he, hB, hb⟩ => ⟨by
    rw [he]
    by_cases h : l = m
    · rw [hB.2 h, decide_eq_true h]
    · rw [decide_eq_false h]
      cases B with
      | false => rfl
      | true => exact absurd (hB.1 rfl) h, hb⟩
/-- Two lists of series are the same. -/
def SameS (A B : List Se) : Prop := A.map serOf = B.map serOf
noncomputable instance (A B : List Se) : Decidable (SameS A B) := Classical.propDecidable _
theorem same_take {A B : List Se} {k : Nat} (ha : k < A.length) (hb : k < B.length) (h : (A.take k).map serOf = (B.take k).map serOf) (h2 : serOf (A.getD k se0) = serOf (B.getD k se0)) : (A.take (k + 1)).map serOf = (B.take (k + 1)).map serOf := by
  rw [List.take_succ_eq_append_getElem ha, List.take_succ_eq_append_getElem hb, List.map_append, List.map_append, h]
  rw [List.getD_eq_getElem?_getD, List.getElem?_eq_getElem ha, List.getD_eq_getElem?_getD, List.getElem?_eq_getElem hb] at h2
  congr 1
  simpa using h2
theorem same_not {A B : List Se} {k : Nat} (ha : k < A.length) (hb : k < B.length) (h2 : ¬ serOf (A.getD k se0) = serOf (B.getD k se0)) : ¬ SameS A B := fun h => h2 (by
  have := congrArg (fun l => l[k]?) h
  simp only [List.getElem?_map, List.getElem?_eq_getElem ha, List.getElem?_eq_getElem hb, Option.map_some] at this
  rw [List.getD_eq_getElem?_getD, List.getElem?_eq_getElem ha, List.getD_eq_getElem?_getD, List.getElem?_eq_getElem hb]
  exact Option.some.inj this)
set_option maxRecDepth 100000 in
set_option maxHeartbeats 8000000 in
theorem same_ser (v u : Value) (A B : List Se) (w : World) (hv : Srs w v A) (hu : Srs w u B) (hA : ∀ x ∈ A, Lbs w (.slice x.a x.n x.c) x.labs ∧ x.labs.length ≤ 1000000) (hB : ∀ x ∈ B, Lbs w (.slice x.a x.n x.c) x.labs ∧ x.labs.length ≤ 1000000) (la : A.length ≤ 1000000) (lb : B.length ≤ 1000000) :
    Calls Tryz.prog 22 #[v, u] w fun e w' => e = .returned (.bool (decide (SameS A B))) ∧ Below w.heap.size w w' := by
  obtain ⟨a, c, rfl⟩ := hv.shape
  obtain ⟨a2, c2, rfl⟩ := hu.shape
  obtain ⟨R, hR⟩ : ∃ R, Hid (R = decide (SameS A B)) := ⟨_, rfl⟩
  rw [← hR.out]
  by_cases hlen : A.length = B.length
  · have hmA : Hid (∀ k, k < A.length → A.getD k se0 ∈ A) := fun k hk => by rw [List.getD_eq_getElem?_getD, List.getElem?_eq_getElem hk]; exact List.getElem_mem hk
    have hmB : Hid (∀ k, k < B.length → B.getD k se0 ∈ B) := fun k hk => by rw [List.getD_eq_getElem?_getD, List.getElem?_eq_getElem hk]; exact List.getElem_mem hk
    rw [← hlen] at hu ⊢
    obtain ⟨n, hn⟩ : ∃ n, Hid (n = A.length) := ⟨_, rfl⟩
    have hnB : Hid (n = B.length) := hn.out.trans hlen
    rw [← hn.out] at hv hu la ⊢
    clear hlen lb
    replace hv : Hid (Srs w (.slice a n c) A) := hv
    replace hu : Hid (Srs w (.slice a2 n c2) B) := hu
    replace hA : Hid (∀ x ∈ A, Lbs w (.slice x.a x.n x.c) x.labs ∧ x.labs.length ≤ 1000000) := hA
    replace hB : Hid (∀ x ∈ B, Lbs w (.slice x.a x.n x.c) x.labs ∧ x.labs.length ≤ 1000000) := hB
    go_enter Tryz.func22, Tryz.ntmps22
    go_wp2
    go_loopw [5] (fun i wr => ∃ k : Nat, k ≤ n ∧ i = .int .i64 k ∧ Hid ((A.take k).map serOf = (B.take k).map serOf) ∧ Hid (Below w.heap.size w wr)) (fun i _ => n - (intOf i).toNat)
    case atStart => exact ⟨0, Nat.zero_le _, rfl, rfl, Below.refl _ _⟩
    case round =>
      obtain ⟨k, hk, rfl, htk, hBw⟩ := hrel
      by_cases hlt : k < n
      · have hki : (k : Int) < (n : Int) := by omega
        have hkA : k < A.length := by rw [← hn.out]; exact hlt
        have hkB : k < B.length := by rw [← hnB.out]; exact hlt
        obtain ⟨b, o, rfl, x0, x1, x2⟩ := sr_at (Sls.grow hv.out hBw.out) k hkA
        obtain ⟨b2, o2, rfl, y0, y1, y2⟩ := sr_at (Sls.grow hu.out hBw.out) k hkB
        have hx := hA.out _ (hmA.out k hkA)
        have hy := hB.out _ (hmB.out k hkB)
        have hst := fun h => same_take hkA hkB htk.out h
        have hnt := fun h => same_not (A := A) (B := B) hkA hkB h
        generalize A.getD k se0 = x at *
        generalize B.getD k se0 = y at *
        have hcall : ∀ p : Bel wr, Calls Tryz.prog 53 #[.slice x.a x.n x.c, .slice y.a y.n y.c] p.W fun e w' => e = .returned (.bool (decide (x.labs = y.labs))) ∧ Below p.W.heap.size p.W w' := fun p => same_b _ _ _ _ _ (hx.1.grow (hBw.out.trans (p.h.mono hBw.out.size))) (hy.1.grow (hBw.out.trans (p.h.mono hBw.out.size))) (by omega) (by omega)
        have c0 : ∀ p : Bel wr, p.W.cell? ⟨b, o + k * 3, none⟩ = some (.slice x.a x.n x.c) := fun p => p.cell x0
        have c1 : ∀ p : Bel wr, p.W.cell? ⟨b, o + k * 3 + 1, none⟩ = some (.int .i64 x.v.kind) := fun p => p.cell x1
        have c2' : ∀ p : Bel wr, p.W.cell? ⟨b, o + k * 3 + 2, none⟩ = some (.int .i64 x.v.n) := fun p => p.cell x2
        have d0 : ∀ p : Bel wr, p.W.cell? ⟨b2, o2 + k * 3, none⟩ = some (.slice y.a y.n y.c) := fun p => p.cell y0
        have d1 : ∀ p : Bel wr, p.W.cell? ⟨b2, o2 + k * 3 + 1, none⟩ = some (.int .i64 y.v.kind) := fun p => p.cell y1
        have d2 : ∀ p : Bel wr, p.W.cell? ⟨b2, o2 + k * 3 + 2, none⟩ = some (.int .i64 y.v.n) := fun p => p.cell y2
        clear x0 x1 x2 y0 y1 y2 hx hy
        replace hst : Hid _ := hst
        replace hnt : Hid _ := hnt
        have hBd := hBw.out
        by_cases hvv : x.v = y.v
        · rw [← hvv] at d1 d2
          by_cases hll : x.labs = y.labs
          · have hs2 : Hid _ := hst.out (by unfold serOf; rw [hvv, hll])
            have hdd : decide (x.labs = y.labs) = true := decide_eq_true hll
            rw [hdd] at hcall
            clear hvv hll hdd
            go_wp2
            refine wp_region_bel (by kernel_rfl) (by kernel_rfl) ?_
            repeat (go_big_quiet_step (exact Calls.bel (hcall _)))
            refine wpQuiet_nil ?_
            rintro W ⟨p, rfl⟩
            go_wp2
            refine ⟨⟨k + 1, by omega, by go_num, hs2, hBd.trans (p.h.mono hBd.size)⟩, ?_⟩
            simp [intOf]; omega
          · have hRf : Hid (R = false) := by
              show _ = _
              rw [hR.out]; exact decide_eq_false (hnt.out fun h => hll (congrArg Series10.Sr.labels h))
            have hdd : decide (x.labs = y.labs) = false := decide_eq_false hll
            rw [hdd] at hcall
            clear hvv hll hdd
            go_wp2
            refine wp_region_bel (by kernel_rfl) (by kernel_rfl) ?_
            repeat (go_big_quiet_step (exact Calls.bel (hcall _)))
            refine wpQuiet_nil ?_
            rintro W ⟨p, rfl⟩
            go_wp2
            go_ret
            exact ⟨by rw [hRf.out]; rfl, hBd.trans (p.h.mono hBd.size)⟩
        · have hRf : Hid (R = false) := by
            show _ = _
            rw [hR.out]; exact decide_eq_false (hnt.out fun h => hvv (congrArg Series10.Sr.value h))
          have hb3 : ((x.v.kind == y.v.kind) = false) ∨ ((x.v.kind == y.v.kind) = true ∧ (x.v.n == y.v.n) = false) := by
            cases e2 : (x.v.kind == y.v.kind) with
            | false => exact .inl rfl
            | true =>
              cases e3 : (x.v.n == y.v.n) with
              | false => exact .inr ⟨rfl, rfl⟩
              | true =>
                exfalso
                apply hvv
                have h1 : x.v.kind = y.v.kind := by simpa using e2
                have h2 : x.v.n = y.v.n := by simpa using e3
                cases hxv : x.v; cases hyv : y.v
                rw [hxv, hyv] at h1 h2
                simp only at h1 h2
                rw [h1, h2]
          clear hvv
          rcases hb3 with e1 | ⟨e1, e2⟩
          all_goals
            go_wp2
            refine wp_region_bel (by kernel_rfl) (by kernel_rfl) ?_
            repeat (go_big_quiet_step (exact Calls.bel (hcall _)))
            refine wpQuiet_nil ?_
            rintro W ⟨p, rfl⟩
            go_wp2
            go_ret
            exact ⟨by rw [hRf.out]; rfl, hBd.trans (p.h.mono hBd.size)⟩
      · obtain rfl : k = n := by omega
        have hki : ¬ (k : Int) < (k : Int) := by omega
        have hRt : Hid (R = true) := by
          show _ = _
          rw [hR.out]
          refine decide_eq_true ?_
          have h := htk.out
          rw [List.take_of_length_le (by rw [← hn.out]; omega), List.take_of_length_le (by rw [← hnB.out]; omega)] at h
          exact h
        have hB' := hBw.out
        go_wp2
        go_ret
        exact ⟨by rw [hRt.out]; rfl, hB'⟩
  · have hd : ((A.length : Int) == (B.length : Int)) = false := by simp; omega
    have hd2 : ((A.length : Int) != (B.length : Int)) = true := by simp; omega
    have hRf : Hid (R = false) := by
      show _ = _
      rw [hR.out]; exact decide_eq_false fun h => hlen (by have := congrArg List.length h; simpa using this)
    clear hlen
    go_enter Tryz.func22, Tryz.ntmps22
    go_wp2
    go_ret
    exact ⟨by rw [hRf.out]; rfl, Below.refl _ _⟩
end Go.Proofs.YtdhlfpgibfaimaaGreatDoor
/- Towards series.joined: which fit, and what they come to; series whose labels lie in rows of labels. -/
namespace Go.Proofs.YtdhlfpgibfaimaaGreatDoor
set_option linter.unusedVariables false
open Go.RowKit
theorem within_of {a b : List Lb} (ha : IsSet a) (hb : IsSet b) (h : withinB a b = true) : Series10.Within a b := by
  rw [Series10.within_iff ha hb]
  intro x hx
  have := List.all_eq_true.1 h x hx
  exact toList_eq this
/-- The greater one. -/
def bigger (a b : List Lb) : List Lb := if b.length < a.length then a else b
theorem bigger_set {a b : List Lb} (ha : IsSet a) (hb : IsSet b) : IsSet (bigger a b) := by unfold bigger; split; exact ha; exact hb
theorem fit_join {a b : List Lb} (ha : IsSet a) (hb : IsSet b) (h : fitB a b = true) : JoinQ a b (bigger a b) true := by
  unfold fitB at h
  unfold bigger
  by_cases hc : b.length < a.length
  · rw [if_pos hc] at h ⊢
    have hw := within_of hb ha h
    exact .inl ⟨rfl, ha, fun x => ⟨.inl, fun hx => hx.elim id (hw x)⟩⟩
  · rw [if_neg hc] at h ⊢
    have hw := within_of ha hb h
    exact .inl ⟨rfl, hb, fun x => ⟨.inr, fun hx => hx.elim (hw x) id⟩⟩
/-- Its labels lie where it says, in a row of labels. -/
def SeTy (w : World) (x : Se) : Prop := ∀ ad, x.a = some ad → ∃ cur fr, w.heap[ad.block]? = some (.cells cur 122 fr)
def SeW (w : World) (x : Se) : Prop := Lbs w (.slice x.a x.n x.c) x.labs ∧ SeTy w x
theorem SeW.grow {w w' : World} {x : Se} (h : SeW w x) (hb : Below w.heap.size w w') : SeW w' x := ⟨h.1.grow hb, fun ad e => by
  obtain ⟨cur, fr, h2⟩ := h.2 ad e
  exact ⟨cur, fr, (hb.block _ (Array.getElem?_eq_some_iff.1 h2).1).trans h2⟩⟩
theorem OwnR.block {w : World} {base : Nat} {v : Value} {l : List Se} (h : OwnR w base v l) (k : Nat) (hk : v.ownBlock = some k) : ∃ cur fr, w.heap[k]? = some (.cells cur 86 fr) := by
  rcases h.2 with ⟨rfl, _⟩ | ⟨g, cap, cur, rfl, _, hg, _⟩
  · cases hk
  · cases hk; exact ⟨cur, _, hg⟩
/-- What turns in a row of series alone leaves it. -/
theorem SeW.grown {w w' : World} {r : Option Nat} {x : Se} (h : SeW w x) (hg : w.grownBy w' r) (hr : ∀ k, r = some k → ∃ cur fr, w.heap[k]? = some (.cells cur 86 fr)) : SeW w' x := by
  have hne : ∀ ad, x.a = some ad → some ad.block ≠ r := fun ad e e2 => by
    obtain ⟨cur, fr, h1⟩ := h.2 ad e
    obtain ⟨cur2, fr2, h2⟩ := hr ad.block e2.symm
    rw [h1] at h2
    injection h2 with h2
    injection h2 with _ h3 _
    exact absurd h3 (by decide)
  refine ⟨?_, fun ad e => ?_⟩
  · obtain ⟨a, c, e, hn, hc⟩ := id h.1
    rcases hc with hc | ⟨b, o', rfl, hc⟩
    · exact ⟨a, c, e, hn, .inl hc⟩
    · have h1 := h.1
      have hb := hne _ (by injection e)
      rw [e] at h1 ⊢
      exact Sls.kept h1 hg hb
  · obtain ⟨cur, fr, h1⟩ := h.2 ad e
    refine ⟨cur, fr, ?_⟩
    obtain ⟨_, _, _, _, hk⟩ := hg
    exact (hk _ (Array.getElem?_eq_some_iff.1 h1).1 (hne ad e)).trans h1
/-- It lies outside a row of series. -/
theorem SeW.ok {w : World} {g : Nat} {x : Se} (h : SeW w x) (hg : ∃ cur fr, w.heap[g]? = some (.cells cur 86 fr)) : SeOk w g x := ⟨h.1, fun ad e e2 => by
  obtain ⟨cur, fr, h1⟩ := h.2 ad e
  obtain ⟨cur2, fr2, h2⟩ := hg
  rw [← e2, h1] at h2
  injection h2 with h2
  injection h2 with _ h3 _
  exact absurd h3 (by decide)⟩
theorem seW_own {w : World} {base : Nat} {a : Option Addr} {n c : Nat} {l : List Lb} {v : Vl} (h : OwnL w base (.slice a n c) l) : SeW w ⟨a, n, c, l, v⟩ := by
  refine ⟨h.sls, fun ad e => ?_⟩
  simp only at e
  subst e
  rcases h.2 with ⟨e, _⟩ | ⟨g, cap, cur, e, _, hg, _⟩
  · cases e
  · cases e; exact ⟨cur, _, hg⟩
/-- What x and y come to, if they fit. -/
def joinP (op : ByteArray) (x y : Series10.Sr) : Option Series10.Sr := if fitB x.labels y.labels = true then some ⟨bigger x.labels y.labels, doV op [x.value, y.value]⟩ else none
/-- All of x with those of l. -/
def joinX (op : ByteArray) (x : Series10.Sr) (l : List Series10.Sr) : List Series10.Sr := l.filterMap (joinP op x)
/-- All of k with all of l. -/
def joinA (op : ByteArray) (k l : List Series10.Sr) : List Series10.Sr := k.flatMap fun x => joinX op x l
theorem joinX_take (op : ByteArray) (x : Series10.Sr) (B : List Se) (m : Nat) (h : m < B.length) : joinX op x ((B.take (m + 1)).map serOf) = joinX op x ((B.take m).map serOf) ++ (joinP op x (serOf (B.getD m se0))).toList := by
  unfold joinX
  rw [List.take_succ_eq_append_getElem h, List.map_append, List.filterMap_append, List.getD_eq_getElem?_getD, List.getElem?_eq_getElem h]
  congr 1
theorem joinA_take (op : ByteArray) (A : List Se) (l : List Series10.Sr) (k : Nat) (h : k < A.length) : joinA op ((A.take (k + 1)).map serOf) l = joinA op ((A.take k).map serOf) l ++ joinX op (serOf (A.getD k se0)) l := by
  unfold joinA
  rw [List.take_succ_eq_append_getElem h, List.map_append, List.flatMap_append, List.getD_eq_getElem?_getD, List.getElem?_eq_getElem h]
  congr 1
  simp
end Go.Proofs.YtdhlfpgibfaimaaGreatDoor
/- series.Scalar, the document's Scalar. -/
namespace Go.Proofs.YtdhlfpgibfaimaaGreatDoor
set_option linter.unusedVariables false
open Go.RowKit
/-- One series without labels. -/
def scal (v : Vl) : Se := ⟨none, 0, 0, [], v⟩
theorem scal_row (W : World) (v : Vl) : Srs (W.alloc (.cells #[.slice none 0 0, .int .i64 v.kind, .int .i64 v.n] 86)) (.slice (some ⟨W.heap.size, 0, none⟩) 1 1) [scal v] := sls_one W (scal v) _ 86 rfl
set_option maxRecDepth 100000 in
set_option maxHeartbeats 1000000 in
/-- series.Scalar. -/
theorem scalar_any (v : Vl) (w : World) : Calls Tryz.prog 47 #[vlV v] w fun e w' => ∃ u, e = .returned u ∧ Srs w' u [scal v] ∧ Below w.heap.size w w' := by
  have ha := vlNew w v
  obtain ⟨a0, a1⟩ := ha.cells
  have hr := scal_row (w.alloc (vlO v)) v
  rw [World.size_alloc] at hr
  replace hr : Hid _ := hr
  have hb : Hid (Below w.heap.size w ((w.alloc (vlO v)).alloc (.cells #[.slice none 0 0, .int .i64 v.kind, .int .i64 v.n] 86))) := (bW0 w _).alloc (by simp) _
  unfold vlV
  go_enter Tryz.func47, Tryz.ntmps47
  go_wp2
  go_ret
  exact ⟨_, rfl, hr.out, hb.out⟩
set_option maxRecDepth 100000 in
set_option maxHeartbeats 1000000 in
/-- The document's Scalar. -/
theorem rscalar_any (v : Vl) (w : World) : Calls Tryz.prog 24 #[vlV v] w fun e w' => ∃ u, e = .returned u ∧ Srs w' u [scal v] ∧ Below w.heap.size w w' := by
  have ha := vlNew w v
  obtain ⟨a0, a1⟩ := ha.cells
  have hr := scal_row (w.alloc (vlO v)) v
  rw [World.size_alloc] at hr
  replace hr : Hid _ := hr
  have hb : Hid (Below w.heap.size w ((w.alloc (vlO v)).alloc (.cells #[.slice none 0 0, .int .i64 v.kind, .int .i64 v.n] 86))) := (bW0 w _).alloc (by simp) _
  unfold vlV
  go_enter Tryz.func24, Tryz.ntmps24
  go_wp2
  go_ret
  exact ⟨_, rfl, hr.out, hb.out⟩
end Go.Proofs.YtdhlfpgibfaimaaGreatDoor
