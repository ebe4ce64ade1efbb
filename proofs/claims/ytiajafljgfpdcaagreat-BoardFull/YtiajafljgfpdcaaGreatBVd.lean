/- board.compare, slices.SortFunc at stands, slices.SortedFunc of the map's values. -/
import Derived.Test.YtiajafljgfpdcaaGreatBVc
import Derived.Test.YtiajafljgfpdcaaGreatBShd
import Derived.Sort.OwnSorted
namespace Go.Proofs.YtiajafljgfpdcaaGreat
set_option linter.unusedVariables false
open Go.RowKit Go.Sort Go.Shelf
set_option maxRecDepth 100000 in
set_option maxHeartbeats 2000000 in
theorem cmp73 (x y : Sd) (w : World) (hx : Lbs w x.sv.v x.s.ls) (hy : Lbs w y.sv.v y.s.ls) (h1 : x.s.ls.length ≤ 1000) (h2 : y.s.ls.length ≤ 1000) :
    Calls Tryz.prog 73 #[encD x, encD y] w fun e w' => e = .returned (.int .i64 (cmpS x.s.ls y.s.ls)) ∧ ∃ q os, w' = grow (w.drewN q) os := by
  have hG : Hid (Gx w ((w.alloc (sO x)).alloc (sO y))) := ((Gx.refl w).alloc _).alloc _
  have hc := compare_grw x.sv.v y.sv.v x.s.ls y.s.ls _ (Sls.grow hx hG.out.below) (Sls.grow hy hG.out.below) (by omega) (by omega)
  obtain ⟨⟨xa, xn, xc⟩, xls, ⟨a1, a2, a3, a4, a5, a6, a7⟩, a8, a9⟩ := x
  obtain ⟨⟨ya, yn, yc⟩, yls, ⟨b1, b2, b3, b4, b5, b6, b7⟩, b8, b9⟩ := y
  unfold encD Sv.v at *
  simp only at *
  generalize cmpS xls yls = C at *
  go_enter Tryz.func73, Tryz.ntmps73
  go_wp2_with (go_at_call 47; refine hc.mono ?_; rintro e w1 ⟨rfl, hw1⟩)
  go_ret
  exact ⟨rfl, hG.out.trans hw1⟩
/-- A stand whose labels lay in an elder world. -/
def GoodS (wb : World) (s : Sd) : Prop := Lbs wb s.sv.v s.s.ls ∧ s.s.ls.length ≤ 1000
structure Gs (wb : World) where
  val : Sd
  ok : GoodS wb val
instance (wb : World) : Inhabited (Gs wb) := ⟨⟨sd0, sls_nil wb, by decide⟩⟩
def cmpD {wb : World} (x y : Gs wb) : Int := cmpS x.1.s.ls y.1.s.ls
def encG {wb : World} (x : Gs wb) : List Value := eSd.arr x.1
theorem ltD {wb : World} (x y : Gs wb) : ltOf cmpD x y = true ↔ cmpS x.1.s.ls y.1.s.ls = -1 := by
  show decide (cmpS x.1.s.ls y.1.s.ls < 0) = true ↔ _
  rw [decide_eq_true_iff]
  rcases cmpS_in x.1.s.ls y.1.s.ls with h | h | h <;> rw [h] <;> decide
theorem ltDn {wb : World} (x y : Gs wb) : ltOf cmpD x y = false ↔ cmpS x.1.s.ls y.1.s.ls ≠ -1 := by
  rw [← Bool.not_eq_true, ltD]
theorem swoD (wb : World) : SWO (ltOf (cmpD (wb := wb))) where
  irrefl x := by rw [ltDn, cmpS_self]; decide
  trans x y z h1 h2 := by rw [ltD] at *; exact cmpS_trans h1 h2
  ntrans x y z h1 h2 := by
    rw [ltDn] at *
    intro h
    rcases cmpS_in x.1.s.ls y.1.s.ls with a | a | a
    · exact h1 a
    · rw [cmpS_eq.1 a] at h; exact h2 h
    · have h3 : cmpS y.1.s.ls x.1.s.ls = -1 := by rw [cmpS_neg, a]
      exact h2 (cmpS_trans h3 h)
theorem flatK_flatD {wb : World} (l : List (Gs wb)) : flatK encG 10 l.toArray = (flat eSd (l.map (·.1))).toArray := by
  refine ext_get! (by simp [flat_len]; rfl) fun t ht => ?_
  have ht' : t < l.length * 10 := by simpa using ht
  rw [get_flatK _ _ _ t (by simpa using ht')]
  have hd : t / 10 < l.length := by omega
  have h := flat_get (E := eSd) (l.map (·.1)) (t / 10) (t % 10) (by simpa using hd) (Nat.mod_lt _ (by decide))
  rw [show t / 10 * eSd.k + t % 10 = t by show t / 10 * 10 + t % 10 = t; omega] at h
  have e1 : eSd.arr ((l.map (·.1)).getD (t / 10) eSd.d) = encG (l.toArray[t / 10]!) := by
    unfold encG
    rw [getElem!_pos _ _ (by simpa using hd)]
    simp [hd]
  rw [e1] at h
  have e2 : (flat eSd (l.map (·.1))).toArray[t]! = (flat eSd (l.map (·.1)))[t]?.getD default := by simp [Array.getElem!_eq_getD, Array.getD_eq_getD_getElem?]
  rw [e2, h]
  simp
theorem good_list {wb : World} : ∀ (l : List Sd), (∀ s ∈ l, GoodS wb s) → ∃ L : List (Gs wb), L.map (·.1) = l
  | [], _ => ⟨[], rfl⟩
  | s :: l, h => by
    obtain ⟨L, hL⟩ := good_list l fun x hx => h x (List.mem_cons_of_mem _ hx)
    exact ⟨⟨s, h s (by simp)⟩ :: L, by rw [List.map_cons, hL]⟩
/-- The stands sorted. -/
def SrtD (l : List Sd) : Prop := l.Pairwise fun a b => cmpS b.s.ls a.s.ls ≠ -1
theorem sort102 (wb : World) (base g cap : Nat) (l : List Sd) (w : World) (hB : RowKit.Below wb.heap.size wb w) (hb : wb.heap.size ≤ base) (hgood : ∀ s ∈ l, GoodS wb s) (hown : OwnS TD w base (.slice (some ⟨g, 0, none⟩) l.length cap) l) (hl : l.length ≤ 1000000) :
    Calls Tryz.prog 102 #[.slice (some ⟨g, 0, none⟩) l.length cap, .func (.func 73) #[] #[]] w fun e w' => e = .returned (.tuple #[]) ∧ ∃ l', l'.Perm l ∧ SrtD l' ∧ OwnS TD w' base (.slice (some ⟨g, 0, none⟩) l.length cap) l' ∧ w.grownBy w' (some g) := by
  obtain ⟨L, rfl⟩ := good_list l hgood
  have hLl : (L.map (·.1)).length = L.length := by simp
  rcases hown.2 with ⟨e, h0⟩ | ⟨g', cap', cur, e, hbg, hg, hnc, hcm, hcs, htake⟩
  · cases e
  · cases e
    have eg : ∀ args w, (callFunc 73 args).run Tryz.prog w = .ok (.enter 73 args) w := enters_of Tryz.func73 (by kernel_rfl) rfl
    have hgl : g < w.heap.size := (Array.getElem?_eq_some_iff.1 hg).1
    have hH : HoldsK encG 10 w g 0 L.toArray := by
      unfold HoldsK
      rw [flatK_flatD]
      intro j hj
      have hj' : j < (L.map (·.1)).length * eSd.k := by simpa [flat_len] using hj
      refine ⟨?_, by simp [World.frozen?, hg]⟩
      have hf : j < (flat eSd (L.map (·.1))).length := by rw [flat_len]; exact hj'
      have := World.ownsRow.cells hown (g := g) rfl j ((flat eSd (L.map (·.1)))[j]) (List.getElem?_eq_getElem hf)
      rw [add_at] at this
      rw [this, getElem!_pos _ _ (by simpa using hf)]
      simp
    have hcon := AnyQ.slices_SortFunc Tryz.sortD 10 Tryz.isAgg120 Tryz.sizeOf120 encG (fun _ => rfl) (fun x => eSd.one x.1) cmpD (swoD wb) 73 #[] g 0 cap L.toArray w eg
      (fun m os dk _ x y => ?_) hH hgl (by simp; omega)
    · change Calls Tryz.prog 102 _ _ _ at hcon
      simp only [List.size_toArray] at hcon
      rw [hLl]
      refine hcon.mono ?_
      rintro e w' ⟨rfl, d', n, os, hperm, hsort, rfl⟩
      obtain ⟨hds, _, hpm⟩ := hperm
      have hds' : d'.size = L.length := by rw [hds]; simp
      have hpm2 : d'.toList.Perm L := by
        have h1 : d'.extract 0 L.length = d' := by rw [← hds']; simp
        have h2 : L.toArray.extract 0 L.length = L.toArray := by simp
        rw [h1, h2] at hpm
        simpa using hpm
      have hlen : d'.toList.length = L.length := by simp [hds']
      refine ⟨rfl, d'.toList.map (·.1), hpm2.map _, ?_, ?_, ?_⟩
      · unfold SrtD
        rw [List.pairwise_map, List.pairwise_iff_getElem]
        intro i j hi hj hij
        have := hsort i j (Nat.zero_le _) hij (by simpa [hds'] using hj)
        rw [ltDn] at this
        rw [getElem!_pos _ _ (by simpa using hj), getElem!_pos _ _ (by simpa using hi)] at this
        simpa using this
      · unfold sortWorldK putRowK
        have hfk : flatK encG 10 d' = (flat eSd (d'.toList.map (·.1))).toArray := flatK_flatD d'.toList
        rw [hfk]
        show World.ownsRow _ _ _ _ _ _ _
        unfold World.ownsRow
        have hlen2 : (d'.toList.map (·.1)).length = L.length := by rw [List.length_map]; exact hlen
        rw [hlen2]
        refine ⟨by rw [flat_len, hlen2], .inr ⟨g, cap, _, rfl, hbg, heap_sortedK _ hg, by rw [← hLl]; exact hnc, hcm, by simp [putCells]; exact hcs, ?_⟩⟩
        have hfs : (flat eSd (d'.toList.map (·.1))).toArray.size = L.length * eSd.k := by simp [flat_len, hds']
        rw [← hfs]
        refine putCells_take cur _ ?_
        rw [hfs, hcs]
        exact Nat.mul_le_mul_right _ (by rw [← hLl]; exact hnc)
      · exact grownBy_sortedK _
    · have hgw : w.grownBy (sortWorldK encG 10 w g 0 m dk os) (some g) := grownBy_sortedK _
      have hBs : RowKit.Below wb.heap.size wb (sortWorldK encG 10 w g 0 m dk os) := hB.grown hgw hB.size (fun k e => by cases e; omega)
      exact cmp73 x.1 y.1 _ (Sls.grow x.2.1 hBs) (Sls.grow y.2.1 hBs) x.2.2 y.2.2
/-- Sorted stands of a map are its rising list. -/
theorem srt_rise {M l : List Sd} (hM : RiseG (fun s : Sd => s.s.ls) M) (hp : l.Perm M) (hs : SrtD l) : l = M := by
  have hn : l.Nodup := hp.symm.nodup hM.nodup
  refine rise_ext (f := fun s : Sd => s.s.ls) ?_ hM fun x => hp.mem_iff
  unfold RiseG
  rw [List.pairwise_iff_getElem]
  intro i j hi hj hij
  have h1 := List.pairwise_iff_getElem.1 hs i j hi hj hij
  have h2 : l[i] ≠ l[j] := List.pairwise_iff_getElem.1 hn i j hi hj hij
  rcases cmpS_in l[i].s.ls l[j].s.ls with h | h | h
  · exact h
  · exfalso
    have e := cmpS_eq.1 h
    have g1 := getG_of hM (hp.mem_iff.1 (List.getElem_mem hi))
    have g2 := getG_of hM (hp.mem_iff.1 (List.getElem_mem hj))
    simp only [e] at g1
    rw [g1] at g2
    exact h2 (Option.some.inj g2)
  · exact absurd (by rw [cmpS_neg, h]) h1
set_option maxRecDepth 100000 in
set_option maxHeartbeats 2000000 in
/-- slices.SortedFunc(maps.Values(m), compare): the map's stands, rising. -/
theorem sorted71 (Bm b : Nat) (M : List Sd) (w : World) (hBm : Bm < w.heap.size) (hm : w.cell? ⟨Bm, 0, none⟩ = some (.map (some b))) (hM : MapIs w b M) (hS : Sds w M) (hl : M.length ≤ 1000000) :
    Calls Tryz.prog 71 #[.func (.func 103) #[] #[.pointer (some ⟨Bm, 0, none⟩)], .func (.func 73) #[] #[]] w fun e w' => ∃ v, e = .returned v ∧ OwnS TD w' w.heap.size v M ∧ RowKit.Below w.heap.size w w' := by
  have eg : ∀ args w, (callFunc 103 args).run Tryz.prog w = .ok (.enter 103 args) w := enters_of Tryz.func103 (by kernel_rfl) rfl
  have hcol := collect_in 103 #[.pointer (some ⟨Bm, 0, none⟩)] eg M hl w (values_stops (6 - 1) (by omega) Bm b M w hBm hm hM)
  have hgood : ∀ s ∈ M, GoodS w s := fun s hs => ⟨hS s hs, by have := (hM.sets s hs).2.2; omega⟩
  have hsort : ∀ v xs w1, xs.Perm M → OwnS TD w1 w.heap.size v xs → RowKit.Below w.heap.size w w1 →
      Calls Tryz.prog 102 #[v, .func (.func 73) #[] #[]] w1 fun e w' => e = .returned (.tuple #[]) ∧ OwnS TD w' w.heap.size v M ∧ RowKit.Below w.heap.size w w' := fun v xs w1 hp ho hb => by
    rcases ho.2 with ⟨rfl, h0⟩ | ⟨g, cap, cur, rfl, hbg, _⟩
    · have : xs = [] := List.length_eq_zero_iff.1 h0
      subst this
      have hM0 : M = [] := hp.symm.eq_nil
      subst hM0
      have := AnyF.slices_SortFunc_none Tryz.sortD none 0 (.func (.func 73) #[] #[]) w1
      change Calls Tryz.prog 102 _ _ _ at this
      refine this.mono ?_
      rintro e w' ⟨rfl, rfl⟩
      exact ⟨rfl, OwnS.nil _ _, hb⟩
    · refine (sort102 w w.heap.size g cap xs w1 hb (Nat.le_refl _) (fun s hs => hgood s (hp.mem_iff.1 hs)) ho (by rw [hp.length_eq]; exact hl)).mono ?_
      rintro e w' ⟨rfl, l', hp', hs', ho', hg'⟩
      obtain rfl := srt_rise hM.rise (hp'.trans hp) hs'
      exact ⟨rfl, ho', hb.grown hg' hb.size (fun k e => by cases e; exact hbg)⟩
  go_enter Tryz.func71, Tryz.ntmps71
  go_wp2_with (first
    | (go_at_call 101; refine hcol.mono ?_; rintro e w1 ⟨v1, xs, rfl, hp, ho, hb⟩; obtain ⟨va, vc, rfl⟩ := ho.shape)
    | (go_at_call 102; refine (hsort _ xs _ hp ho hb).mono ?_; rintro e w2 ⟨rfl, ho2, hb2⟩))
  go_ret
  exact ⟨_, rfl, ho2, hb2⟩
end Go.Proofs.YtiajafljgfpdcaaGreat
