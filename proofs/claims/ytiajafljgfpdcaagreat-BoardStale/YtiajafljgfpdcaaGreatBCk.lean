/- slices.Equal of labels, isSet, mayBe, Check. -/
import Derived.Test.YtiajafljgfpdcaaGreatBUp
import Derived.Test.YtiajafljgfpdcaaGreatMk
import Derived.Test.YtiajafljgfpdcaaGreatSCk
namespace Go.Proofs.YtiajafljgfpdcaaGreat
set_option linter.unusedVariables false
open Go.RowKit
set_option maxRecDepth 100000 in
set_option maxHeartbeats 2000000 in
theorem equal105 (v u : Value) (a b : List Lb) (w : World) (hv : Lbs w v a) (hu : Lbs w u b) (hla : a.length ≤ 1000000) (hlb : b.length ≤ 1000000) :
    Calls Tryz.prog 105 #[v, u] w fun e w' => e = .returned (.bool (decide (a = b))) ∧ Below w.heap.size w w' := by
  obtain ⟨a1, c1, rfl⟩ := hv.shape
  obtain ⟨a2, c2, rfl⟩ := hu.shape
  replace hv : Hid (Lbs w (.slice a1 a.length c1) a) := hv
  replace hu : Hid (Lbs w (.slice a2 b.length c2) b) := hu
  by_cases hlen : a.length = b.length
  · go_enter Tryz.func105, Tryz.ntmps105
    go_wp2
    go_loopw [13] (fun i wr => ∃ k d : Nat, k ≤ a.length ∧ i = .int .i64 k ∧ Hid (a.take k = b.take k) ∧ wr = w.drewN d) (fun i _ => a.length - (intOf i).toNat)
    case atStart => exact ⟨0, 0, Nat.zero_le _, rfl, rfl, rfl⟩
    case round =>
      obtain ⟨k, d, hk, rfl, htk, rfl⟩ := hrel
      by_cases hlt : k < a.length
      · have hki : (k : Int) < (a.length : Int) := by omega
        have hkb : (k : Int) < (b.length : Int) := by omega
        obtain ⟨b1, o1, rfl, x0, x1⟩ := lb_at hv.out k (by omega)
        obtain ⟨b2, o2, rfl, y0, y1⟩ := lb_at hu.out k (by omega)
        by_cases hpq : a.getD k lb0 = b.getD k lb0
        · have hst : Hid (a.take (k + 1) = b.take (k + 1)) := by
            show _ = _
            rw [take_getD a lb0 k (by omega), take_getD b lb0 k (by omega), htk.out, hpq]
          rw [hpq] at x0 x1
          clear hpq
          generalize b.getD k lb0 = x at *
          obtain ⟨nx, vx⟩ := x
          simp only at x0 x1 y0 y1
          go_wp2
          go_quiet (fail)
          go_wp2
          refine ⟨⟨k + 1, _, by omega, by go_num, hst, rfl⟩, ?_⟩
          simp [intOf]; omega
        · have hne : Hid (decide (a = b) = false) := by
            show _ = _
            rw [decide_eq_false_iff_not]
            intro e
            exact hpq (by rw [e])
          have hb3 : (((a.getD k lb0).name.toList == (b.getD k lb0).name.toList) = false) ∨ (((a.getD k lb0).name.toList == (b.getD k lb0).name.toList) = true ∧ ((a.getD k lb0).value.toList == (b.getD k lb0).value.toList) = false) := by
            cases e2 : ((a.getD k lb0).name.toList == (b.getD k lb0).name.toList) with
            | false => exact .inl rfl
            | true =>
              cases e3 : ((a.getD k lb0).value.toList == (b.getD k lb0).value.toList) with
              | false => exact .inr ⟨rfl, rfl⟩
              | true =>
                exfalso
                exact hpq (lb_ext (toList_eq e2) (toList_eq e3))
          clear hpq
          generalize a.getD k lb0 = x at *
          generalize b.getD k lb0 = y at *
          obtain ⟨nx, vx⟩ := x
          obtain ⟨ny, vy⟩ := y
          simp only at x0 x1 y0 y1 hb3
          rcases hb3 with e1 | ⟨e1, e2⟩
          all_goals
            go_wp2
            go_quiet (fail)
            go_wp2
            go_ret
            exact ⟨by have h9 := hne.out; rw [decide_eq_false_iff_not] at h9; simp [h9], below_drewN (below_drewN (Below.refl _ _) _) _⟩
      · obtain rfl : k = a.length := by omega
        have hki : ¬ (a.length : Int) < (a.length : Int) := by omega
        have heq : Hid (a = b) := by
          show a = b
          have := htk.out
          rw [List.take_of_length_le (Nat.le_refl _), hlen, List.take_of_length_le (Nat.le_refl _)] at this
          exact this
        go_wp2
        go_ret
        exact ⟨by have h9 := heq.out; simp [h9], below_drewN (Below.refl _ _) _⟩
  · have hne : decide (a = b) = false := by
      rw [decide_eq_false_iff_not]
      intro e
      exact hlen (by rw [e])
    have hli : ¬ (a.length : Int) = (b.length : Int) := by omega
    rw [hne]
    go_enter Tryz.func105, Tryz.ntmps105
    go_wp2
    go_ret
    exact ⟨rfl, Below.refl _ _⟩
theorem setB_of {l out : List Lb} {er : Int} (h : MkQ l out er) : setB l = (decide (er = 0) && decide (out = l)) := by
  by_cases hs : IsSet l
  · obtain ⟨rfl, rfl⟩ := h.one hs.make
    simp [setB, hs]
  · have : ¬ (er = 0 ∧ out = l) := fun ⟨h1, h2⟩ => hs (h2 ▸ h.set h1)
    rw [setB_no hs]
    by_cases h1 : er = 0
    · have h2 : out ≠ l := fun e => this ⟨h1, e⟩
      simp [h2]
    · simp [h1]
set_option maxRecDepth 100000 in
set_option maxHeartbeats 2000000 in
theorem isSet82 (v : Value) (l : List Lb) (w : World) (hv : Lbs w v l) (hr : LbsR l) (hl : l.length ≤ 100000) : Calls Tryz.prog 82 #[v] w fun e w' => e = .returned (.bool (setB l)) ∧ Below w.heap.size w w' := by
  have hm : ∃ out er, Calls Tryz.prog 99 #[v] w fun e w' => ∃ u, e = .returned (.tuple #[u, .int .i64 er]) ∧ MkQ l out er ∧ OwnL w' w.heap.size u out ∧ Below w.heap.size w w' := by
    rcases hf : mkF l with ⟨out, er⟩
    refine ⟨out, er, (make_any v l w hv hr hl).mono ?_⟩
    rintro e w' ⟨u, out1, er1, rfl, hQ, hO, hB⟩
    have := mkF_of hQ
    rw [hf] at this
    obtain ⟨rfl, rfl⟩ := Prod.mk.inj this
    exact ⟨u, rfl, hQ, hO, hB⟩
  obtain ⟨out, er, hm⟩ := hm
  by_cases h0 : er = 0
  · subst h0
    have he := fun u w1 (hQ : MkQ l out 0) (hO : OwnL w1 w.heap.size u out) (hb : Below w.heap.size w w1) => equal105 u v out l w1 hO.sls (Sls.grow hv hb) (by have := hQ.set rfl; have := this.2.2; omega) (by omega)
    obtain ⟨a, c, rfl⟩ := hv.shape
    go_enter Tryz.func82, Tryz.ntmps82
    go_wp2_with (first
      | (go_at_call 99; refine hm.mono ?_; rintro e w1 ⟨u, rfl, hQ, hO, hb1⟩)
      | (go_at_call 105; refine (he _ _ hQ hO hb1).mono ?_; rintro e w2 ⟨rfl, hb2⟩))
    go_ret
    exact ⟨by rw [setB_of hQ]; simp, hb1.trans (hb2.mono hb1.size)⟩
  · obtain ⟨a, c, rfl⟩ := hv.shape
    go_enter Tryz.func82, Tryz.ntmps82
    go_wp2_with (first
      | (go_at_call 99; refine hm.mono ?_; rintro e w1 ⟨u, rfl, hQ, hO, hb1⟩))
    go_ret
    exact ⟨by rw [setB_of hQ]; simp [h0], hb1⟩
/-- An entry that may be. -/
noncomputable def mbB (e : List Lb × S.Inst) : Bool := setB e.1 && S.okB e.2
set_option maxRecDepth 100000 in
set_option maxHeartbeats 2000000 in
theorem mayBe46 (e : En) (w : World) (hv : Lbs w e.sv.v e.ls) (hr : LbsR e.ls) (hl : e.ls.length ≤ 100000) : Calls Tryz.prog 46 #[encE e] w fun e' w' => e' = .returned (.bool (mbB (enF e))) ∧ Below w.heap.size w w' := by
  have hb0 : Below w.heap.size w (w.alloc (.cells #[.slice e.sv.a e.sv.n e.sv.c, .int .i64 e.x.st, .int .i64 e.x.since, .int .i64 e.x.fr, .int .i64 e.x.quiet, .int .i64 e.x.seen, .int .i64 e.x.vk, .int .i64 e.x.vn] 67)) := (Below.refl _ w).alloc (Nat.le_refl _) _
  have hx0 : (w.alloc (.cells #[.slice e.sv.a e.sv.n e.sv.c, .int .i64 e.x.st, .int .i64 e.x.since, .int .i64 e.x.fr, .int .i64 e.x.quiet, .int .i64 e.x.seen, .int .i64 e.x.vk, .int .i64 e.x.vn] 67)).heap[w.heap.size]? = some (.cells #[.slice e.sv.a e.sv.n e.sv.c, .int .i64 e.x.st, .int .i64 e.x.since, .int .i64 e.x.fr, .int .i64 e.x.quiet, .int .i64 e.x.seen, .int .i64 e.x.vk, .int .i64 e.x.vn] 67 (0, 0)) := heap_new _ _
  have hset := isSet82 e.sv.v e.ls _ (Sls.grow hv hb0) hr hl
  have hchk := fun W => S.check11 e.x W
  obtain ⟨⟨ea, en, ec⟩, els, ⟨st, since, fr, quiet, seen, vk, vn⟩⟩ := e
  unfold encE
  unfold S.encI at hchk
  unfold Sv.v at hset
  simp only at *
  have hmb : mbB (enF ⟨⟨ea, en, ec⟩, els, ⟨st, since, fr, quiet, seen, vk, vn⟩⟩) = (setB els && S.okB ⟨st, since, fr, quiet, seen, vk, vn⟩) := rfl
  rw [hmb]
  cases hsb : setB els with
  | false =>
    rw [hsb] at hset
    go_enter Tryz.func46, Tryz.ntmps46
    go_wp2_with (go_at_call 82; refine hset.mono ?_; rintro e w1 ⟨rfl, hb1⟩)
    go_ret
    exact ⟨rfl, hb0.trans (hb1.mono hb0.size)⟩
  | true =>
    rw [hsb] at hset
    have hx := fun w1 (hb1 : Below (w.alloc (.cells #[.slice ea en ec, .int .i64 st, .int .i64 since, .int .i64 fr, .int .i64 quiet, .int .i64 seen, .int .i64 vk, .int .i64 vn] 67)).heap.size (w.alloc (.cells #[.slice ea en ec, .int .i64 st, .int .i64 since, .int .i64 fr, .int .i64 quiet, .int .i64 seen, .int .i64 vk, .int .i64 vn] 67)) w1) => (hb1.block w.heap.size (by simp)).trans hx0
    have hcells : ∀ (w1 : World), w1.heap[w.heap.size]? = some (.cells #[.slice ea en ec, .int .i64 st, .int .i64 since, .int .i64 fr, .int .i64 quiet, .int .i64 seen, .int .i64 vk, .int .i64 vn] 67 (0, 0)) → w1.cell? ⟨w.heap.size, 1, none⟩ = some (.int .i64 st) ∧ w1.cell? ⟨w.heap.size, 2, none⟩ = some (.int .i64 since) ∧ w1.cell? ⟨w.heap.size, 3, none⟩ = some (.int .i64 fr) ∧ w1.cell? ⟨w.heap.size, 4, none⟩ = some (.int .i64 quiet) ∧ w1.cell? ⟨w.heap.size, 5, none⟩ = some (.int .i64 seen) ∧ w1.cell? ⟨w.heap.size, 6, none⟩ = some (.int .i64 vk) ∧ w1.cell? ⟨w.heap.size, 7, none⟩ = some (.int .i64 vn) :=
      fun w1 h => by simp [World.cell?, h]
    have hce : S.chE ⟨st, since, fr, quiet, seen, vk, vn⟩ = if S.okB ⟨st, since, fr, quiet, seen, vk, vn⟩ then 0 else 2 := rfl
    cases hok : S.okB ⟨st, since, fr, quiet, seen, vk, vn⟩ with
    | true =>
      rw [hok] at hce
      simp only [if_true] at hce
      rw [hce] at hchk
      clear hok hce hsb
      go_enter Tryz.func46, Tryz.ntmps46
      go_wp2_with (first
        | (go_at_call 82; refine hset.mono ?_; rintro e w1 ⟨rfl, hb1⟩; obtain ⟨p1, p2, p3, p4, p5, p6, p7⟩ := hcells w1 (hx w1 hb1))
        | (go_at_call 83; refine (hchk _).mono ?_; rintro e w2 ⟨rfl, hb2⟩))
      go_ret
      exact ⟨rfl, (hb0.trans (hb1.mono hb0.size)).trans (hb2.mono (hb0.trans (hb1.mono hb0.size)).size)⟩
    | false =>
      rw [hok] at hce
      simp only [Bool.false_eq_true, if_false] at hce
      rw [hce] at hchk
      clear hok hce hsb
      go_enter Tryz.func46, Tryz.ntmps46
      go_wp2_with (first
        | (go_at_call 82; refine hset.mono ?_; rintro e w1 ⟨rfl, hb1⟩; obtain ⟨p1, p2, p3, p4, p5, p6, p7⟩ := hcells w1 (hx w1 hb1))
        | (go_at_call 83; refine (hchk _).mono ?_; rintro e w2 ⟨rfl, hb2⟩))
      go_ret
      exact ⟨rfl, (hb0.trans (hb1.mono hb0.size)).trans (hb2.mono (hb0.trans (hb1.mono hb0.size)).size)⟩
/-- A board. -/
def IsBd (l : List (List Lb × S.Inst)) : Prop := RiseG (fun e : List Lb × S.Inst => e.1) l ∧ ∀ e ∈ l, mbB e = true
open Classical in
/-- What Check tells. -/
noncomputable def chkF (l : List (List Lb × S.Inst)) : Int := if 100 < l.length then 6 else if IsBd l then 0 else 2
theorem bd_nil : IsBd [] := ⟨RiseG.nil, by simp⟩
theorem bd_take {l : List (List Lb × S.Inst)} (h : IsBd l) (k : Nat) : IsBd (l.take k) := ⟨List.Pairwise.sublist (List.take_sublist k l) h.1, fun e he => h.2 e (List.mem_of_mem_take he)⟩
def pr0 : List Lb × S.Inst := enF en0
theorem bd_succ {l : List (List Lb × S.Inst)} {k : Nat} (hk : k < l.length) (h : IsBd (l.take k)) (hm : mbB (l.getD k pr0) = true) (hc : k = 0 ∨ cmpS (l.getD (k - 1) pr0).1 (l.getD k pr0).1 = -1) : IsBd (l.take (k + 1)) := by
  rw [take_getD l pr0 k hk]
  refine ⟨?_, fun e he => ?_⟩
  · unfold RiseG
    rw [List.pairwise_append]
    refine ⟨h.1, List.pairwise_singleton _ _, fun a ha b hb => ?_⟩
    obtain rfl : b = l.getD k pr0 := by simpa using hb
    rcases hc with rfl | hc
    · simp at ha
    · obtain ⟨j, hj, rfl⟩ := List.mem_iff_getElem.1 ha
      rw [List.length_take] at hj
      by_cases hjk : j = k - 1
      · subst hjk
        rw [List.getElem_take]
        have : l.getD (k - 1) pr0 = l[k - 1] := by simp [show k - 1 < l.length by omega]
        rw [← this]; exact hc
      · have h1 := List.pairwise_iff_getElem.1 h.1 j (k - 1) (by rw [List.length_take]; omega) (by rw [List.length_take]; omega) (by omega)
        rw [List.getElem_take] at h1 ⊢
        rw [List.getElem_take] at h1
        have : l.getD (k - 1) pr0 = l[k - 1] := by simp [show k - 1 < l.length by omega]
        rw [← this] at h1
        exact cmpS_trans h1 hc
  · rcases List.mem_append.1 he with he | he
    · exact h.2 e he
    · obtain rfl : e = l.getD k pr0 := by simpa using he
      exact hm
theorem bd_not_mb {l : List (List Lb × S.Inst)} {k : Nat} (hk : k < l.length) (hm : mbB (l.getD k pr0) = false) : ¬ IsBd l := fun h => by
  rw [h.2 _ (getD_mem l pr0 k hk)] at hm; cases hm
theorem bd_not_cmp {l : List (List Lb × S.Inst)} {k : Nat} (hk : k < l.length) (h0 : 0 < k) (hc : cmpS (l.getD (k - 1) pr0).1 (l.getD k pr0).1 ≠ -1) : ¬ IsBd l := fun h => by
  have h1 := List.pairwise_iff_getElem.1 h.1 (k - 1) k (by omega) hk (by omega)
  have e1 : l.getD (k - 1) pr0 = l[k - 1] := by simp [show k - 1 < l.length by omega]
  have e2 : l.getD k pr0 = l[k] := by simp [hk]
  rw [e1, e2] at hc
  exact hc h1
theorem getD_map (l : List En) (k : Nat) : (l.map enF).getD k pr0 = enF (l.getD k en0) := by
  rw [List.getD_eq_getElem?_getD, List.getElem?_map, List.getD_eq_getElem?_getD]
  cases l[k]? <;> rfl
set_option maxRecDepth 100000 in
set_option maxHeartbeats 4000000 in
theorem check17 (v : Value) (l : List En) (w : World) (hv : Ens w v l) (hl : l.length ≤ 1000000) (hr : ∀ e ∈ l, LbsR e.ls ∧ e.ls.length ≤ 100000) : Calls Tryz.prog 17 #[v] w fun e w' => e = .returned (.int .i64 (chkF (l.map enF))) ∧ Below w.heap.size w w' := by
  obtain ⟨a, c, rfl⟩ := hv.1.shape
  have hlm : (l.map enF).length = l.length := List.length_map _
  by_cases h100 : 100 < l.length
  · have hF : chkF (l.map enF) = 6 := by unfold chkF; rw [hlm, if_pos h100]
    rw [hF]
    have hi : (100 : Int) < (l.length : Int) := by omega
    go_enter Tryz.func17, Tryz.ntmps17
    go_wp2
    go_ret
    exact ⟨rfl, Below.refl _ _⟩
  · have hi : ¬ (100 : Int) < (l.length : Int) := by omega
    have hF0 : Hid (IsBd (l.map enF) → chkF (l.map enF) = 0) := fun h => by unfold chkF; rw [hlm, if_neg h100, if_pos h]
    have hF2 : Hid (¬ IsBd (l.map enF) → chkF (l.map enF) = 2) := fun h => by unfold chkF; rw [hlm, if_neg h100, if_neg h]
    go_enter Tryz.func17, Tryz.ntmps17
    go_wp2
    go_loopw [10] (fun i wr => ∃ k : Nat, k ≤ l.length ∧ i = .int .i64 k ∧ Hid (IsBd ((l.map enF).take k)) ∧ Hid (Below w.heap.size w wr)) (fun i _ => l.length - (intOf i).toNat)
    case atStart => exact ⟨0, Nat.zero_le _, rfl, (show IsBd _ by rw [List.take_zero]; exact bd_nil), Below.refl _ _⟩
    case round =>
      obtain ⟨k, hk, rfl, hG, hB⟩ := hrel
      by_cases hlt : k < l.length
      · have hki : (k : Int) < (l.length : Int) := by omega
        have hltm : k < (l.map enF).length := by omega
        obtain ⟨bb, o, rfl, hat⟩ := en_at (Sls.grow hv.1 hB.out) k hlt
        obtain ⟨x0, x1, x2, x3, x4, x5, x6, x7⟩ := at_en hat
        have hmem := getD_mem l en0 k hlt
        have hmb := fun W (hW : Below wr.heap.size wr W) => mayBe46 (l.getD k en0) W (Sls.grow (Sls.grow (hv.2 _ hmem) hB.out) hW) (hr _ hmem).1 (hr _ hmem).2
        have hnm := bd_not_mb (l := l.map enF) hltm
        have hlb := Sls.grow (hv.2 _ hmem) hB.out
        have hlb2 := (hr _ hmem).2
        rw [getD_map] at hnm
        have hG5 : Hid (Below wr.heap.size wr (wr.alloc (.cells #[.slice (l.getD k en0).sv.a (l.getD k en0).sv.n (l.getD k en0).sv.c, .int .i64 (l.getD k en0).x.st, .int .i64 (l.getD k en0).x.since, .int .i64 (l.getD k en0).x.fr, .int .i64 (l.getD k en0).x.quiet, .int .i64 (l.getD k en0).x.seen, .int .i64 (l.getD k en0).x.vk, .int .i64 (l.getD k en0).x.vn] 67))) := (Below.refl _ wr).alloc (Nat.le_refl _) _
        have hx5 := heap_new wr (.cells #[.slice (l.getD k en0).sv.a (l.getD k en0).sv.n (l.getD k en0).sv.c, .int .i64 (l.getD k en0).x.st, .int .i64 (l.getD k en0).x.since, .int .i64 (l.getD k en0).x.fr, .int .i64 (l.getD k en0).x.quiet, .int .i64 (l.getD k en0).x.seen, .int .i64 (l.getD k en0).x.vk, .int .i64 (l.getD k en0).x.vn] 67)
        have hx3 : wr.heap.size < (wr.alloc (.cells #[.slice (l.getD k en0).sv.a (l.getD k en0).sv.n (l.getD k en0).sv.c, .int .i64 (l.getD k en0).x.st, .int .i64 (l.getD k en0).x.since, .int .i64 (l.getD k en0).x.fr, .int .i64 (l.getD k en0).x.quiet, .int .i64 (l.getD k en0).x.seen, .int .i64 (l.getD k en0).x.vk, .int .i64 (l.getD k en0).x.vn] 67)).heap.size := by simp
        have hB5 : Hid (Below w.heap.size w (wr.alloc (.cells #[.slice (l.getD k en0).sv.a (l.getD k en0).sv.n (l.getD k en0).sv.c, .int .i64 (l.getD k en0).x.st, .int .i64 (l.getD k en0).x.since, .int .i64 (l.getD k en0).x.fr, .int .i64 (l.getD k en0).x.quiet, .int .i64 (l.getD k en0).x.seen, .int .i64 (l.getD k en0).x.vk, .int .i64 (l.getD k en0).x.vn] 67))) := hB.out.trans (hG5.out.mono hB.out.size)
        have hbs := bd_succ (l := l.map enF) hltm hG.out
        have hnc := bd_not_cmp (l := l.map enF) hltm
        rw [getD_map, getD_map] at hbs hnc
        have hprev : ∀ j, k = j + 1 → ∃ bb2 o2, (some ⟨bb, o, none⟩ : Option Addr) = some ⟨bb2, o2, none⟩ ∧ At eEn wr bb2 (o2 + j * 8) (l.getD j en0) := fun j hj => en_at (Sls.grow hv.1 hB.out) j (by omega)
        have hplb : ∀ j, k = j + 1 → Lbs wr (l.getD j en0).sv.v (l.getD j en0).ls ∧ (l.getD j en0).ls.length ≤ 100000 := fun j hj => ⟨Sls.grow (hv.2 _ (getD_mem l en0 j (by omega))) hB.out, (hr _ (getD_mem l en0 j (by omega))).2⟩
        have hke : k - 1 = k - 1 := rfl
        generalize hE : l.getD k en0 = e at *
        obtain ⟨⟨ea, en, ec⟩, els, ⟨st, since, fr, quiet, seen, vk, vn⟩⟩ := e
        unfold encE at hmb
        unfold Sv.v at hlb
        simp only at *
        have hmb2 : ∀ (W5 : World), Below wr.heap.size wr W5 → ∀ q : Bel W5, Calls Tryz.prog 46 #[.agg #[.slice ea en ec, .int .i64 st, .int .i64 since, .int .i64 fr, .int .i64 quiet, .int .i64 seen, .int .i64 vk, .int .i64 vn]] q.W fun e' w' => e' = .returned (.bool (mbB (enF ⟨⟨ea, en, ec⟩, els, ⟨st, since, fr, quiet, seen, vk, vn⟩⟩))) ∧ Below q.W.heap.size q.W w' := fun W5 h q => hmb _ (h.trans (q.h.mono h.size))
        go_upto_region 6 with fail
        generalize (wr.alloc (.cells #[.slice ea en ec, .int .i64 st, .int .i64 since, .int .i64 fr, .int .i64 quiet, .int .i64 seen, .int .i64 vk, .int .i64 vn] 67)) = W5 at *
        have hmb3 := hmb2 W5 hG5.out
        have hxq : ∀ q : Bel W5, q.W.heap[wr.heap.size]? = some (.cells #[.slice ea en ec, .int .i64 st, .int .i64 since, .int .i64 fr, .int .i64 quiet, .int .i64 seen, .int .i64 vk, .int .i64 vn] 67 (0, 0)) := fun q => (q.h.block _ hx3).trans hx5
        have s0 : ∀ q : Bel W5, q.W.cell? ⟨wr.heap.size, 0, none⟩ = some (.slice ea en ec) := fun q => by simp [World.cell?, hxq q]
        have s1 : ∀ q : Bel W5, q.W.cell? ⟨wr.heap.size, 1, none⟩ = some (.int .i64 st) := fun q => by simp [World.cell?, hxq q]
        have s2 : ∀ q : Bel W5, q.W.cell? ⟨wr.heap.size, 2, none⟩ = some (.int .i64 since) := fun q => by simp [World.cell?, hxq q]
        have s3 : ∀ q : Bel W5, q.W.cell? ⟨wr.heap.size, 3, none⟩ = some (.int .i64 fr) := fun q => by simp [World.cell?, hxq q]
        have s4 : ∀ q : Bel W5, q.W.cell? ⟨wr.heap.size, 4, none⟩ = some (.int .i64 quiet) := fun q => by simp [World.cell?, hxq q]
        have s5 : ∀ q : Bel W5, q.W.cell? ⟨wr.heap.size, 5, none⟩ = some (.int .i64 seen) := fun q => by simp [World.cell?, hxq q]
        have s6 : ∀ q : Bel W5, q.W.cell? ⟨wr.heap.size, 6, none⟩ = some (.int .i64 vk) := fun q => by simp [World.cell?, hxq q]
        have s7 : ∀ q : Bel W5, q.W.cell? ⟨wr.heap.size, 7, none⟩ = some (.int .i64 vn) := fun q => by simp [World.cell?, hxq q]
        have hGq : ∀ q : Bel W5, Below wr.heap.size wr q.W := fun q => hG5.out.trans (q.h.mono hG5.out.size)
        clear hxq hmb hmb2 x0 x1 x2 x3 x4 x5 x6 x7 hat
        replace hnm : Hid (mbB (enF ⟨⟨ea, en, ec⟩, els, ⟨st, since, fr, quiet, seen, vk, vn⟩⟩) = false → ¬ IsBd (l.map enF)) := hnm
        cases hmbc : mbB (enF ⟨⟨ea, en, ec⟩, els, ⟨st, since, fr, quiet, seen, vk, vn⟩⟩) with
        | false =>
          rw [hmbc] at hmb3
          have hR : Hid (chkF (l.map enF) = 2) := hF2.out (hnm.out hmbc)
          clear hbs hnc hmbc
          refine wp_region_bel (by kernel_rfl) (by kernel_rfl) ?_
          repeat (go_big_quiet_step (first | (go_at_call 46; exact Calls.bel (hmb3 _))))
          refine wpQuiet_nil ?_
          rintro w8 ⟨⟨_, h8⟩, rfl⟩
          go_wp2
          go_ret
          exact ⟨by rw [hR.out]; rfl, hB5.out.trans (h8.mono hB5.out.size)⟩
        | true =>
          rw [hmbc] at hmb3
          cases k with
          | zero =>
            have hG2 : Hid (IsBd ((l.map enF).take (0 + 1))) := hbs hmbc (.inl rfl)
            clear hbs hnc hmbc
            refine wp_region_bel (by kernel_rfl) (by kernel_rfl) ?_
            repeat (go_big_quiet_step (first | (go_at_call 46; exact Calls.bel (hmb3 _))))
            refine wpQuiet_nil ?_
            rintro w8 ⟨⟨_, h8⟩, rfl⟩
            have hB8 : Hid (Below w.heap.size w w8) := hB5.out.trans (Below.mono h8 hB5.out.size)
            go_wp2
            refine ⟨⟨0 + 1, by omega, by go_num, hG2, hB8⟩, ?_⟩
            simp [intOf]; omega
          | succ j =>
            obtain ⟨bb2, o2, he2, hat2⟩ := hprev j rfl
            cases he2
            obtain ⟨p0, -⟩ := at_en hat2
            obtain ⟨hpl, hpl2⟩ := hplb j rfl
            have d0 : ∀ q : Bel W5, q.W.cell? ⟨bb, o + j * 8, none⟩ = some (.slice (l.getD j en0).sv.a (l.getD j en0).sv.n (l.getD j en0).sv.c) := fun q => ((hGq q).cell (p := ⟨bb, o + j * 8, none⟩) (World.block_lt_of_cell? wr _ p0)).trans p0
            have hcmp : ∀ q : Bel W5, Calls Tryz.prog 47 #[.slice (l.getD j en0).sv.a (l.getD j en0).sv.n (l.getD j en0).sv.c, .slice ea en ec] q.W fun e' w' => e' = .returned (.int .i64 (cmpS (l.getD j en0).ls els)) ∧ Below q.W.heap.size q.W w' := fun q => compare_any _ _ _ _ q.W (Sls.grow hpl (hGq q)) (Sls.grow hlb (hGq q)) (by omega) (by omega)
            have hkj : IntKind.i64.wrap (((j + 1 : Nat) : Int) - 1) = (j : Int) := by rw [Go.IntWalk.i64_in _ (by omega)]; omega
            have hjl : (j : Int) < (l.length : Int) := by omega
            have hpos : (0 : Int) < ((j + 1 : Nat) : Int) := by omega
            simp only [Nat.add_sub_cancel] at hbs hnc
            have hbs' := hbs hmbc
            have hnc' := hnc (by omega)
            have e1 : (enF (l.getD j en0)).1 = (l.getD j en0).ls := rfl
            have e2 : (enF ⟨⟨ea, en, ec⟩, els, ⟨st, since, fr, quiet, seen, vk, vn⟩⟩).1 = els := rfl
            rw [e1, e2] at hbs' hnc'
            clear hbs hnc hmbc p0 hat2 hprev hplb hpl e1 e2
            rcases cmpS_in (l.getD j en0).ls els with hc | hc | hc
            · have hG2 : Hid (IsBd ((l.map enF).take (j + 1 + 1))) := hbs' (.inr hc)
              rw [hc] at hcmp
              clear hbs' hnc' hc
              refine wp_region_bel (by kernel_rfl) (by kernel_rfl) ?_
              repeat (go_big_quiet_step (first | (go_at_call 46; exact Calls.bel (hmb3 _)) | (go_at_call 47; exact Calls.bel (hcmp _))))
              refine wpQuiet_nil ?_
              rintro w8 ⟨⟨_, h8⟩, rfl⟩
              have hB8 : Hid (Below w.heap.size w w8) := hB5.out.trans (Below.mono h8 hB5.out.size)
              go_wp2
              refine ⟨⟨j + 1 + 1, by omega, by go_num, hG2, hB8⟩, ?_⟩
              simp [intOf]; omega
            all_goals
              have hR : Hid (chkF (l.map enF) = 2) := hF2.out (hnc' (by rw [hc]; decide))
              rw [hc] at hcmp
              clear hbs' hnc' hc
              refine wp_region_bel (by kernel_rfl) (by kernel_rfl) ?_
              repeat (go_big_quiet_step (first | (go_at_call 46; exact Calls.bel (hmb3 _)) | (go_at_call 47; exact Calls.bel (hcmp _))))
              refine wpQuiet_nil ?_
              rintro w8 ⟨⟨_, h8⟩, rfl⟩
              go_wp2
              go_ret
              exact ⟨by rw [hR.out]; rfl, hB5.out.trans (h8.mono hB5.out.size)⟩
      · obtain rfl : k = l.length := by omega
        have hki : ¬ (l.length : Int) < (l.length : Int) := by omega
        have hok : Hid (chkF (l.map enF) = 0) := hF0.out (by
          have := hG.out
          rwa [List.take_of_length_le (by rw [hlm]; exact Nat.le_refl _)] at this)
        go_wp2
        go_ret
        exact ⟨by rw [hok.out]; rfl, hB.out⟩
end Go.Proofs.YtiajafljgfpdcaaGreat
