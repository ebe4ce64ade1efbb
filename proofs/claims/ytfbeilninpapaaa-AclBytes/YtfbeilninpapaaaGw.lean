/- Equal, Get. -/
import Derived.Test.YtfbeilninpapaaaGv
namespace Go.Proofs.Ytfbeilninpapaaa
set_option linter.unusedVariables false
open Go.RowKit
theorem isBytes_grB (g : Gr) : IsBytes (grB g) := isBytes_append (isBytes_encS _) (isBytes_append (isBytes_encT _) (isBytes_encS _))
theorem isBytes_foB (m : ByteArray) (l : List Gr) (z : Int) : IsBytes (foB m l z) := isBytes_append (isBytes_encT _) (isBytes_append (isBytes_enc _) (isBytes_append (isBytes_cat grB l fun x _ => isBytes_grB x) (isBytes_encS _)))
/-- Two rows of bytes are the same. -/
def eqB (xs ys : List Int) : Bool := (strOfNums xs).toList == (strOfNums ys).toList
theorem eqB_iff {xs ys : List Int} (hx : IsBytes xs) (hy : IsBytes ys) : eqB xs ys = true ↔ xs = ys := by
  unfold eqB
  constructor
  · intro h
    have h := toList_eq h
    rw [← numsS_strOf xs hx, ← numsS_strOf ys hy, h]
  · intro h; rw [h]; simp
set_option maxRecDepth 100000 in
set_option maxHeartbeats 1000000 in
theorem equal_any (u v : Value) (xs ys : List Int) (w : World) (hu : Bts w u xs) (hv : Bts w v ys) : Calls Try.prog 37 #[u, v] w fun e w' => e = .returned (.bool (eqB xs ys)) ∧ w' = w := by
  have h1 := conv_str hu
  have h2 := conv_str hv
  have hE : Hid (eqB xs ys = ((strOfNums xs).toList == (strOfNums ys).toList)) := rfl
  generalize strOfNums xs = X at *
  generalize strOfNums ys = Y at *
  clear hu hv
  go_enter Try.func37, Try.ntmps37
  go_wp2
  go_ret
  exact ⟨by rw [hE.out]; rfl, rfl⟩
/-- A folder that may be. -/
def Vd (m : ByteArray) (l : List Gr) (z : Int) : Prop := puE m l z = 0 ∧ (∀ g ∈ l, GrI g) ∧ (-9223372036854775808 ≤ z ∧ z ≤ 9223372036854775807)
/-- What Get answers. -/
def GtQ (w : World) (bs : List Int) (e : Ending) (w' : World) : Prop := Below w.heap.size w w' ∧ ((∃ m v l z, Vd m l z ∧ foB m l z = bs ∧ e = .returned (.tuple #[.agg #[.string m, v, .int .i64 z], .int .i64 0]) ∧ Grs w' v l) ∨ ((∀ m l z, Vd m l z → foB m l z ≠ bs) ∧ e = .returned (.tuple #[.agg #[.string ⟨#[]⟩, .slice none 0 0, .int .i64 0], .int .i64 150])))
theorem vd_fits {m : ByteArray} {l : List Gr} {z : Int} (h : Vd m l z) : m.size ≤ 24 ∧ GrS l := by
  obtain ⟨h1, h2, h3⟩ := puE_ok h.1
  exact ⟨(nmB_len h1).2, grS_of h3 h.2.1⟩
theorem below_of_grown {w w1 w2 : World} {base g : Nat} (h : Below base w w1) (hg : w1.grownBy w2 (some g)) (hb : base ≤ g) (hw : base ≤ w1.heap.size) : Below base w w2 :=
  h.trans ((Below.refl base w1).grown hg hw (fun k hk => by cases hk; exact hb))
/-- A store of a folder into its box. -/
theorem setF {W : World} {b : Nat} {x y z x' y' z' : Value} (h : W.heap[b]? = some (.cells #[x, y, z] 39 (0, 0))) :
    let W5 := ((W.setCell ⟨b, 0, none⟩ x').setCell ⟨b, 1, none⟩ y').setCell ⟨b, 2, none⟩ z'
    W5.heap[b]? = some (.cells #[x', y', z'] 39 (0, 0)) ∧ W.grownBy W5 (some b) := by
  have h1 := block_setCell (i := 0) (u := x') h
  have h2 := block_setCell (i := 1) (u := y') h1
  have h3 := block_setCell (i := 2) (u := z') h2
  exact ⟨h3, grown_trans (grown_trans (grownBy_set (Below.refl _ _) _ _ _) (grownBy_set (Below.refl _ _) _ _ _)) (grownBy_set (Below.refl _ _) _ _ _)⟩
theorem boxF {W : World} {b : Nat} {x y z : Value} (h : W.heap[b]? = some (.cells #[x, y, z] 39 (0, 0))) : (W.cell? ⟨b, 0, none⟩ = some x ∧ W.cell? ⟨b, 1, none⟩ = some y ∧ W.cell? ⟨b, 2, none⟩ = some z) ∧ (W.frozen? ⟨b, 0, none⟩ = false ∧ W.frozen? ⟨b, 1, none⟩ = false ∧ W.frozen? ⟨b, 2, none⟩ = false) := by
  simp [World.cell?, World.frozen?, h]
set_option maxRecDepth 100000 in
set_option maxHeartbeats 8000000 in
/-- acl.Get. -/
theorem get_any (bs : List Int) (v : Value) (w : World) (hb : Bts w v bs) (hby : IsBytes bs) (hlen : bs.length ≤ 1000000000) :
    Calls Try.prog 19 #[v] w (GtQ w bs) := by
  obtain ⟨w1, hw1⟩ : ∃ w1, w1 = w.alloc (.cells #[.string ⟨#[]⟩, .slice none 0 0, .int .i64 0] 39) := ⟨_, rfl⟩
  have hb1 : Bts w1 v bs := by rw [hw1]; exact hb.alloc _
  have hB1 : Hid (Below w.heap.size w w1) := by rw [hw1]; exact (Below.refl _ _).alloc (Nat.le_refl _) _
  have hz1 : Hid (w1.heap.size = w.heap.size + 1) := by rw [hw1]; show _ = _; simp
  have hH1 : Hid (w1.heap[w.heap.size]? = some (.cells #[.string ⟨#[]⟩, .slice none 0 0, .int .i64 0] 39 (0, 0))) := by rw [hw1]; exact heap_new _ _
  have hU := unroll_any bs v w1 hlen hb1
  replace hb1 : Hid (Bts w1 v bs) := hb1
  replace hby : Hid (IsBytes bs) := hby
  obtain ⟨av, nv, cv, hvs⟩ : ∃ a n c, v = .slice a n c := by obtain ⟨a, c, rfl, _⟩ := hb; exact ⟨_, _, _, rfl⟩
  clear hb
  go_enter Try.func19, Try.ntmps19
  go_upto_region 1 with fail
  rw [← hw1]
  replace hw1 : Hid _ := hw1
  replace hvs : Hid _ := hvs
  go_upto_region 2 with (first
    | (go_at_call 36; refine hU.mono ?_; rintro e w2 ⟨g, rfl, hg2, hs2, hb2⟩; have hR2 := readFolder_w w1.heap.size g bs 0 0 w2 hs2 hby.out hlen; replace hg2 : Hid (w1.heap.size ≤ g) := hg2; replace hs2 : Hid (IsStrip w2 w1.heap.size g bs 0 0) := hs2; replace hb2 : Hid (Below w1.heap.size w1 w2) := hb2)
    | (go_at_call 35; refine hR2.mono ?_; rintro e w3 ⟨s, fv, F, z, rfl, hq3⟩; obtain ⟨a3, c3, hv3⟩ := hq3.2.1.shape; obtain ⟨n3, hn3⟩ : ∃ n3, n3 = F.length := ⟨_, rfl⟩; rw [← hn3] at hv3; subst hv3; replace hn3 : Hid _ := hn3; replace hq3 : Hid (FoQ w2 bs g 0 0 s (.slice a3 n3 c3) F z w3) := hq3))
  obtain ⟨hsl, hoF, hFl, hFg, hzr, hgr3, hcond⟩ := hq3.out
  have hB3 : Below w1.heap.size w1 w3 := below_of_grown hb2.out hgr3 hg2.out hb2.out.size
  obtain ⟨w4, hw4⟩ : ∃ w4, w4 = w3.alloc (.cells #[.string s, .slice a3 n3 c3, .int .i64 z] 39) := ⟨_, rfl⟩
  have hB4 : Below w1.heap.size w1 w4 := by rw [hw4]; exact hB3.alloc hB3.size _
  have hH4 : w4.heap[w3.heap.size]? = some (.cells #[.string s, .slice a3 n3 c3, .int .i64 z] 39 (0, 0)) := by rw [hw4]; exact heap_new _ _
  have hg4 : Grs w4 (.slice a3 n3 c3) F := by rw [hw4]; exact hoF.sls.alloc _
  have hP := put_any s (.slice a3 n3 c3) F z w4 (by omega) hg4 (by omega) (fun g hg => by have := (hFg g hg).2; omega) (fun g hg => (hFg g hg).1) hzr
  have hlt4 : w3.heap.size < w4.heap.size := lt_of_block hH4
  rw [← hw4]
  have hc4 := (boxF hH4).1
  obtain ⟨c40, c41, c42⟩ := hc4
  have hno1 : Hid (puE s F z ≠ 0 → ∀ m l z0, Vd m l z0 → foB m l z0 ≠ bs) := fun hne m l z0 hv hf => by
    obtain ⟨h1, h2⟩ := vd_fits hv
    obtain ⟨rfl, rfl, rfl⟩ := hcond m l z0 rfl (by rw [hf]; simp) h1 h2 hv.2.2
    exact hne hv.1
  have hno2 : Hid (foB s F z ≠ bs → ∀ m l z0, Vd m l z0 → foB m l z0 ≠ bs) := fun hne m l z0 hv hf => by
    obtain ⟨h1, h2⟩ := vd_fits hv
    obtain ⟨rfl, rfl, rfl⟩ := hcond m l z0 rfl (by rw [hf]; simp) h1 h2 hv.2.2
    exact hne hf
  have hvd : Hid (puE s F z = 0 → Vd s F z) := fun h => ⟨h, fun g hg => (hFg g hg).1, hzr⟩
  have hrow : Hid (∀ W, Below w1.heap.size w1 W → W.heap[w.heap.size]? = some (.cells #[.string ⟨#[]⟩, .slice none 0 0, .int .i64 0] 39 (0, 0))) := fun W h => (h.block _ (by have := hz1.out; omega)).trans hH1.out
  replace hw4 : Hid _ := hw4
  replace hB4 : Hid (Below w1.heap.size w1 w4) := hB4
  replace hH4 : Hid (w4.heap[w3.heap.size]? = some (.cells #[.string s, .slice a3 n3 c3, .int .i64 z] 39 (0, 0))) := hH4
  replace hg4 : Hid (Grs w4 (.slice a3 n3 c3) F) := hg4
  have hbl : Hid (∀ k, (Value.slice a3 n3 c3).ownBlock = some k → w2.heap.size ≤ k) := fun k hk => (hoF.lt k hk).1
  clear hsl hoF hFl hFg hzr hgr3 hcond hB3
  have hEb : Hid (eqB (foB s F z) bs = true ↔ foB s F z = bs) := eqB_iff (isBytes_foB _ _ _) hby.out
  by_cases hpe : puE s F z = 0
  · have hvd2 := hvd.out hpe
    replace hvd2 : Hid (Vd s F z) := hvd2
    unfold PuQ at hP
    simp only [hpe, if_true] at hP
    have hEq : Hid (∀ v5 W, Own W w4.heap.size v5 (foB s F z) → Below w1.heap.size w1 W → Calls Try.prog 37 #[v5, v] W fun e w' => e = .returned (.bool (eqB (foB s F z) bs)) ∧ w' = W) := fun v5 W h1 h2 => equal_any v5 v _ _ W h1.bts (hb1.out.grow h2)
    clear hpe hno1 hvd
    cases heq : eqB (foB s F z) bs with
    | false =>
      rw [heq] at hEq hEb
      have hno := hno2.out (fun h => by have := hEb.out.2 h; cases this)
      replace hno : Hid _ := hno
      clear heq hEb hno2
      generalize foB s F z = FB at *
      go_wp2_with (first
        | (go_at_call 17; refine hP.mono ?_; rintro e w5 ⟨v5, rfl, ho5, hb5⟩; have hB5 := hB4.out.trans (hb5.mono hB4.out.size); have hE5 := hEq.out v5 w5 ho5 hB5; have hk5 := boxF (hrow.out _ hB5); obtain ⟨⟨k50, k51, k52⟩, ⟨f50, f51, f52⟩⟩ := hk5; replace hB5 : Hid (Below w1.heap.size w1 w5) := hB5; replace ho5 : Hid _ := ho5; replace hb5 : Hid _ := hb5)
        | (go_at_call 37; refine hE5.mono ?_; rintro e wx ⟨rfl, hwx⟩; subst wx))
      obtain ⟨hS1, hS2⟩ := setF (x' := .string ⟨#[]⟩) (y' := .slice none 0 0) (z' := .int .i64 0) (hrow.out _ hB5.out)
      generalize hW6 : ((w5.setCell ⟨w.heap.size, 0, none⟩ (.string ⟨#[]⟩)).setCell ⟨w.heap.size, 1, none⟩ (.slice none 0 0)).setCell ⟨w.heap.size, 2, none⟩ (.int .i64 0) = W6 at *
      obtain ⟨⟨k0, k1, k2⟩, _⟩ := boxF hS1
      refine bodyPost_ret (v := .tuple #[.agg #[.string ⟨#[]⟩, .slice none 0 0, .int .i64 0], .int .i64 150]) ?_ rfl ?_
      · simp [results, asAddr, Result.andThen, go_sem, k0, k1, k2]
      · exact ⟨below_of_grown (hB1.out.trans (hB5.out.mono hB1.out.size)) hS2 (Nat.le_refl _) (hB1.out.trans (hB5.out.mono hB1.out.size)).size, .inr ⟨hno.out, rfl⟩⟩
    | true =>
      have hfb : Hid (foB s F z = bs) := hEb.out.1 heq
      rw [heq] at hEq
      clear heq hEb hno2
      generalize foB s F z = FB at hP hEq
      go_wp2_with (first
        | (go_at_call 17; refine hP.mono ?_; rintro e w5 ⟨v5, rfl, ho5, hb5⟩; have hB5 := hB4.out.trans (hb5.mono hB4.out.size); have hE5 := hEq.out v5 w5 ho5 hB5; have hk5 := boxF (hrow.out _ hB5); obtain ⟨⟨k50, k51, k52⟩, ⟨f50, f51, f52⟩⟩ := hk5; have hH5 := (hb5.block _ hlt4).trans hH4.out; obtain ⟨⟨j0, j1, j2⟩, _⟩ := boxF hH5; have hg5 := Sls.grow hg4.out hb5; replace hB5 : Hid (Below w1.heap.size w1 w5) := hB5; replace ho5 : Hid _ := ho5; replace hb5 : Hid _ := hb5; replace hH5 : Hid _ := hH5; replace hg5 : Hid (Grs w5 (.slice a3 n3 c3) F) := hg5)
        | (go_at_call 37; refine hE5.mono ?_; rintro e wx ⟨rfl, hwx⟩; subst wx))
      obtain ⟨hS1, hS2⟩ := setF (x' := .string s) (y' := .slice a3 n3 c3) (z' := .int .i64 z) (hrow.out _ hB5.out)
      generalize hW6 : ((w5.setCell ⟨w.heap.size, 0, none⟩ (.string s)).setCell ⟨w.heap.size, 1, none⟩ (.slice a3 n3 c3)).setCell ⟨w.heap.size, 2, none⟩ (.int .i64 z) = W6 at *
      obtain ⟨⟨k0, k1, k2⟩, _⟩ := boxF hS1
      refine bodyPost_ret (v := .tuple #[.agg #[.string s, .slice a3 n3 c3, .int .i64 z], .int .i64 0]) ?_ rfl ?_
      · simp [results, asAddr, Result.andThen, go_sem, k0, k1, k2]
      · refine ⟨below_of_grown (hB1.out.trans (hB5.out.mono hB1.out.size)) hS2 (Nat.le_refl _) (hB1.out.trans (hB5.out.mono hB1.out.size)).size, .inl ⟨s, _, F, z, hvd2.out, hfb.out, rfl, ?_⟩⟩
        obtain ⟨a', c', e', hn', hr'⟩ := hg5.out
        cases e'
        refine ⟨_, _, rfl, hn', ?_⟩
        rcases hr' with h | ⟨b, o, hab, hcell⟩
        · exact .inl h
        · refine .inr ⟨b, o, hab, fun t ht i u hu => ?_⟩
          have hc := hcell t ht i u hu
          have hblt := World.block_lt_of_cell? w5 _ hc
          have hne : some b ≠ some w.heap.size := fun h => by
            cases h
            have h1 : w2.heap.size ≤ w.heap.size := hbl.out w.heap.size (by rw [hab]; rfl)
            have h2 := hb2.out.size
            have h3 := hz1.out
            omega
          exact (World.cell?_of_block (w := w5) (hS2.block b hblt hne)).trans hc
  · have hne : (puE s F z == 0) = false := by simpa using hpe
    have hnn : (puE s F z != 0) = true := by simpa using hpe
    have hno := hno1.out hpe
    replace hno : Hid _ := hno
    unfold PuQ at hP
    generalize puE s F z = PE at *
    go_wp2_with (first
      | (go_at_call 17; refine hP.mono ?_; rintro e w5 ⟨v5, rfl, ho5, hb5⟩; have hB5 := hB4.out.trans (hb5.mono hB4.out.size); have hk5 := boxF (hrow.out _ hB5); obtain ⟨⟨k50, k51, k52⟩, ⟨f50, f51, f52⟩⟩ := hk5; replace hB5 : Hid (Below w1.heap.size w1 w5) := hB5; replace ho5 : Hid _ := ho5; replace hb5 : Hid _ := hb5))
    obtain ⟨hS1, hS2⟩ := setF (x' := .string ⟨#[]⟩) (y' := .slice none 0 0) (z' := .int .i64 0) (hrow.out _ hB5.out)
    generalize hW6 : ((w5.setCell ⟨w.heap.size, 0, none⟩ (.string ⟨#[]⟩)).setCell ⟨w.heap.size, 1, none⟩ (.slice none 0 0)).setCell ⟨w.heap.size, 2, none⟩ (.int .i64 0) = W6 at *
    obtain ⟨⟨k0, k1, k2⟩, _⟩ := boxF hS1
    refine bodyPost_ret (v := .tuple #[.agg #[.string ⟨#[]⟩, .slice none 0 0, .int .i64 0], .int .i64 150]) ?_ rfl ?_
    · simp [results, asAddr, Result.andThen, go_sem, k0, k1, k2]
    · exact ⟨below_of_grown (hB1.out.trans (hB5.out.mono hB1.out.size)) hS2 (Nat.le_refl _) (hB1.out.trans (hB5.out.mono hB1.out.size)).size, .inr ⟨hno.out, rfl⟩⟩
end Go.Proofs.Ytfbeilninpapaaa
