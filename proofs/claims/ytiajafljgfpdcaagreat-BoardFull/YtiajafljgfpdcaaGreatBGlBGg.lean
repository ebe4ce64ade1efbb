/- BGl; BGi; BGb; BGg. -/
import Derived.Test.YtiajafljgfpdcaaGreatBPtBPu
import Derived.Test.YtiajafljgfpdcaaGreatQRoundQGt
/- readLabels, readInstance. -/
namespace Go.Proofs.YtiajafljgfpdcaaGreat
set_option linter.unusedVariables false
open Go.RowKit
theorem kept3 {α : Type} {E : Enc α} {T : RowTy E} {w w' : World} {base g : Nat} {v : Value} {l : List α} (h : OwnS T w base v l) (hg : w.grownBy w' (some g)) (hb : g < base) : OwnS T w' base v l :=
  World.ownsRow.kept h hg (.inr fun e => by have := (OwnS.lt h g e).1; omega)
/-- Labels that fit. -/
def LbF (a : Lb) : Prop := a.name.size ≤ 64 ∧ a.value.size ≤ 128
def LbsC (bs : List Int) (P : List Lb → List Int → Prop) (k : Nat) (F : List Lb) (pl : Nat) (err : Int) : Prop := ∀ l rest, P l rest → F = l.take k ∧ err = 0 ∧ bs.drop pl = Q.cat lbY (l.drop k) ++ rest
theorem lbsC_step {bs : List Int} {P : List Lb → List Int → Prop} {k : Nat} {F : List Lb} {p0 p1 p2 : Nat} {r0 r1 r2 : Int} {s t : ByteArray} (hP : ∀ l rest, P l rest → (∀ a ∈ l, LbF a) ∧ k < l.length) (h : LbsC bs P k F p0 r0) (h1 : Q.TxtC 64 bs p0 r0 s p1 r1) (h2 : Q.TxtC 128 bs p1 r1 t p2 r2) :
    LbsC bs P (k + 1) (F ++ [⟨s, t⟩]) p2 r2 := by
  intro l rest hp
  obtain ⟨hg, hk⟩ := hP l rest hp
  obtain ⟨rfl, e0, d0⟩ := h l rest hp
  have hgk := hg _ (getD_mem l lb0 k hk)
  have hd : l.drop k = l.getD k lb0 :: l.drop (k + 1) := by rw [List.drop_eq_getElem_cons hk]; simp [hk]
  rw [hd] at d0
  have d0' : bs.drop p0 = Q.encT (l.getD k lb0).name ++ (Q.encT (l.getD k lb0).value ++ (Q.cat lbY (l.drop (k + 1)) ++ rest)) := by
    rw [d0]; simp [Q.cat, lbY]
  obtain ⟨ha, e1, d1⟩ := h1 _ _ e0 d0' hgk.1
  obtain ⟨hs, e2, d2⟩ := h2 _ _ e1 d1 hgk.2
  refine ⟨?_, e2, d2⟩
  rw [take_getD l lb0 k hk, ha, hs]
/-- What a reading of labels leaves. -/
def RlQ (w : World) (bs : List Int) (St : World → Nat → Int → Prop) (g : Nat) (P : List Lb → List Int → Prop) (v : Value) (w' : World) : Prop :=
  ∃ F p r, OwnL w' w.heap.size v F ∧ F.length ≤ 16 ∧ (∀ q ∈ F, LbF q) ∧ St w' p r ∧ w.grownBy w' (some g) ∧ (∀ l rest, P l rest → F = l ∧ r = 0 ∧ bs.drop p = rest)
set_option maxRecDepth 100000 in
set_option maxHeartbeats 4000000 in
theorem readLabels91 (lo g : Nat) (bs : List Int) (pl : Nat) (err : Int) (w : World) (hs : Q.IsStrip w lo g bs pl err) (hby : Q.IsBytes bs) (hlen : bs.length ≤ 1000000000) :
    Calls Tryz.prog 91 #[.pointer (some ⟨g, 0, none⟩)] w fun e w' => ∃ v, e = .returned v ∧ RlQ w bs (fun W p r => Q.IsStrip W lo g bs p r) g (fun l rest => err = 0 ∧ bs.drop pl = lsY l ++ rest ∧ (∀ a ∈ l, LbF a) ∧ l.length ≤ 16) v w' := by
  have hgb : g < w.heap.size := hs.lt
  have hN1 := Q.sNum_w lo g bs pl err w hs hby hlen
  replace hby : Hid (Q.IsBytes bs) := hby
  obtain ⟨P, hPd⟩ : ∃ P : List Lb → List Int → Prop, P = fun l rest => err = 0 ∧ bs.drop pl = lsY l ++ rest ∧ (∀ a ∈ l, LbF a) ∧ l.length ≤ 16 := ⟨_, rfl⟩
  rw [← hPd]
  have hPl : Hid (∀ l rest, P l rest → (∀ a ∈ l, LbF a) ∧ l.length ≤ 16) := fun l rest h => by rw [hPd] at h; exact h.2.2
  have hPe : Hid (∀ l rest, P l rest → err = 0 ∧ bs.drop pl = Q.enc l.length ++ (Q.cat lbY l ++ rest)) := fun l rest h => by rw [hPd] at h; exact ⟨h.1, by rw [h.2.1]; simp [lsY]⟩
  clear hPd hs
  go_enter Tryz.func91, Tryz.ntmps91
  go_upto_region 2 with fail
  go_wp2_with (first
    | (go_at_call 90; refine hN1.mono ?_; rintro e w1 ⟨n, p1, r1, rfl, hn64, hs1, hg1, hc1⟩; replace hs1 : Hid (Q.IsStrip w1 lo g bs p1 r1) := hs1; replace hg1 : Hid (w.grownBy w1 (some g)) := hg1; replace hc1 : Hid (Q.NumC bs pl err n p1 r1) := hc1; obtain ⟨M, hM⟩ : ∃ M : Nat, Hid (M = min n 16) := ⟨_, rfl⟩; have hmin : min (n : Int) 16 = (M : Int) := (by have := hM.out; omega)))
  have hC0 : Hid (LbsC bs P 0 [] p1 r1) := fun l rest hp => by
    obtain ⟨h1, h2⟩ := hPe.out l rest hp
    obtain ⟨h3, h4, h5⟩ := hc1.out l.length _ h1 h2 (by have := (hPl.out l rest hp).2; omega)
    exact ⟨rfl, h4, by simpa using h5⟩
  have hPN : Hid (∀ l rest, P l rest → l.length = M) := fun l rest hp => by
    obtain ⟨h1, h2⟩ := hPe.out l rest hp
    have hl16 := (hPl.out l rest hp).2
    have h3 := (hc1.out l.length _ h1 h2 (by omega)).1
    have h9 := hM.out
    show l.length = M
    omega
  have hM16 : M ≤ 16 := by have := hM.out; omega
  clear hM hmin
  clear hc1 hN1
  go_loopw [3, 7] (fun y i wr => ∃ (k : Nat), k ≤ M ∧ i = .int .u64 k ∧ Hid (∃ F p r, OwnL wr w.heap.size y F ∧ F.length = k ∧ (∀ q ∈ F, LbF q) ∧ Q.IsStrip wr lo g bs p r ∧ w.grownBy wr (some g) ∧ LbsC bs P k F p r)) (fun _ i _ => M - (intOf i).toNat)
  case atStart => exact ⟨0, Nat.zero_le _, rfl, [], p1, r1, OwnS.nil _ _, rfl, (fun q hq => by cases hq), hs1.out, hg1.out, hC0.out⟩
  case round =>
    obtain ⟨k, hk, rfl, hrest⟩ := hrel
    obtain ⟨F, p, r, ho, hFl, hFg, hst, hgr, hC⟩ := hrest.out
    obtain ⟨mv, rfl⟩ : ∃ mv, mv = u3 := ⟨_, rfl⟩
    clear hrest
    by_cases hlt : k < M
    · have hki : (k : Int) < (M : Int) := by omega
      have hI1 := Q.sText_w lo g bs p r wr hst hby.out hlen 64 (by decide)
      replace ho : Hid (OwnL wr w.heap.size mv F) := ho
      replace hFl : Hid (F.length = k) := hFl
      replace hFg : Hid (∀ q ∈ F, LbF q) := hFg
      replace hst : Hid (Q.IsStrip wr lo g bs p r) := hst
      replace hgr : Hid (w.grownBy wr (some g)) := hgr
      replace hC : Hid (LbsC bs P k F p r) := hC
      have t1 : True := trivial
      go_wp2_with (first
        | (go_at_call 115; have _t := t1; refine hI1.mono ?_; rintro e w2 ⟨a2, p2, r2, rfl, hin2, hst2, hgr2, hc2⟩; clear t1; have hT2 := Q.sText_w lo g bs p2 r2 w2 hst2 hby.out hlen 128 (by decide); replace hin2 : Hid (a2.size ≤ 64) := hin2; replace hst2 : Hid (Q.IsStrip w2 lo g bs p2 r2) := hst2; replace hgr2 : Hid (wr.grownBy w2 (some g)) := hgr2; replace hc2 : Hid (Q.TxtC 64 bs p r a2 p2 r2) := hc2)
        | (go_at_call 115; refine hT2.mono ?_; rintro e w4 ⟨s3, p4, r4, rfl, hin4, hst4, hgr4, hc4⟩; have hgw : w.grownBy w4 (some g) := Q.gtr' (Q.gtr' hgr.out hgr2.out) hgr4; have ho4 : OwnL w4 w.heap.size mv F := kept3 (kept3 ho.out hgr2.out hgb) hgr4 hgb; replace hin4 : Hid (s3.size ≤ 128) := hin4; replace hst4 : Hid (Q.IsStrip w4 lo g bs p4 r4) := hst4; replace hgw : Hid (w.grownBy w4 (some g)) := hgw; replace ho4 : Hid (OwnL w4 w.heap.size mv F) := ho4; replace hc4 : Hid (Q.TxtC 128 bs p2 r2 s3 p4 r4) := hc4; clear hgr4)
        | (at_builtin; refine appR TL rfl (.tmp 9) (.tmp 15) rfl w.heap.size mv (.slice (some ⟨w4.heap.size, 0, none⟩) 1 1) F [⟨a2, s3⟩] rfl rfl (OwnS.alloc ho4.out _) (sls_one w4 _ _ _ rfl) (by have := hgw.out.size; simp; omega) (by have := hFl.out; simp; omega) ?_; intro v5 w5 ho5 hg5; replace ho5 : Hid (OwnL w5 w.heap.size v5 (F ++ [⟨a2, s3⟩])) := ho5; replace hg5 : Hid (World.grownBy (w4.alloc (.cells #[.string a2, .string s3] 70)) w5 mv.ownBlock) := hg5))
      refine ⟨⟨k + 1, by omega, by go_num, ?_⟩, ?_⟩
      · refine ⟨F ++ [⟨a2, s3⟩], p4, r4, ho5.out, by simp [hFl.out], fun q hq => ?_, ?_, ?_, ?_⟩
        · rcases List.mem_append.1 hq with hq | hq
          · exact hFg.out q hq
          · have e : q = ⟨a2, s3⟩ := by simpa using hq
            rw [e]; exact ⟨hin2.out, hin4.out⟩
        · exact Q.strip_ob (Q.strip_stay hst4.out ((Below.refl _ _).alloc (Nat.le_refl _) _)).1 hg5.out (fun q hq => by have := (OwnS.lt ho4.out q hq).1; omega)
        · exact Q.gtr (Q.gtr' hgw.out (Q.g_alloc _ _ _)) hg5.out (fun q hq => (OwnS.lt ho4.out q hq).1)
        · exact lbsC_step (fun l rest hp => ⟨(hPl.out l rest hp).1, by have := hPN.out l rest hp; omega⟩) hC.out hc2.out hc4.out
      · simp [intOf]; omega
    · obtain rfl : k = M := by omega
      have hki : ¬ (k : Int) < (k : Int) := by omega
      have hfin : Hid (RlQ w bs (fun W p r => Q.IsStrip W lo g bs p r) g P mv wr) := ⟨F, p, r, ho, by omega, hFg, hst, hgr, fun l rest hp => by
        obtain ⟨h1, h2, h3⟩ := hC l rest hp
        have hl := hPN.out l rest hp
        rw [List.take_of_length_le (by omega)] at h1
        rw [show l.drop k = [] from List.drop_of_length_le (by omega)] at h3
        exact ⟨h1, h2, by simpa [Q.cat] using h3⟩⟩
      clear ho hFl hFg hst hgr hC
      go_wp2
      go_ret
      exact ⟨mv, rfl, hfin.out⟩
end Go.Proofs.YtiajafljgfpdcaaGreat
/- readInstance. -/
namespace Go.Proofs.YtiajafljgfpdcaaGreat
set_option linter.unusedVariables false
open Go.RowKit
/-- An instance that was read. -/
def InsC (bs : List Int) (pl : Nat) (err : Int) (z : S.Inst) (pl' : Nat) (err' : Int) : Prop := ∀ z0 rest, err = 0 → bs.drop pl = inY z0 ++ rest → In64 z0 → z = z0 ∧ err' = 0 ∧ bs.drop pl' = rest
theorem insC_of {bs : List Int} {pl p1 p2 p3 p4 p5 p6 p7 : Nat} {err r1 r2 r3 r4 r5 r6 r7 z0 z1 z2 z3 z4 z5 z6 : Int} (h0 : Q.IntC bs pl err z0 p1 r1) (h1 : Q.IntC bs p1 r1 z1 p2 r2) (h2 : Q.IntC bs p2 r2 z2 p3 r3) (h3 : Q.IntC bs p3 r3 z3 p4 r4) (h4 : Q.IntC bs p4 r4 z4 p5 r5) (h5 : Q.IntC bs p5 r5 z5 p6 r6) (h6 : Q.IntC bs p6 r6 z6 p7 r7) :
    InsC bs pl err ⟨z0, z1, z2, z3, z4, z5, z6⟩ p7 r7 := by
  rintro ⟨a0, a1, a2, a3, a4, a5, a6⟩ rest e d hz
  have hd : bs.drop pl = Q.encS a0 ++ (Q.encS a1 ++ (Q.encS a2 ++ (Q.encS a3 ++ (Q.encS a4 ++ (Q.encS a5 ++ (Q.encS a6 ++ rest)))))) := by
    rw [d]; simp [inY, Q.cat]
  obtain ⟨rfl, e1, d1⟩ := h0 _ _ e hd (hz _ (by simp))
  obtain ⟨rfl, e2, d2⟩ := h1 _ _ e1 d1 (hz _ (by simp))
  obtain ⟨rfl, e3, d3⟩ := h2 _ _ e2 d2 (hz _ (by simp))
  obtain ⟨rfl, e4, d4⟩ := h3 _ _ e3 d3 (hz _ (by simp))
  obtain ⟨rfl, e5, d5⟩ := h4 _ _ e4 d4 (hz _ (by simp))
  obtain ⟨rfl, e6, d6⟩ := h5 _ _ e5 d5 (hz _ (by simp))
  obtain ⟨rfl, e7, d7⟩ := h6 _ _ e6 d6 (hz _ (by simp))
  exact ⟨rfl, e7, d7⟩
theorem set7_grown (w : World) (x : Nat) (i : S.Inst) : w.grownBy (S.set7 w x i) (some x) := by
  have h : ∀ (W : World) (k : Nat) (u : Value), W.grownBy (W.setCell ⟨x, k, none⟩ u) (some x) := fun W k u => ⟨rfl, rfl, rfl, (KeepsWalks.setCell W _ u).size, fun j _ hj => Below.heap_setCell _ _ _ j (fun e => hj (by rw [e]))⟩
  exact Q.gtr' (Q.gtr' (Q.gtr' (Q.gtr' (Q.gtr' (Q.gtr' (h _ _ _) (h _ _ _)) (h _ _ _)) (h _ _ _)) (h _ _ _)) (h _ _ _)) (h _ _ _)
set_option maxRecDepth 100000 in
set_option maxHeartbeats 4000000 in
theorem readInstance92 (lo g : Nat) (bs : List Int) (pl : Nat) (err : Int) (w : World) (hs : Q.IsStrip w lo g bs pl err) (hby : Q.IsBytes bs) (hlen : bs.length ≤ 1000000000) :
    Calls Tryz.prog 92 #[.pointer (some ⟨g, 0, none⟩)] w fun e w' => ∃ z p' r', e = .returned (S.encI z) ∧ In64 z ∧ Q.IsStrip w' lo g bs p' r' ∧ w.grownBy w' (some g) ∧ InsC bs pl err z p' r' := by
  have hgb : g < w.heap.size := hs.lt
  obtain ⟨W0, hW0⟩ : ∃ W0, w.alloc (.cells #[.int .i64 0, .int .i64 0, .int .i64 0, .int .i64 0, .int .i64 0, .int .i64 0, .int .i64 0] 65) = W0 := ⟨_, rfl⟩
  have hX0 : W0.heap[w.heap.size]? = some (.cells #[.int .i64 0, .int .i64 0, .int .i64 0, .int .i64 0, .int .i64 0, .int .i64 0, .int .i64 0] 65 (0, 0)) := by rw [← hW0]; exact heap_new _ _
  have hw0 : w.heap.size < W0.heap.size := (Array.getElem?_eq_some_iff.1 hX0).1
  have hB0 : Below w.heap.size w W0 := by rw [← hW0]; exact (Below.refl _ w).alloc (Nat.le_refl _) _
  have hgne : ¬ some w.heap.size = some g := by simp; omega
  have hI0 := Q.sInt_w lo g bs pl err W0 (Q.strip_stay hs hB0).1 hby hlen
  have hcz : ∀ (w7 : World), w7.heap[w.heap.size]? = some (.cells #[.int .i64 0, .int .i64 0, .int .i64 0, .int .i64 0, .int .i64 0, .int .i64 0, .int .i64 0] 65 (0, 0)) → w7.cell? ⟨w.heap.size, 0, none⟩ = some (.int .i64 0) ∧ w7.cell? ⟨w.heap.size, 1, none⟩ = some (.int .i64 0) ∧ w7.cell? ⟨w.heap.size, 2, none⟩ = some (.int .i64 0) ∧ w7.cell? ⟨w.heap.size, 3, none⟩ = some (.int .i64 0) ∧ w7.cell? ⟨w.heap.size, 4, none⟩ = some (.int .i64 0) ∧ w7.cell? ⟨w.heap.size, 5, none⟩ = some (.int .i64 0) ∧ w7.cell? ⟨w.heap.size, 6, none⟩ = some (.int .i64 0) := fun w7 h => by simp [World.cell?, h]
  replace hby : Hid (Q.IsBytes bs) := hby
  have t0 : True := trivial
  go_enter Tryz.func92, Tryz.ntmps92
  go_upto_region 1 with fail
  go_wp2_with (first
    | (go_at_call 116; have _t := t0; refine hI0.mono ?_; rintro e w1 ⟨z0, p1, r1, rfl, hn0, hs1, hg1, hc0⟩; clear t0; have hI1 := Q.sInt_w lo g bs p1 r1 w1 hs1 hby.out hlen; have t1 : True := trivial; replace hs1 : Hid (Q.IsStrip w1 lo g bs p1 r1) := hs1; replace hn0 : Hid (-9223372036854775808 ≤ z0 ∧ z0 ≤ 9223372036854775807) := hn0; replace hg1 : Hid (W0.grownBy w1 (some g)) := hg1; replace hc0 : Hid (Q.IntC bs pl err z0 p1 r1) := hc0)
    | (go_at_call 116; have _t := t1; refine hI1.mono ?_; rintro e w2 ⟨z1, p2, r2, rfl, hn1, hs2, hg2, hc1⟩; clear t1; have hI2 := Q.sInt_w lo g bs p2 r2 w2 hs2 hby.out hlen; have t2 : True := trivial; replace hs2 : Hid (Q.IsStrip w2 lo g bs p2 r2) := hs2; replace hn1 : Hid (-9223372036854775808 ≤ z1 ∧ z1 ≤ 9223372036854775807) := hn1; replace hg2 : Hid (w1.grownBy w2 (some g)) := hg2; replace hc1 : Hid (Q.IntC bs p1 r1 z1 p2 r2) := hc1)
    | (go_at_call 116; have _t := t2; refine hI2.mono ?_; rintro e w3 ⟨z2, p3, r3, rfl, hn2, hs3, hg3, hc2⟩; clear t2; have hI3 := Q.sInt_w lo g bs p3 r3 w3 hs3 hby.out hlen; have t3 : True := trivial; replace hs3 : Hid (Q.IsStrip w3 lo g bs p3 r3) := hs3; replace hn2 : Hid (-9223372036854775808 ≤ z2 ∧ z2 ≤ 9223372036854775807) := hn2; replace hg3 : Hid (w2.grownBy w3 (some g)) := hg3; replace hc2 : Hid (Q.IntC bs p2 r2 z2 p3 r3) := hc2)
    | (go_at_call 116; have _t := t3; refine hI3.mono ?_; rintro e w4 ⟨z3, p4, r4, rfl, hn3, hs4, hg4, hc3⟩; clear t3; have hI4 := Q.sInt_w lo g bs p4 r4 w4 hs4 hby.out hlen; have t4 : True := trivial; replace hs4 : Hid (Q.IsStrip w4 lo g bs p4 r4) := hs4; replace hn3 : Hid (-9223372036854775808 ≤ z3 ∧ z3 ≤ 9223372036854775807) := hn3; replace hg4 : Hid (w3.grownBy w4 (some g)) := hg4; replace hc3 : Hid (Q.IntC bs p3 r3 z3 p4 r4) := hc3)
    | (go_at_call 116; have _t := t4; refine hI4.mono ?_; rintro e w5 ⟨z4, p5, r5, rfl, hn4, hs5, hg5, hc4⟩; clear t4; have hI5 := Q.sInt_w lo g bs p5 r5 w5 hs5 hby.out hlen; have t5 : True := trivial; replace hs5 : Hid (Q.IsStrip w5 lo g bs p5 r5) := hs5; replace hn4 : Hid (-9223372036854775808 ≤ z4 ∧ z4 ≤ 9223372036854775807) := hn4; replace hg5 : Hid (w4.grownBy w5 (some g)) := hg5; replace hc4 : Hid (Q.IntC bs p4 r4 z4 p5 r5) := hc4)
    | (go_at_call 116; have _t := t5; refine hI5.mono ?_; rintro e w6 ⟨z5, p6, r6, rfl, hn5, hs6, hg6, hc5⟩; clear t5; have hI6 := Q.sInt_w lo g bs p6 r6 w6 hs6 hby.out hlen; have t6 : True := trivial; replace hs6 : Hid (Q.IsStrip w6 lo g bs p6 r6) := hs6; replace hn5 : Hid (-9223372036854775808 ≤ z5 ∧ z5 ≤ 9223372036854775807) := hn5; replace hg6 : Hid (w5.grownBy w6 (some g)) := hg6; replace hc5 : Hid (Q.IntC bs p5 r5 z5 p6 r6) := hc5)
    | (go_at_call 116; have _t := t6; refine hI6.mono ?_; rintro e w7 ⟨z6, p7, r7, rfl, hn6, hs7, hg7, hc6⟩; clear t6; replace hs7 : Hid (Q.IsStrip w7 lo g bs p7 r7) := hs7; replace hn6 : Hid (-9223372036854775808 ≤ z6 ∧ z6 ≤ 9223372036854775807) := hn6; replace hg7 : Hid (w6.grownBy w7 (some g)) := hg7; replace hc6 : Hid (Q.IntC bs p6 r6 z6 p7 r7) := hc6; have hgt : W0.grownBy w7 (some g) := Q.gtr' (Q.gtr' (Q.gtr' (Q.gtr' (Q.gtr' (Q.gtr' hg1.out hg2.out) hg3.out) hg4.out) hg5.out) hg6.out) hg7.out; have hX7 : w7.heap[w.heap.size]? = some (.cells #[.int .i64 0, .int .i64 0, .int .i64 0, .int .i64 0, .int .i64 0, .int .i64 0, .int .i64 0] 65 (0, 0)) := (hgt.block _ hw0 hgne).trans hX0; obtain ⟨q0, q1, q2, q3, q4, q5, q6⟩ := hcz w7 hX7; have qf : ∀ i, w7.frozen? ⟨w.heap.size, i, none⟩ = false := (fun i => by simp [World.frozen?, hX7])))
  have hA : w.grownBy w7 (some g) := Q.gtr' (grown_of hB0 _) hgt
  have hZ : S.IAt w7 w.heap.size ⟨0, 0, 0, 0, 0, 0, 0⟩ := hX7
  have hS7 := S.iSet hZ (i := ⟨z0, z1, z2, z3, z4, z5, z6⟩)
  have hst : w7.grownBy (S.set7 w7 w.heap.size ⟨z0, z1, z2, z3, z4, z5, z6⟩) (some w.heap.size) := set7_grown _ _ _
  refine S.ret_cellI Tryz.results92 rfl hS7 ⟨⟨z0, z1, z2, z3, z4, z5, z6⟩, p7, r7, rfl, ?_, Q.strip_ob hs7.out hst (fun k e => by cases e; exact hgb), Q.gtr hA hst (fun k e => by cases e; exact Nat.le_refl _), ?_⟩
  · intro n hn
    simp only [List.mem_cons, List.not_mem_nil, or_false] at hn
    rcases hn with rfl | rfl | rfl | rfl | rfl | rfl | rfl
    · exact hn0.out
    · exact hn1.out
    · exact hn2.out
    · exact hn3.out
    · exact hn4.out
    · exact hn5.out
    · exact hn6.out
  · exact insC_of hc0.out hc1.out hc2.out hc3.out hc4.out hc5.out hc6.out
end Go.Proofs.YtiajafljgfpdcaaGreat
/- readBoard. -/
namespace Go.Proofs.YtiajafljgfpdcaaGreat
set_option linter.unusedVariables false
open Go.RowKit
/-- An entry that fits. -/
def EnFt (e : List Lb × S.Inst) : Prop := (∀ a ∈ e.1, LbF a) ∧ e.1.length ≤ 16 ∧ In64 e.2
def EnsC (bs : List Int) (P : List (List Lb × S.Inst) → List Int → Prop) (k : Nat) (F : List En) (pl : Nat) (err : Int) : Prop := ∀ L rest, P L rest → F.map enF = L.take k ∧ err = 0 ∧ bs.drop pl = Q.cat enY (L.drop k) ++ rest
theorem ensC_step {bs : List Int} {P : List (List Lb × S.Inst) → List Int → Prop} {k : Nat} {F : List En} {p0 p1 p2 : Nat} {r0 r1 r2 : Int} {e : En} (hP : ∀ L rest, P L rest → (∀ e ∈ L, EnFt e) ∧ k < L.length) (h : EnsC bs P k F p0 r0)
    (h1 : ∀ l rest, (r0 = 0 ∧ bs.drop p0 = lsY l ++ rest ∧ (∀ a ∈ l, LbF a) ∧ l.length ≤ 16) → e.ls = l ∧ r1 = 0 ∧ bs.drop p1 = rest) (h2 : InsC bs p1 r1 e.x p2 r2) : EnsC bs P (k + 1) (F ++ [e]) p2 r2 := by
  intro L rest hp
  obtain ⟨hg, hk⟩ := hP L rest hp
  obtain ⟨hF, e0, d0⟩ := h L rest hp
  have hgk := hg _ (getD_mem L pr0 k hk)
  have hd : L.drop k = L.getD k pr0 :: L.drop (k + 1) := by rw [List.drop_eq_getElem_cons hk]; simp [hk]
  rw [hd] at d0
  have d0' : bs.drop p0 = lsY (L.getD k pr0).1 ++ (inY (L.getD k pr0).2 ++ (Q.cat enY (L.drop (k + 1)) ++ rest)) := by
    rw [d0]; simp [Q.cat, enY]
  obtain ⟨ha, e1, d1⟩ := h1 _ _ ⟨e0, d0', hgk.1, hgk.2.1⟩
  obtain ⟨hs, e2, d2⟩ := h2 _ _ e1 d1 hgk.2.2
  refine ⟨?_, e2, d2⟩
  rw [take_getD L pr0 k hk, List.map_append, hF]
  congr 1
  show [enF e] = _
  unfold enF
  rw [ha, hs]
/-- An entry that was read. -/
def EnRd (w : World) (base : Nat) (e : En) : Prop := OwnL w base e.sv.v e.ls ∧ EnFt (enF e)
def RbQ (w : World) (bs : List Int) (St : World → Nat → Int → Prop) (g : Nat) (P : List (List Lb × S.Inst) → List Int → Prop) (v : Value) (w' : World) : Prop :=
  ∃ F p r, OwnS TE w' w.heap.size v F ∧ F.length ≤ 100 ∧ (∀ e ∈ F, EnRd w' w.heap.size e) ∧ St w' p r ∧ w.grownBy w' (some g) ∧ (∀ L rest, P L rest → F.map enF = L ∧ r = 0 ∧ bs.drop p = rest)
theorem readInst_f (lo g : Nat) (bs : List Int) (pl : Nat) (err : Int) (w : World) (hs : Q.IsStrip w lo g bs pl err) (hby : Q.IsBytes bs) (hlen : bs.length ≤ 1000000000) :
    Calls Tryz.prog 92 #[.pointer (some ⟨g, 0, none⟩)] w fun e w' => ∃ z0 z1 z2 z3 z4 z5 z6 p' r', e = .returned (.agg #[.int .i64 z0, .int .i64 z1, .int .i64 z2, .int .i64 z3, .int .i64 z4, .int .i64 z5, .int .i64 z6]) ∧ In64 ⟨z0, z1, z2, z3, z4, z5, z6⟩ ∧ Q.IsStrip w' lo g bs p' r' ∧ w.grownBy w' (some g) ∧ InsC bs pl err ⟨z0, z1, z2, z3, z4, z5, z6⟩ p' r' := by
  refine (readInstance92 lo g bs pl err w hs hby hlen).mono ?_
  rintro e w' ⟨⟨z0, z1, z2, z3, z4, z5, z6⟩, p, r, rfl, h1, h2, h3, h4⟩
  exact ⟨z0, z1, z2, z3, z4, z5, z6, p, r, rfl, h1, h2, h3, h4⟩
set_option maxRecDepth 100000 in
set_option maxHeartbeats 4000000 in
theorem readBoard54 (lo g : Nat) (bs : List Int) (pl : Nat) (err : Int) (w : World) (hs : Q.IsStrip w lo g bs pl err) (hby : Q.IsBytes bs) (hlen : bs.length ≤ 1000000000) :
    Calls Tryz.prog 54 #[.pointer (some ⟨g, 0, none⟩)] w fun e w' => ∃ v, e = .returned v ∧ RbQ w bs (fun W p r => Q.IsStrip W lo g bs p r) g (fun L rest => err = 0 ∧ bs.drop pl = bdY L ++ rest ∧ (∀ e ∈ L, EnFt e) ∧ L.length ≤ 100) v w' := by
  have hgb : g < w.heap.size := hs.lt
  have hN1 := Q.sNum_w lo g bs pl err w hs hby hlen
  replace hby : Hid (Q.IsBytes bs) := hby
  obtain ⟨P, hPd⟩ : ∃ P : List (List Lb × S.Inst) → List Int → Prop, P = fun L rest => err = 0 ∧ bs.drop pl = bdY L ++ rest ∧ (∀ e ∈ L, EnFt e) ∧ L.length ≤ 100 := ⟨_, rfl⟩
  rw [← hPd]
  have hPl : Hid (∀ L rest, P L rest → (∀ e ∈ L, EnFt e) ∧ L.length ≤ 100) := fun l rest h => by rw [hPd] at h; exact h.2.2
  have hPe : Hid (∀ L rest, P L rest → err = 0 ∧ bs.drop pl = Q.enc L.length ++ (Q.cat enY L ++ rest)) := fun l rest h => by rw [hPd] at h; exact ⟨h.1, by rw [h.2.1]; simp [bdY]⟩
  clear hPd hs
  go_enter Tryz.func54, Tryz.ntmps54
  go_upto_region 2 with fail
  go_wp2_with (first
    | (go_at_call 90; refine hN1.mono ?_; rintro e w1 ⟨n, p1, r1, rfl, hn64, hs1, hg1, hc1⟩; replace hs1 : Hid (Q.IsStrip w1 lo g bs p1 r1) := hs1; replace hg1 : Hid (w.grownBy w1 (some g)) := hg1; replace hc1 : Hid (Q.NumC bs pl err n p1 r1) := hc1; obtain ⟨M, hM⟩ : ∃ M : Nat, Hid (M = min n 100) := ⟨_, rfl⟩; have hmin : min (n : Int) 100 = (M : Int) := (by have := hM.out; omega)))
  have hC0 : Hid (EnsC bs P 0 [] p1 r1) := fun l rest hp => by
    obtain ⟨h1, h2⟩ := hPe.out l rest hp
    obtain ⟨h3, h4, h5⟩ := hc1.out l.length _ h1 h2 (by have := (hPl.out l rest hp).2; omega)
    exact ⟨rfl, h4, by simpa using h5⟩
  have hPN : Hid (∀ l rest, P l rest → l.length = M) := fun l rest hp => by
    obtain ⟨h1, h2⟩ := hPe.out l rest hp
    have hl16 := (hPl.out l rest hp).2
    have h3 := (hc1.out l.length _ h1 h2 (by omega)).1
    have h9 := hM.out
    show l.length = M
    omega
  have hM16 : M ≤ 100 := by have := hM.out; omega
  clear hM hmin
  clear hc1 hN1
  go_loopw [3, 7] (fun y i wr => ∃ (k : Nat), k ≤ M ∧ i = .int .u64 k ∧ Hid (∃ F p r, OwnS TE wr w.heap.size y F ∧ F.length = k ∧ (∀ e ∈ F, EnRd wr w.heap.size e) ∧ Q.IsStrip wr lo g bs p r ∧ w.grownBy wr (some g) ∧ EnsC bs P k F p r)) (fun _ i _ => M - (intOf i).toNat)
  case atStart => exact ⟨0, Nat.zero_le _, rfl, [], p1, r1, OwnS.nil _ _, rfl, (fun q hq => by cases hq), hs1.out, hg1.out, hC0.out⟩
  case round =>
    obtain ⟨k, hk, rfl, hrest⟩ := hrel
    obtain ⟨F, p, r, ho, hFl, hFg, hst, hgr, hC⟩ := hrest.out
    obtain ⟨mv, rfl⟩ : ∃ mv, mv = u3 := ⟨_, rfl⟩
    clear hrest
    by_cases hlt : k < M
    · have hki : (k : Int) < (M : Int) := by omega
      have hI1 := readLabels91 lo g bs p r wr hst hby.out hlen
      have hwz : w.heap.size ≤ wr.heap.size := hgr.size
      replace ho : Hid (OwnS TE wr w.heap.size mv F) := ho
      replace hFl : Hid (F.length = k) := hFl
      replace hFg : Hid (∀ e ∈ F, EnRd wr w.heap.size e) := hFg
      replace hst : Hid (Q.IsStrip wr lo g bs p r) := hst
      replace hgr : Hid (w.grownBy wr (some g)) := hgr
      replace hC : Hid (EnsC bs P k F p r) := hC
      go_wp2_with (first
        | (go_at_call 91; refine hI1.mono ?_; rintro e w2 ⟨lv, rfl, ls, p2, r2, hol, hl16, hlf, hst2, hgr2, hc2⟩; obtain ⟨la, lc, rfl⟩ := hol.shape; have hT2 := readInst_f lo g bs p2 r2 w2 hst2 hby.out hlen; replace hol : Hid (OwnL w2 wr.heap.size (.slice la ls.length lc) ls) := hol; replace hlf : Hid (∀ q ∈ ls, LbF q) := hlf; replace hst2 : Hid (Q.IsStrip w2 lo g bs p2 r2) := hst2; replace hgr2 : Hid (wr.grownBy w2 (some g)) := hgr2; replace hc2 : Hid (∀ l rest, (r = 0 ∧ bs.drop p = lsY l ++ rest ∧ (∀ a ∈ l, LbF a) ∧ l.length ≤ 16) → ls = l ∧ r2 = 0 ∧ bs.drop p2 = rest) := hc2)
        | (go_at_call 92; refine hT2.mono ?_; rintro e w4 ⟨z0, z1, z2, z3, z4, z5, z6, p4, r4, rfl, hin4, hst4, hgr4, hc4⟩; have hgw : w.grownBy w4 (some g) := Q.gtr' (Q.gtr' hgr.out hgr2.out) hgr4; have ho4 : OwnS TE w4 w.heap.size mv F := kept3 (kept3 ho.out hgr2.out hgb) hgr4 hgb; have hol4 : OwnL w4 w.heap.size (.slice la ls.length lc) ls := OwnS.wide (kept3 hol.out hgr4 (by omega)) hwz; have hFg4 : ∀ e ∈ F, EnRd w4 w.heap.size e := (fun e he => ⟨kept3 (kept3 (hFg.out e he).1 hgr2.out hgb) hgr4 hgb, (hFg.out e he).2⟩); replace hin4 : Hid (In64 ⟨z0, z1, z2, z3, z4, z5, z6⟩) := hin4; replace hst4 : Hid (Q.IsStrip w4 lo g bs p4 r4) := hst4; replace hgw : Hid (w.grownBy w4 (some g)) := hgw; replace ho4 : Hid (OwnS TE w4 w.heap.size mv F) := ho4; replace hol4 : Hid (OwnL w4 w.heap.size (.slice la ls.length lc) ls) := hol4; replace hFg4 : Hid (∀ e ∈ F, EnRd w4 w.heap.size e) := hFg4; replace hc4 : Hid (InsC bs p2 r2 ⟨z0, z1, z2, z3, z4, z5, z6⟩ p4 r4) := hc4; clear hgr4)
        | (at_builtin; refine appR TE rfl (.tmp 9) (.tmp 15) rfl w.heap.size mv (.slice (some ⟨w4.heap.size, 0, none⟩) 1 1) F [⟨⟨la, ls.length, lc⟩, ls, ⟨z0, z1, z2, z3, z4, z5, z6⟩⟩] rfl rfl (OwnS.alloc ho4.out _) (sls_one w4 _ _ _ rfl) (by have := hgw.out.size; simp; omega) (by have := hFl.out; simp; omega) ?_; intro v5 w5 ho5 hg5; replace ho5 : Hid (OwnS TE w5 w.heap.size v5 (F ++ [⟨⟨la, ls.length, lc⟩, ls, ⟨z0, z1, z2, z3, z4, z5, z6⟩⟩])) := ho5; replace hg5 : Hid (World.grownBy (w4.alloc (.cells #[.slice la ls.length lc, .int .i64 z0, .int .i64 z1, .int .i64 z2, .int .i64 z3, .int .i64 z4, .int .i64 z5, .int .i64 z6] 67)) w5 mv.ownBlock) := hg5))
      refine ⟨⟨k + 1, by omega, by go_num, ?_⟩, ?_⟩
      · refine ⟨F ++ [⟨⟨la, ls.length, lc⟩, ls, ⟨z0, z1, z2, z3, z4, z5, z6⟩⟩], p4, r4, ho5.out, by simp [hFl.out], fun q hq => ?_, ?_, ?_, ?_⟩
        · rcases List.mem_append.1 hq with hq | hq
          · exact ⟨own_by (OwnS.alloc (hFg4.out q hq).1 _) (by decide) (OwnS.alloc ho4.out _) hg5.out, (hFg4.out q hq).2⟩
          · have e : q = ⟨⟨la, ls.length, lc⟩, ls, ⟨z0, z1, z2, z3, z4, z5, z6⟩⟩ := by simpa using hq
            rw [e]
            exact ⟨own_by (OwnS.alloc hol4.out _) (by decide) (OwnS.alloc ho4.out _) hg5.out, hlf.out, hl16, hin4.out⟩
        · exact Q.strip_ob (Q.strip_stay hst4.out ((Below.refl _ _).alloc (Nat.le_refl _) _)).1 hg5.out (fun q hq => by have := (OwnS.lt ho4.out q hq).1; omega)
        · exact Q.gtr (Q.gtr' hgw.out (Q.g_alloc _ _ _)) hg5.out (fun q hq => (OwnS.lt ho4.out q hq).1)
        · exact ensC_step (e := ⟨⟨la, ls.length, lc⟩, ls, ⟨z0, z1, z2, z3, z4, z5, z6⟩⟩) (fun l rest hp => ⟨(hPl.out l rest hp).1, by have := hPN.out l rest hp; omega⟩) hC.out hc2.out hc4.out
      · simp [intOf]; omega
    · obtain rfl : k = M := by omega
      have hki : ¬ (k : Int) < (k : Int) := by omega
      have hfin : Hid (RbQ w bs (fun W p r => Q.IsStrip W lo g bs p r) g P mv wr) := ⟨F, p, r, ho, by omega, hFg, hst, hgr, fun l rest hp => by
        obtain ⟨h1, h2, h3⟩ := hC l rest hp
        have hl := hPN.out l rest hp
        rw [List.take_of_length_le (by omega)] at h1
        rw [show l.drop k = [] from List.drop_of_length_le (by omega)] at h3
        exact ⟨h1, h2, by simpa [Q.cat] using h3⟩⟩
      clear ho hFl hFg hst hgr hC
      go_wp2
      go_ret
      exact ⟨mv, rfl, hfin.out⟩
end Go.Proofs.YtiajafljgfpdcaaGreat
/- Equal, Get. -/
namespace Go.Proofs.YtiajafljgfpdcaaGreat
set_option linter.unusedVariables false
open Go.RowKit
/-- Two rows of bytes are the same. -/
def eqB (xs ys : List Int) : Bool := (strOfNums xs).toList == (strOfNums ys).toList
theorem eqB_iff {xs ys : List Int} (hx : Q.IsBytes xs) (hy : Q.IsBytes ys) : eqB xs ys = true ↔ xs = ys := by
  unfold eqB
  constructor
  · intro h
    have h := toList_eq h
    rw [← Q.numsS_strOf xs hx, ← Q.numsS_strOf ys hy, h]
  · intro h; rw [h]; simp
set_option maxRecDepth 100000 in
set_option maxHeartbeats 1000000 in
theorem equal56 (u v : Value) (xs ys : List Int) (w : World) (hu : Q.Bts w u xs) (hv : Q.Bts w v ys) : Calls Tryz.prog 56 #[u, v] w fun e w' => e = .returned (.bool (eqB xs ys)) ∧ w' = w := by
  have h1 := Q.conv_str hu
  have h2 := Q.conv_str hv
  have hE : Hid (eqB xs ys = ((strOfNums xs).toList == (strOfNums ys).toList)) := rfl
  generalize strOfNums xs = X at *
  generalize strOfNums ys = Y at *
  clear hu hv
  go_enter Tryz.func56, Tryz.ntmps56
  go_wp2
  go_ret
  exact ⟨by rw [hE.out]; rfl, rfl⟩
theorem isBytes_lsY (l : List Lb) : Q.IsBytes (lsY l) := Q.isBytes_append (Q.isBytes_enc _) (Q.isBytes_cat lbY l fun x _ => Q.isBytes_append (Q.isBytes_encT _) (Q.isBytes_encT _))
theorem isBytes_enY (e : List Lb × S.Inst) : Q.IsBytes (enY e) := Q.isBytes_append (isBytes_lsY _) (Q.isBytes_cat Q.encS _ fun x _ => Q.isBytes_encS _)
theorem isBytes_bdY (l : List (List Lb × S.Inst)) : Q.IsBytes (bdY l) := Q.isBytes_append (Q.isBytes_enc _) (Q.isBytes_cat enY l fun x _ => isBytes_enY x)
/-- A board that may be. -/
def BdV (l : List (List Lb × S.Inst)) : Prop := chkF l = 0 ∧ ∀ e ∈ l, In64 e.2
theorem bdV_fits {l : List (List Lb × S.Inst)} (h : BdV l) : (∀ e ∈ l, EnFt e) ∧ l.length ≤ 100 := by
  obtain ⟨h1, h2⟩ := chk_zero h.1
  refine ⟨fun e he => ?_, h2⟩
  have hs := bd_short h1 e he
  exact ⟨fun a ha => ⟨(hs.1 a ha).1.1.2, (hs.1 a ha).2.2⟩, hs.2.2, h.2 e he⟩
theorem enFt_reach {e : En} (h : EnFt (enF e)) : LbsR e.ls ∧ e.ls.length ≤ 100000 := by
  refine ⟨fun a ha => ?_, by have := h.2.1; unfold enF at this; simp only at this; omega⟩
  have := h.1 a ha
  unfold LbF at this
  unfold LbR reachBytes
  omega
/-- What Get answers. -/
def GbQ (w : World) (bs : List Int) (e : Ending) (w' : World) : Prop := Below w.heap.size w w' ∧ ((∃ F v, BdV (F.map enF) ∧ bdY (F.map enF) = bs ∧ (∀ L, BdV L → bdY L = bs → F.map enF = L) ∧ e = .returned (.tuple #[v, .int .i64 0]) ∧ OwnS TE w' w.heap.size v F ∧ ∀ x ∈ F, OwnL w' w.heap.size x.sv.v x.ls) ∨ ((∀ L, BdV L → bdY L ≠ bs) ∧ e = .returned (.tuple #[.slice none 0 0, .int .i64 180])))
set_option maxRecDepth 100000 in
set_option maxHeartbeats 8000000 in
/-- board.Get. -/
theorem get23 (bs : List Int) (v : Value) (w : World) (hb : Q.Bts w v bs) (hby : Q.IsBytes bs) (hlen : bs.length ≤ 1000000000) :
    Calls Tryz.prog 23 #[v] w (GbQ w bs) := by
  have hU := Q.unroll_any bs v w hlen hb
  replace hby : Hid (Q.IsBytes bs) := hby
  obtain ⟨av, nv, cv, hvs⟩ : ∃ a n c, v = .slice a n c := by obtain ⟨a, c, rfl, _⟩ := hb; exact ⟨_, _, _, rfl⟩
  replace hb : Hid (Q.Bts w v bs) := hb
  go_enter Tryz.func23, Tryz.ntmps23
  replace hvs : Hid _ := hvs
  go_upto_region 2 with (first
    | (go_at_call 55; refine hU.mono ?_; rintro e w2 ⟨g, rfl, hg2, hs2, hb2⟩; have hR2 := readBoard54 w.heap.size g bs 0 0 w2 hs2 hby.out hlen; replace hg2 : Hid (w.heap.size ≤ g) := hg2; replace hs2 : Hid (Q.IsStrip w2 w.heap.size g bs 0 0) := hs2; replace hb2 : Hid (Below w.heap.size w w2) := hb2)
    | (go_at_call 54; refine hR2.mono ?_; rintro e w3 ⟨fv, rfl, F, p3, r3, ho3, hF3, hr3, hst3, hgr3, hc3⟩; obtain ⟨a3, c3, hv3⟩ := ho3.shape; obtain ⟨n3, hn3⟩ : ∃ n3, n3 = F.length := ⟨_, rfl⟩; rw [← hn3] at hv3; subst hv3; replace hn3 : Hid _ := hn3; replace ho3 : Hid (OwnS TE w3 w2.heap.size (.slice a3 n3 c3) F) := ho3; replace hF3 : Hid _ := hF3; replace hr3 : Hid (∀ e ∈ F, EnRd w3 w2.heap.size e) := hr3; replace hgr3 : Hid (w2.grownBy w3 (some g)) := hgr3; replace hc3 : Hid _ := hc3; clear hst3))
  have hB3 : Below w.heap.size w w3 := hb2.out.grown hgr3.out hb2.out.size (fun k hk => by cases hk; exact hg2.out)
  have hbs3 : Q.Bts w3 v bs := hb.out.grow hB3
  have hl100 : F.length ≤ 100 := hF3.out
  have hens : Ens w3 (.slice a3 n3 c3) F := ⟨ho3.out.sls, fun e he => (hr3.out e he).1.sls⟩
  have hP := put21 (.slice a3 n3 c3) F w3 hens (by omega) (fun e he => enFt_reach (hr3.out e he).2) (fun e he => (hr3.out e he).2.2.2)
  have hcond : ∀ L, BdV L → bdY L = bs → F.map enF = L := fun L hL he => (hc3.out L [] ⟨trivial, by simp [he], (bdV_fits hL).1, (bdV_fits hL).2⟩).1
  have hno1 : Hid (chkF (F.map enF) ≠ 0 → ∀ L, BdV L → bdY L ≠ bs) := fun hne L hL he => hne (by rw [hcond L hL he]; exact hL.1)
  have hno2 : Hid (bdY (F.map enF) ≠ bs → ∀ L, BdV L → bdY L ≠ bs) := fun hne L hL he => hne (by rw [hcond L hL he]; exact he)
  have hvd : Hid (chkF (F.map enF) = 0 → BdV (F.map enF)) := fun h => ⟨h, fun e he => by
    obtain ⟨x, hx, rfl⟩ := List.mem_map.1 he
    exact (hr3.out x hx).2.2.2⟩
  have hEb : Hid (eqB (bdY (F.map enF)) bs = true ↔ bdY (F.map enF) = bs) := eqB_iff (isBytes_bdY _) hby.out
  have hEq : Hid (∀ v5 W, Q.Own W w3.heap.size v5 (bdY (F.map enF)) → Below w3.heap.size w3 W → Calls Tryz.prog 56 #[v5, v] W fun e w' => e = .returned (.bool (eqB (bdY (F.map enF)) bs)) ∧ w' = W) := fun v5 W h1 h2 => equal56 v5 v _ _ W h1.bts (hbs3.grow h2)
  have hout : Hid (∀ W, Below w3.heap.size w3 W → Below w.heap.size w W ∧ OwnS TE W w.heap.size (.slice a3 n3 c3) F ∧ ∀ x ∈ F, OwnL W w.heap.size x.sv.v x.ls) := fun W hW => ⟨hB3.trans (hW.mono hB3.size), (ho3.out.stay hW).wide (by have := hb2.out.size; exact this), fun x hx => ((hr3.out x hx).1.stay hW).wide (by have := hb2.out.size; exact this)⟩
  replace hcond : Hid (∀ L, BdV L → bdY L = bs → F.map enF = L) := hcond
  clear hens hl100 hbs3 hB3 hF3 hr3 hc3 hgr3 ho3
  by_cases hpe : chkF (F.map enF) = 0
  · have hvd2 : Hid (BdV (F.map enF)) := hvd.out hpe
    simp only [hpe, if_true] at hP
    clear hpe hno1 hvd
    cases heq : eqB (bdY (F.map enF)) bs with
    | false =>
      rw [heq] at hEq hEb
      have hno := hno2.out (fun h => by have := hEb.out.2 h; cases this)
      replace hno : Hid _ := hno
      clear heq hEb hno2
      generalize bdY (F.map enF) = FB at *
      go_wp2_with (first
        | (go_at_call 21; refine hP.mono ?_; rintro e w5 ⟨v5, rfl, ho5, hb5⟩; have hE5 := hEq.out v5 w5 ho5 hb5; replace ho5 : Hid _ := ho5; replace hb5 : Hid (Below w3.heap.size w3 w5) := hb5)
        | (go_at_call 56; refine hE5.mono ?_; rintro e wx ⟨rfl, hwx⟩; subst wx))
      go_ret2
      exact ⟨(hout.out _ hb5.out).1, .inr ⟨hno.out, rfl⟩⟩
    | true =>
      have hfb : Hid (bdY (F.map enF) = bs) := hEb.out.1 heq
      rw [heq] at hEq
      clear heq hEb hno2
      generalize bdY (F.map enF) = FB at hP hEq
      go_wp2_with (first
        | (go_at_call 21; refine hP.mono ?_; rintro e w5 ⟨v5, rfl, ho5, hb5⟩; have hE5 := hEq.out v5 w5 ho5 hb5; replace ho5 : Hid _ := ho5; replace hb5 : Hid (Below w3.heap.size w3 w5) := hb5)
        | (go_at_call 56; refine hE5.mono ?_; rintro e wx ⟨rfl, hwx⟩; subst wx))
      go_ret2
      obtain ⟨h1, h2, h3⟩ := hout.out _ hb5.out
      exact ⟨h1, .inl ⟨F, _, hvd2.out, hfb.out, hcond.out, rfl, h2, h3⟩⟩
  · have hno := hno1.out hpe
    replace hno : Hid _ := hno
    have hne : ((chkF (F.map enF)) != 0) = true := by simp [hpe]
    simp only [if_neg hpe] at hP
    clear hpe hEb hno2 hvd
    generalize chkF (F.map enF) = CH at *
    go_wp2_with (first
      | (go_at_call 21; refine hP.mono ?_; rintro e w5 ⟨v5, rfl, ho5, hb5⟩; replace ho5 : Hid _ := ho5; replace hb5 : Hid (Below w3.heap.size w3 w5) := hb5))
    go_ret2
    exact ⟨(hout.out _ hb5.out).1, .inr ⟨hno.out, rfl⟩⟩
end Go.Proofs.YtiajafljgfpdcaaGreat
