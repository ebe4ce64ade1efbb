/- The document's Get. -/
import Derived.Test.YtfbeilninpapaaaGw
import Derived.Deep.RegionLaw
namespace Go.Proofs.Ytfbeilninpapaaa
set_option linter.unusedVariables false
open Go.RowKit
/-- Between two rounds of the document's Get: the folder's box fb, its list, the Reader. -/
def RgI (w1 : World) (bs : List Int) (lo g fb base : Nat) (s : ByteArray) (P : List Gr → List Int → Prop) (k : Nat) (wr : World) (ay : Option Addr) (ny cy : Nat) (F : List Gr) (p : Nat) (r : Int) : Prop :=
  wr.heap[fb]? = some (.cells #[.string s, .slice ay ny cy, .int .i64 0] 39 (0, 0)) ∧ OwnG wr base (.slice ay ny cy) F ∧ F.length = k ∧ (∀ q ∈ F, GrI q ∧ q.name.size ≤ 24) ∧ IsRd wr lo g bs p r ∧ Below w1.heap.size w1 wr ∧ base ≤ wr.heap.size ∧ GrsC bs P k F p r ∧ (r = 0 → k ≤ p) ∧ k ≤ bs.length + 1
theorem set1 {W : World} {b : Nat} {x y z y' : Value} (h : W.heap[b]? = some (.cells #[x, y, z] 39 (0, 0))) : (W.setCell ⟨b, 1, none⟩ y').heap[b]? = some (.cells #[x, y', z] 39 (0, 0)) ∧ W.grownBy (W.setCell ⟨b, 1, none⟩ y') (some b) := ⟨block_setCell (i := 1) (u := y') h, grownBy_set (Below.refl _ _) _ _ _⟩
theorem set2 {W : World} {b : Nat} {x y z z' : Value} (h : W.heap[b]? = some (.cells #[x, y, z] 39 (0, 0))) : (W.setCell ⟨b, 2, none⟩ z').heap[b]? = some (.cells #[x, y, z'] 39 (0, 0)) ∧ W.grownBy (W.setCell ⟨b, 2, none⟩ z') (some b) := ⟨block_setCell (i := 2) (u := z') h, grownBy_set (Below.refl _ _) _ _ _⟩
theorem keptO {w w' : World} {b : Nat} {o : Obj} {ob : Option Nat} (h : w.heap[b]? = some o) (hg : w.grownBy w' ob) (hne : some b ≠ ob) : w'.heap[b]? = some o := (hg.block b (lt_of_block h) hne).trans h
theorem own_shape3 {w : World} {b : Nat} {v : Value} {l : List Gr} (h : OwnG w b v l) : ∃ a n c, v = .slice a n c := by
  obtain ⟨a, c, e⟩ := h.shape
  exact ⟨a, _, c, e⟩
set_option maxRecDepth 100000 in
set_option maxHeartbeats 8000000 in
/-- The document's Get. -/
theorem rget_any (bs : List Int) (v : Value) (w : World) (hb : Bts w v bs) (hby : IsBytes bs) (hlen : bs.length ≤ 1000000) :
    Calls Try.prog 20 #[v] w (GtQ w bs) := by
  obtain ⟨w1, hw1⟩ : ∃ w1, w1 = w.alloc (.cells #[.string ⟨#[]⟩, .slice none 0 0, .int .i64 0] 39) := ⟨_, rfl⟩
  have hb1 : Bts w1 v bs := by rw [hw1]; exact hb.alloc _
  have hB1 : Hid (Below w.heap.size w w1) := by rw [hw1]; exact (Below.refl _ _).alloc (Nat.le_refl _) _
  have hz1 : Hid (w1.heap.size = w.heap.size + 1) := by rw [hw1]; show _ = _; simp
  have hH1 : Hid (w1.heap[w.heap.size]? = some (.cells #[.string ⟨#[]⟩, .slice none 0 0, .int .i64 0] 39 (0, 0))) := by rw [hw1]; exact heap_new _ _
  have hU := rnew_any bs v w1 (by omega) hb1
  replace hb1 : Hid (Bts w1 v bs) := hb1
  replace hby : Hid (IsBytes bs) := hby
  have hlen9 : bs.length ≤ 1000000000 := by omega
  obtain ⟨av, nv, cv, hvs⟩ : ∃ a n c, v = .slice a n c := by obtain ⟨a, c, rfl, _⟩ := hb; exact ⟨_, _, _, rfl⟩
  clear hb
  go_enter Try.func20, Try.ntmps20
  go_upto_region 1 with fail
  rw [← hw1]
  replace hw1 : Hid _ := hw1
  replace hvs : Hid _ := hvs
  go_upto_region 3 with (first
    | (go_at_call 38; refine hU.mono ?_; rintro e w2 ⟨g, rfl, hg2, hs2, hb2⟩; have hR2 := rText_w w1.heap.size g bs 0 0 w2 hs2 hby.out hlen9; replace hg2 : Hid (w1.heap.size ≤ g) := hg2; replace hs2 : Hid (IsRd w2 w1.heap.size g bs 0 0) := hs2; replace hb2 : Hid (Below w1.heap.size w1 w2) := hb2)
    | (go_at_call 39; refine hR2.mono ?_; rintro e w3 ⟨s, p3, r3, rfl, hs24, hs3, hg3, hc3, _⟩; replace hs24 : Hid (s.size ≤ 24) := hs24; replace hs3 : Hid (IsRd w3 w1.heap.size g bs p3 r3) := hs3; replace hg3 : Hid (w2.grownBy w3 (some g)) := hg3; replace hc3 : Hid (TxtC bs 0 0 s p3 r3) := hc3))
  obtain ⟨w4, hw4⟩ : ∃ w4, w4 = w3.alloc (.cells #[.string s, .slice none 0 0, .int .i64 0] 39) := ⟨_, rfl⟩
  have hs4 : IsRd w4 w1.heap.size g bs p3 r3 := by rw [hw4]; exact (rd_stay hs3.out ((Below.refl _ _).alloc (Nat.le_refl _) _)).1
  have hH4 : Hid (w4.heap[w3.heap.size]? = some (.cells #[.string s, .slice none 0 0, .int .i64 0] 39 (0, 0))) := by rw [hw4]; exact heap_new _ _
  have hB3 : Below w1.heap.size w1 w3 := below_of_grown hb2.out hg3.out hg2.out hb2.out.size
  have hB4 : Hid (Below w1.heap.size w1 w4) := by rw [hw4]; exact hB3.alloc hB3.size _
  have hgf : g < w3.heap.size := hs3.out.lt
  have hfl : Hid (w3.heap.size < w4.heap.size) := lt_of_block hH4.out
  have hf1 : Hid (w1.heap.size ≤ w3.heap.size) := hB3.size
  have hN := rNum_w w1.heap.size g bs p3 r3 w4 hs4 hby.out hlen9
  rw [← hw4]
  replace hw4 : Hid _ := hw4
  clear hB3 hs4
  generalize hfb : w3.heap.size = fb at *
  clear hfb
  go_wp2_with (first
    | (go_at_call 40; refine hN.mono ?_; rintro e w5 ⟨n, p5, r5, rfl, hn64, hs5, hg5, hc5⟩; replace hs5 : Hid (IsRd w5 w1.heap.size g bs p5 r5) := hs5; replace hg5 : Hid (w4.grownBy w5 (some g)) := hg5; replace hc5 : Hid (NumC bs p3 r3 n p5 r5) := hc5))
  obtain ⟨P, hPd⟩ : ∃ P : List Gr → List Int → Prop, P = fun l rest => r3 = 0 ∧ bs.drop p3 = enc l.length ++ (cat grB l ++ rest) ∧ GrS l := ⟨_, rfl⟩
  have hPl : Hid (∀ l rest, P l rest → GrS l ∧ n = l.length) := fun l rest h => by
    rw [hPd] at h
    exact ⟨h.2.2, (hc5.out l.length _ h.1 h.2.1 (by have := h.2.2.1; omega)).1⟩
  have hC0 : Hid (GrsC bs P 0 [] p5 r5) := fun l rest h => by
    rw [hPd] at h
    obtain ⟨_, h4, h5⟩ := hc5.out l.length _ h.1 h.2.1 (by have := h.2.2.1; omega)
    exact ⟨rfl, h4, by simpa using h5⟩
  have hPi : Hid (∀ l rest, (r3 = 0 ∧ bs.drop p3 = enc l.length ++ (cat grB l ++ rest) ∧ GrS l) → P l rest) := fun l rest h => by rw [hPd]; exact h
  have hH5 : Hid (w5.heap[fb]? = some (.cells #[.string s, .slice none 0 0, .int .i64 0] 39 (0, 0))) := keptO hH4.out hg5.out (by simp; omega)
  have hB5 : Hid (Below w1.heap.size w1 w5) := below_of_grown hB4.out hg5.out hg2.out hB4.out.size
  have hfb5 : Hid (fb < w5.heap.size) := lt_of_block hH5.out
  clear hPd hN hU hR2
  go_loopw [7] (fun i wr => ∃ k : Nat, k ≤ n ∧ i = .int .u64 k ∧ Hid (∃ ay ny cy F p r, RgI w1 bs w1.heap.size g fb w5.heap.size s P k wr ay ny cy F p r)) (fun i _ => n - (intOf i).toNat)
  case atStart => exact ⟨0, Nat.zero_le _, rfl, none, 0, 0, [], p5, r5, hH5.out, OwnS.nil _ _, rfl, (fun q hq => by cases hq), hs5.out, hB5.out, Nat.le_refl _, hC0.out, fun _ => Nat.zero_le _, Nat.zero_le _⟩
  case round =>
    obtain ⟨k, hk, rfl, hrest⟩ := hrel
    obtain ⟨ay, ny, cy, F, p, r, hHr, hor, hFl, hFg, hrd, hBr, hbs, hC, hkp, hkl⟩ := hrest.out
    clear hrest
    obtain ⟨a0, n0, c0, sp0, hgh, _, _, hpl⟩ := id hrd
    have cE := (rd_cells hgh 2 _ rfl).1
    clear hgh
    have hfbz := hfb5.out
    by_cases hlt : k < n
    · have hki : (k : Int) < (n : Int) := by omega
      by_cases hr0 : r = 0
      · subst hr0
        have hrb : ((0 : Int) == 0) = true := rfl
        have hkp0 := hkp rfl
        obtain ⟨⟨x0, x1, x2⟩, ⟨f0, f1, f2⟩⟩ := boxF hHr
        have hrdd := (rd_stay hrd ((Below.refl _ wr).drew)).1
        have hI1 := rInt_w w1.heap.size g bs p 0 wr.drew hrdd hby.out hlen9
        have hHd : wr.drew.heap[fb]? = some (.cells #[.string s, .slice ay ny cy, .int .i64 0] 39 (0, 0)) := hHr
        have hod : OwnG wr.drew w5.heap.size (.slice ay ny cy) F := hor
        have hBd : Below w1.heap.size w1 wr.drew := hBr.trans ((Below.refl _ _).drew)
        have hszd : w5.heap.size ≤ wr.drew.heap.size := hbs
        have hne : some fb ≠ some g := by simp; omega
        have hg5z : g < w5.heap.size := by omega
        have t1 : True := trivial
        have hx1 : wr.drew.cell? ⟨fb, 1, none⟩ = some (.slice ay ny cy) := (boxF hHd).1.2.1
        have hAl : ∀ (W : World) (o' : Obj), W.heap[fb]? = some (.cells #[.string s, .slice ay ny cy, .int .i64 0] 39 (0, 0)) → (W.alloc o').heap[fb]? = some (.cells #[.string s, .slice ay ny cy, .int .i64 0] 39 (0, 0)) := fun W o' h => (((Below.refl _ W).alloc (Nat.le_refl _) o').block _ (lt_of_block h)).trans h
        have hlenF : F.length + 1 ≤ 1000000000 := by omega
        have hbA : ∀ (W : World) (o' : Obj), w5.heap.size ≤ W.heap.size → w5.heap.size ≤ (W.alloc o').heap.size := fun W o' h => by simp; omega
        have hobn : ∀ (W : World), OwnG W w5.heap.size (.slice ay ny cy) F → some fb ≠ (Value.slice ay ny cy).ownBlock := fun W h e => by have := (h.lt fb e.symm).1; omega
        go_upto_region 7 with fail
        clear cE hrd hrdd
        go_region_law (first
          | (go_simp; go_at_call 41; have _t := t1; refine hI1.mono ?_; rintro e w6 ⟨a6, p6, r6, rfl, hin6, hs6, hg6, hc6, hm6⟩; clear t1; have hH6 := keptO hHd hg6 hne; have y6 := (boxF hH6).1.2.1; have hT6 := rText_w w1.heap.size g bs p6 r6 w6 hs6 hby.out hlen9; have ho6 := OwnS.kept2 hod hg6 hg5z)
          | (go_simp; go_at_call 39; refine hT6.mono ?_; rintro e w7 ⟨s7, p7, r7, rfl, hin7, hs7, hg7, hc7, hm7⟩; have hH7 := keptO hH6 hg7 hne; have y7 := (boxF hH7).1.2.1; have hI7 := rInt_w w1.heap.size g bs p7 r7 w7 hs7 hby.out hlen9; have ho7 := OwnS.kept2 ho6 hg7 hg5z)
          | (go_simp; go_at_call 41; refine hI7.mono ?_; rintro e w8 ⟨a8, p8, r8, rfl, hin8, hs8, hg8, hc8, hm8⟩; have hH8 := keptO hH7 hg8 hne; have y8 := (boxF hH8).1.2.1; have ho8 := OwnS.kept2 ho7 hg8 hg5z; have hgt8 := gtr' (gtr' hg6 hg7) hg8; have hsz8 : w5.heap.size ≤ w8.heap.size := Nat.le_trans hszd hgt8.size; have y8a : ∀ o', (w8.alloc o').cell? ⟨fb, 1, none⟩ = some (.slice ay ny cy) := fun o' => Lib.cell?_alloc_some _ y8)
          | (refine stepR TG rfl (.tmp 30) (.tmp 38) rfl w5.heap.size (.slice ay ny cy) ⟨w8.heap.size, 0, none⟩ 1 1 F [⟨a6, s7, a8⟩] (by first | rfl | simp [Act.eval] | simp [Act.eval, Act.put]) (by first | rfl | simp [Act.eval] | simp [Act.eval, Act.put]) (ho8.alloc _) (sls_one w8 _ _ _ rfl) (hbA _ _ hsz8) hlenF ?_; intro v9 w9 ho9 hg9; have hH9 := keptO (hAl _ _ hH8) hg9 (hobn _ ho8); have z9 := boxF hH9; obtain ⟨⟨z90, z91, z92⟩, ⟨zf0, zf1, zf2⟩⟩ := z9; obtain ⟨a9, n9, c9, hv9⟩ := own_shape3 ho9; subst hv9))
        all_goals
          obtain ⟨hS1, hS2⟩ := set1 (y' := .slice a9 n9 c9) hH9
          have hfin : Hid (RgI w1 bs w1.heap.size g fb w5.heap.size s P (k + 1) (w9.setCell ⟨fb, 1, none⟩ (.slice a9 n9 c9)) a9 n9 c9 (F ++ [⟨a6, s7, a8⟩]) p8 r8) := by
            have hgA : w8.grownBy (w8.alloc (.cells #[.int .i64 a6, .string s7, .int .i64 a8] 52)) (some g) := g_alloc _ _ _
            have hs9 : IsRd w9 w1.heap.size g bs p8 r8 := rd_ob (rd_stay hs8 ((Below.refl _ _).alloc (Nat.le_refl _) _)).1 hg9 (fun q hq => by have := (ho8.lt q hq).1; omega)
            have hB8 : Below w1.heap.size w1 w8 := below_of_grown hBd hgt8 hg2.out hBd.size
            have hB8a := hB8.alloc hB8.size (.cells #[.int .i64 a6, .string s7, .int .i64 a8] 52)
            have hB9 : Below w1.heap.size w1 w9 := hB8a.trans ((Below.refl _ _).grown hg9 hB8a.size (fun q hq => by have := (ho8.lt q hq).1; have := hB5.out.size; omega))
            have hsz9 : w5.heap.size ≤ w9.heap.size := by have := hg9.size; simp at this; omega
            refine ⟨hS1, OwnS.kept2 ho9 hS2 (by omega), by simp [hFl], fun q hq => ?_, rd_other hs9 hS2 (.inr hgf), below_of_grown hB9 hS2 hf1.out hB9.size, Nat.le_trans hsz9 hS2.size, grsC_step (fun l rest hp => ⟨(hPl.out l rest hp).1, by have := (hPl.out l rest hp).2; omega⟩) hC hc6 hc7 hc8, fun hr8 => ?_, by omega⟩
            · rcases List.mem_append.1 hq with hq | hq
              · exact hFg q hq
              · have e : q = ⟨a6, s7, a8⟩ := by simpa using hq
                rw [e]; exact ⟨⟨hin6, hin8⟩, hin7⟩
            · obtain ⟨e7, l8⟩ := hm8 hr8
              obtain ⟨e6, l7⟩ := hm7 e7
              obtain ⟨_, l6⟩ := hm6 e6
              omega
          clear hAl hlenF hbA hobn hS1 hS2 hH9 z90 z91 z92 zf0 zf1 zf2 ho9 hg9 y8a hsz8 hgt8 ho8 y8 hH8 hs8 hg8 hc8 hm8 ho7 hI7 y7 hH7 hs7 hg7 hc7 hm7 ho6 hT6 y6 hH6 hs6 hg6 hc6 hm6
          generalize w9.setCell ⟨fb, 1, none⟩ (.slice a9 n9 c9) = W10 at *
          go_wp2
          refine ⟨⟨k + 1, by omega, by go_num, a9, n9, c9, _, p8, r8, hfin.out⟩, ?_⟩
          simp [intOf]; omega
      · have hrb : (r == 0) = false := by simpa using hr0
        have hnoP : Hid (∀ l rest, ¬ P l rest) := fun l rest h => hr0 (hC l rest h).2.1
        clear hr0
        have hval : Hid (∀ l rest, P l rest → F = l ∧ r = 0 ∧ bs.drop p = rest) := fun l rest h => absurd h (hnoP.out l rest)
        clear hnoP
        have hI := rInt_w w1.heap.size g bs p r wr hrd hby.out hlen9
        obtain ⟨⟨x0, x1, x2⟩, ⟨f0, f1, f2⟩⟩ := boxF hHr
        have hne : some fb ≠ some g := by simp; omega
        have hg5z : g < w5.heap.size := by omega
        replace hHr : Hid (wr.heap[fb]? = some (.cells #[.string s, .slice ay ny cy, .int .i64 0] 39 (0, 0))) := hHr
        replace hor : Hid (OwnG wr w5.heap.size (.slice ay ny cy) F) := hor
        replace hFg : Hid (∀ q ∈ F, GrI q ∧ q.name.size ≤ 24) := hFg
        replace hBr : Hid (Below w1.heap.size w1 wr) := hBr
        have hFb : Hid (F.length ≤ 1000002) := by show _ ≤ _; omega
        clear hrd hC hkp hFl
        go_upto_region 9 with (first
          | (go_at_call 41; refine hI.mono ?_; rintro e w8 ⟨z, p8, r8, rfl, hin8, hs8, hg8, hc8, hm8⟩; have hH8 := keptO hHr.out hg8 hne; obtain ⟨⟨y0, y1, y2⟩, ⟨e0, e1, e2⟩⟩ := boxF hH8; replace hH8 : Hid (w8.heap[fb]? = some (.cells #[.string s, .slice ay ny cy, .int .i64 0] 39 (0, 0))) := hH8; replace hin8 : Hid (-9223372036854775808 ≤ z ∧ z ≤ 9223372036854775807) := hin8; replace hs8 : Hid (IsRd w8 w1.heap.size g bs p8 r8) := hs8; replace hg8 : Hid (wr.grownBy w8 (some g)) := hg8; replace hc8 : Hid (IntC bs p r z p8 r8) := hc8; replace hm8 : Hid _ := hm8))
        obtain ⟨hH9, hS9⟩ := set2 (z' := .int .i64 z) hH8.out
        have hB8 : Below w1.heap.size w1 w8 := below_of_grown hBr.out hg8.out hg2.out hBr.out.size
        have hB9 : Below w1.heap.size w1 (w8.setCell ⟨fb, 2, none⟩ (.int .i64 z)) := below_of_grown hB8 hS9 hf1.out hB8.size
        have hs9 : IsRd (w8.setCell ⟨fb, 2, none⟩ (.int .i64 z)) w1.heap.size g bs p8 r8 := rd_other hs8.out hS9 (.inr hgf)
        have ho9 : OwnG (w8.setCell ⟨fb, 2, none⟩ (.int .i64 z)) w5.heap.size (.slice ay ny cy) F := OwnS.kept2 (OwnS.kept2 hor.out hg8.out hg5z) hS9 (by omega)
        have hall : Hid (∀ m l z0, Vd m l z0 → foB m l z0 = bs → (s = m ∧ F = l ∧ z = z0) ∧ r8 = 0 ∧ bs.drop p8 = []) := fun m l z0 hv hf => by
          obtain ⟨h1, h2⟩ := vd_fits hv
          have hd : bs.drop 0 = encT m ++ (enc l.length ++ (cat grB l ++ encS z0)) := by simpa [foB] using hf.symm
          obtain ⟨q1, q2, q3⟩ := hc3.out m _ rfl hd h1
          obtain ⟨q4, q5, q6⟩ := hval.out l (encS z0) (hPi.out l _ ⟨q2, q3, h2⟩)
          obtain ⟨q7, q8, q9⟩ := hc8.out z0 [] q5 (by rw [q6]; simp) hv.2.2
          exact ⟨⟨q1, q4, q7⟩, q8, q9⟩
        have hPut := rput_any s (.slice ay ny cy) F z (w8.setCell ⟨fb, 2, none⟩ (.int .i64 z)) (by have := hs24.out; omega) ho9.sls (by have := hFb.out; omega) (fun q hq => by have := (hFg.out q hq).2; omega) (fun q hq => (hFg.out q hq).1) hin8.out
        have hbl : Hid (∀ q, (Value.slice ay ny cy).ownBlock = some q → w5.heap.size ≤ q) := fun q hq => (ho9.lt q hq).1
        have hFgi : Hid (∀ q ∈ F, GrI q) := fun q hq => (hFg.out q hq).1
        clear y0 y1 y2 e0 e1 e2 x0 x1 x2 f0 f1 f2 hI hS9 hB8
        generalize w8.setCell ⟨fb, 2, none⟩ (.int .i64 z) = w9 at *
        obtain ⟨⟨y0, y1, y2⟩, _⟩ := boxF hH9
        replace hH9 : Hid (w9.heap[fb]? = some (.cells #[.string s, .slice ay ny cy, .int .i64 z] 39 (0, 0))) := hH9
        replace hB9 : Hid (Below w1.heap.size w1 w9) := hB9
        replace hs9 : Hid (IsRd w9 w1.heap.size g bs p8 r8) := hs9
        replace ho9 : Hid (OwnG w9 w5.heap.size (.slice ay ny cy) F) := ho9
        unfold PuQ at hPut
        go_upto_region 10 with (first
          | (go_at_call 18; refine hPut.mono ?_; rintro e w10 ⟨v10, rfl, ho10, hb10⟩; replace ho10 : Hid (Own w10 w9.heap.size v10 (if puE s F z = 0 then foB s F z else [])) := ho10; replace hb10 : Hid (Below w9.heap.size w9 w10) := hb10))
        have hB10 : Hid (Below w1.heap.size w1 w10) := hB9.out.trans (hb10.out.mono hB9.out.size)
        have hs10 := (rd_stay hs9.out hb10.out).1
        have hD := rdone_any w1.heap.size g bs p8 r8 w10 hs10 hlen9
        have hrow : Hid (∀ W, Below w1.heap.size w1 W → W.heap[w.heap.size]? = some (.cells #[.string ⟨#[]⟩, .slice none 0 0, .int .i64 0] 39 (0, 0))) := fun W h => (h.block _ (by have := hz1.out; omega)).trans hH1.out
        have hDz : Hid (∀ m l z0, Vd m l z0 → foB m l z0 = bs → (if r8 = 0 then (if p8 < bs.length then (4 : Int) else 0) else r8) = 0) := fun m l z0 hv hf => by
          obtain ⟨_, q1, q2⟩ := hall.out m l z0 hv hf
          rw [if_pos q1, if_neg]
          have := congrArg List.length q2
          simp at this
          omega
        generalize (if r8 = 0 then (if p8 < bs.length then (4 : Int) else 0) else r8) = D at *
        have hfail : Hid (∀ W, Below w1.heap.size w1 W → (∀ m l z0, Vd m l z0 → foB m l z0 ≠ bs) → GtQ w bs (.returned (.tuple #[.agg #[.string ⟨#[]⟩, .slice none 0 0, .int .i64 0], .int .i64 150])) W → True) := fun _ _ _ _ => trivial
        clear y0 y1 y2 hPut hs10 hfail
        by_cases hD0 : D = 0
        · subst hD0
          by_cases hpe : puE s F z = 0
          · have ho10' : Hid (Own w10 w9.heap.size v10 (foB s F z)) := by have := ho10.out; rw [if_pos hpe] at this; exact this
            have hEb : Hid (eqB (foB s F z) bs = true ↔ foB s F z = bs) := eqB_iff (isBytes_foB _ _ _) hby.out
            have hcv : Hid (∀ W, Below w10.heap.size w10 W → (convert 40 9 v10).run Try.prog W = .ok (.string (strOfNums (foB s F z))) W ∧ (convert 40 9 v).run Try.prog W = .ok (.string (strOfNums bs)) W) := fun W h => ⟨conv_str (ho10'.out.bts.grow h), conv_str (hb1.out.grow (hB10.out.trans (h.mono hB10.out.size)))⟩
            have hEE : Hid (eqB (foB s F z) bs = ((strOfNums (foB s F z)).toList == (strOfNums bs).toList)) := rfl
            rw [hpe]
            have hvd : Hid (Vd s F z) := ⟨hpe, hFgi.out, hin8.out⟩
            cases heq : ((strOfNums (foB s F z)).toList == (strOfNums bs).toList) with
            | false =>
              have hno : Hid (∀ m l z0, Vd m l z0 → foB m l z0 ≠ bs) := fun m l z0 hv hf => by
                obtain ⟨⟨rfl, rfl, rfl⟩, _, _⟩ := hall.out m l z0 hv hf
                have := hEb.out.2 hf
                rw [hEE.out, heq] at this
                cases this
              clear hEb hEE hall hDz hvd
              generalize strOfNums (foB s F z) = SA at *
              generalize strOfNums bs = SB at *
              go_wp2_with (first
                | (go_at_call 42; refine hD.mono ?_; rintro e w11 ⟨rfl, hb11⟩; have cv1 := (hcv.out w11 hb11).1; have cv2 := (hcv.out w11 hb11).2; have hB11 := hB10.out.trans (hb11.mono hB10.out.size); obtain ⟨⟨k50, k51, k52⟩, ⟨f50, f51, f52⟩⟩ := boxF (hrow.out _ hB11); replace hB11 : Hid (Below w1.heap.size w1 w11) := hB11; replace hb11 : Hid _ := hb11))
              obtain ⟨hS1, hS2⟩ := setF (x' := .string ⟨#[]⟩) (y' := .slice none 0 0) (z' := .int .i64 0) (hrow.out _ hB11.out)
              generalize ((w11.setCell ⟨w.heap.size, 0, none⟩ (.string ⟨#[]⟩)).setCell ⟨w.heap.size, 1, none⟩ (.slice none 0 0)).setCell ⟨w.heap.size, 2, none⟩ (.int .i64 0) = W6 at *
              obtain ⟨⟨k0, k1, k2⟩, _⟩ := boxF hS1
              refine bodyPost_ret (v := .tuple #[.agg #[.string ⟨#[]⟩, .slice none 0 0, .int .i64 0], .int .i64 150]) ?_ rfl ?_
              · simp [results, asAddr, Result.andThen, go_sem, k0, k1, k2]
              · exact ⟨below_of_grown (hB1.out.trans (hB11.out.mono hB1.out.size)) hS2 (Nat.le_refl _) (hB1.out.trans (hB11.out.mono hB1.out.size)).size, .inr ⟨hno.out, rfl⟩⟩
            | true =>
              have hfb : Hid (foB s F z = bs) := hEb.out.1 (hEE.out.trans heq)
              clear hEb hEE hall hDz
              generalize strOfNums (foB s F z) = SA at *
              generalize strOfNums bs = SB at *
              go_wp2_with (first
                | (go_at_call 42; refine hD.mono ?_; rintro e w11 ⟨rfl, hb11⟩; have cv1 := (hcv.out w11 hb11).1; have cv2 := (hcv.out w11 hb11).2; have hB11 := hB10.out.trans (hb11.mono hB10.out.size); obtain ⟨⟨k50, k51, k52⟩, ⟨f50, f51, f52⟩⟩ := boxF (hrow.out _ hB11); have hb911 := hb10.out.trans (hb11.mono hb10.out.size); obtain ⟨⟨j0, j1, j2⟩, _⟩ := boxF ((hb911.block _ (lt_of_block hH9.out)).trans hH9.out); have hg11 := Sls.grow ho9.out.sls hb911; replace hg11 : Hid (Grs w11 (.slice ay ny cy) F) := hg11; replace hb911 : Hid _ := hb911; replace hB11 : Hid (Below w1.heap.size w1 w11) := hB11; replace hb11 : Hid _ := hb11))
              obtain ⟨hS1, hS2⟩ := setF (x' := .string s) (y' := .slice ay ny cy) (z' := .int .i64 z) (hrow.out _ hB11.out)
              generalize ((w11.setCell ⟨w.heap.size, 0, none⟩ (.string s)).setCell ⟨w.heap.size, 1, none⟩ (.slice ay ny cy)).setCell ⟨w.heap.size, 2, none⟩ (.int .i64 z) = W6 at *
              obtain ⟨⟨k0, k1, k2⟩, _⟩ := boxF hS1
              refine bodyPost_ret (v := .tuple #[.agg #[.string s, .slice ay ny cy, .int .i64 z], .int .i64 0]) ?_ rfl ?_
              · simp [results, asAddr, Result.andThen, go_sem, k0, k1, k2]
              · refine ⟨below_of_grown (hB1.out.trans (hB11.out.mono hB1.out.size)) hS2 (Nat.le_refl _) (hB1.out.trans (hB11.out.mono hB1.out.size)).size, .inl ⟨s, _, F, z, hvd.out, hfb.out, rfl, ?_⟩⟩
                obtain ⟨a', c', e', hn', hr'⟩ := hg11.out
                cases e'
                refine ⟨_, _, rfl, hn', ?_⟩
                rcases hr' with h | ⟨b, o, hab, hcell⟩
                · exact .inl h
                · refine .inr ⟨b, o, hab, fun t ht i u hu => ?_⟩
                  have hc := hcell t ht i u hu
                  have hblt := World.block_lt_of_cell? w11 _ hc
                  have hneb : some b ≠ some w.heap.size := fun h => by
                    cases h
                    have h1 : w5.heap.size ≤ w.heap.size := hbl.out w.heap.size (by rw [hab]; rfl)
                    have h2 := hB5.out.size
                    have h3 := hz1.out
                    omega
                  exact (World.cell?_of_block (w := w11) (hS2.block b hblt hneb)).trans hc
          · have hpb : (puE s F z == 0) = false := by simpa using hpe
            have hpn : (puE s F z != 0) = true := by simpa using hpe
            have hno : Hid (∀ m l z0, Vd m l z0 → foB m l z0 ≠ bs) := fun m l z0 hv hf => by
              obtain ⟨⟨rfl, rfl, rfl⟩, _, _⟩ := hall.out m l z0 hv hf
              exact hpe hv.1
            clear hall hDz ho10
            generalize puE s F z = PE at *
            go_wp2_with (first
              | (go_at_call 42; refine hD.mono ?_; rintro e w11 ⟨rfl, hb11⟩; have hB11 := hB10.out.trans (hb11.mono hB10.out.size); obtain ⟨⟨k50, k51, k52⟩, ⟨f50, f51, f52⟩⟩ := boxF (hrow.out _ hB11); replace hB11 : Hid (Below w1.heap.size w1 w11) := hB11; replace hb11 : Hid _ := hb11))
            obtain ⟨hS1, hS2⟩ := setF (x' := .string ⟨#[]⟩) (y' := .slice none 0 0) (z' := .int .i64 0) (hrow.out _ hB11.out)
            generalize ((w11.setCell ⟨w.heap.size, 0, none⟩ (.string ⟨#[]⟩)).setCell ⟨w.heap.size, 1, none⟩ (.slice none 0 0)).setCell ⟨w.heap.size, 2, none⟩ (.int .i64 0) = W6 at *
            obtain ⟨⟨k0, k1, k2⟩, _⟩ := boxF hS1
            refine bodyPost_ret (v := .tuple #[.agg #[.string ⟨#[]⟩, .slice none 0 0, .int .i64 0], .int .i64 150]) ?_ rfl ?_
            · simp [results, asAddr, Result.andThen, go_sem, k0, k1, k2]
            · exact ⟨below_of_grown (hB1.out.trans (hB11.out.mono hB1.out.size)) hS2 (Nat.le_refl _) (hB1.out.trans (hB11.out.mono hB1.out.size)).size, .inr ⟨hno.out, rfl⟩⟩
        · have hDb : (D == 0) = false := by simpa using hD0
          have hDn : (D != 0) = true := by simpa using hD0
          have hno : Hid (∀ m l z0, Vd m l z0 → foB m l z0 ≠ bs) := fun m l z0 hv hf => hD0 (hDz.out m l z0 hv hf)
          clear hall hDz ho10 hD0
          generalize puE s F z = PE at *
          go_wp2_with (first
            | (go_at_call 42; refine hD.mono ?_; rintro e w11 ⟨rfl, hb11⟩; have hB11 := hB10.out.trans (hb11.mono hB10.out.size); obtain ⟨⟨k50, k51, k52⟩, ⟨f50, f51, f52⟩⟩ := boxF (hrow.out _ hB11); replace hB11 : Hid (Below w1.heap.size w1 w11) := hB11; replace hb11 : Hid _ := hb11))
          obtain ⟨hS1, hS2⟩ := setF (x' := .string ⟨#[]⟩) (y' := .slice none 0 0) (z' := .int .i64 0) (hrow.out _ hB11.out)
          generalize ((w11.setCell ⟨w.heap.size, 0, none⟩ (.string ⟨#[]⟩)).setCell ⟨w.heap.size, 1, none⟩ (.slice none 0 0)).setCell ⟨w.heap.size, 2, none⟩ (.int .i64 0) = W6 at *
          obtain ⟨⟨k0, k1, k2⟩, _⟩ := boxF hS1
          refine bodyPost_ret (v := .tuple #[.agg #[.string ⟨#[]⟩, .slice none 0 0, .int .i64 0], .int .i64 150]) ?_ rfl ?_
          · simp [results, asAddr, Result.andThen, go_sem, k0, k1, k2]
          · exact ⟨below_of_grown (hB1.out.trans (hB11.out.mono hB1.out.size)) hS2 (Nat.le_refl _) (hB1.out.trans (hB11.out.mono hB1.out.size)).size, .inr ⟨hno.out, rfl⟩⟩
    · have hki : ¬ (k : Int) < (n : Int) := by omega
      have hkn : k = n := by omega
      have hval : Hid (∀ l rest, P l rest → F = l ∧ r = 0 ∧ bs.drop p = rest) := fun l rest h => by
        obtain ⟨h1, h2, h3⟩ := hC l rest h
        have hl := (hPl.out l rest h).2
        rw [List.take_of_length_le (by omega)] at h1
        rw [show l.drop k = [] from List.drop_of_length_le (by omega)] at h3
        exact ⟨h1, h2, by simpa [cat] using h3⟩
      clear hkn
      have hI := rInt_w w1.heap.size g bs p r wr hrd hby.out hlen9
      obtain ⟨⟨x0, x1, x2⟩, ⟨f0, f1, f2⟩⟩ := boxF hHr
      have hne : some fb ≠ some g := by simp; omega
      have hg5z : g < w5.heap.size := by omega
      replace hHr : Hid (wr.heap[fb]? = some (.cells #[.string s, .slice ay ny cy, .int .i64 0] 39 (0, 0))) := hHr
      replace hor : Hid (OwnG wr w5.heap.size (.slice ay ny cy) F) := hor
      replace hFg : Hid (∀ q ∈ F, GrI q ∧ q.name.size ≤ 24) := hFg
      replace hBr : Hid (Below w1.heap.size w1 wr) := hBr
      have hFb : Hid (F.length ≤ 1000002) := by show _ ≤ _; omega
      clear hrd hC hkp hFl
      go_upto_region 9 with (first
        | (go_at_call 41; refine hI.mono ?_; rintro e w8 ⟨z, p8, r8, rfl, hin8, hs8, hg8, hc8, hm8⟩; have hH8 := keptO hHr.out hg8 hne; obtain ⟨⟨y0, y1, y2⟩, ⟨e0, e1, e2⟩⟩ := boxF hH8; replace hH8 : Hid (w8.heap[fb]? = some (.cells #[.string s, .slice ay ny cy, .int .i64 0] 39 (0, 0))) := hH8; replace hin8 : Hid (-9223372036854775808 ≤ z ∧ z ≤ 9223372036854775807) := hin8; replace hs8 : Hid (IsRd w8 w1.heap.size g bs p8 r8) := hs8; replace hg8 : Hid (wr.grownBy w8 (some g)) := hg8; replace hc8 : Hid (IntC bs p r z p8 r8) := hc8; replace hm8 : Hid _ := hm8))
      obtain ⟨hH9, hS9⟩ := set2 (z' := .int .i64 z) hH8.out
      have hB8 : Below w1.heap.size w1 w8 := below_of_grown hBr.out hg8.out hg2.out hBr.out.size
      have hB9 : Below w1.heap.size w1 (w8.setCell ⟨fb, 2, none⟩ (.int .i64 z)) := below_of_grown hB8 hS9 hf1.out hB8.size
      have hs9 : IsRd (w8.setCell ⟨fb, 2, none⟩ (.int .i64 z)) w1.heap.size g bs p8 r8 := rd_other hs8.out hS9 (.inr hgf)
      have ho9 : OwnG (w8.setCell ⟨fb, 2, none⟩ (.int .i64 z)) w5.heap.size (.slice ay ny cy) F := OwnS.kept2 (OwnS.kept2 hor.out hg8.out hg5z) hS9 (by omega)
      have hall : Hid (∀ m l z0, Vd m l z0 → foB m l z0 = bs → (s = m ∧ F = l ∧ z = z0) ∧ r8 = 0 ∧ bs.drop p8 = []) := fun m l z0 hv hf => by
        obtain ⟨h1, h2⟩ := vd_fits hv
        have hd : bs.drop 0 = encT m ++ (enc l.length ++ (cat grB l ++ encS z0)) := by simpa [foB] using hf.symm
        obtain ⟨q1, q2, q3⟩ := hc3.out m _ rfl hd h1
        obtain ⟨q4, q5, q6⟩ := hval.out l (encS z0) (hPi.out l _ ⟨q2, q3, h2⟩)
        obtain ⟨q7, q8, q9⟩ := hc8.out z0 [] q5 (by rw [q6]; simp) hv.2.2
        exact ⟨⟨q1, q4, q7⟩, q8, q9⟩
      have hPut := rput_any s (.slice ay ny cy) F z (w8.setCell ⟨fb, 2, none⟩ (.int .i64 z)) (by have := hs24.out; omega) ho9.sls (by have := hFb.out; omega) (fun q hq => by have := (hFg.out q hq).2; omega) (fun q hq => (hFg.out q hq).1) hin8.out
      have hbl : Hid (∀ q, (Value.slice ay ny cy).ownBlock = some q → w5.heap.size ≤ q) := fun q hq => (ho9.lt q hq).1
      have hFgi : Hid (∀ q ∈ F, GrI q) := fun q hq => (hFg.out q hq).1
      clear y0 y1 y2 e0 e1 e2 x0 x1 x2 f0 f1 f2 hI hS9 hB8
      generalize w8.setCell ⟨fb, 2, none⟩ (.int .i64 z) = w9 at *
      obtain ⟨⟨y0, y1, y2⟩, _⟩ := boxF hH9
      replace hH9 : Hid (w9.heap[fb]? = some (.cells #[.string s, .slice ay ny cy, .int .i64 z] 39 (0, 0))) := hH9
      replace hB9 : Hid (Below w1.heap.size w1 w9) := hB9
      replace hs9 : Hid (IsRd w9 w1.heap.size g bs p8 r8) := hs9
      replace ho9 : Hid (OwnG w9 w5.heap.size (.slice ay ny cy) F) := ho9
      unfold PuQ at hPut
      go_upto_region 10 with (first
        | (go_at_call 18; refine hPut.mono ?_; rintro e w10 ⟨v10, rfl, ho10, hb10⟩; replace ho10 : Hid (Own w10 w9.heap.size v10 (if puE s F z = 0 then foB s F z else [])) := ho10; replace hb10 : Hid (Below w9.heap.size w9 w10) := hb10))
      have hB10 : Hid (Below w1.heap.size w1 w10) := hB9.out.trans (hb10.out.mono hB9.out.size)
      have hs10 := (rd_stay hs9.out hb10.out).1
      have hD := rdone_any w1.heap.size g bs p8 r8 w10 hs10 hlen9
      have hrow : Hid (∀ W, Below w1.heap.size w1 W → W.heap[w.heap.size]? = some (.cells #[.string ⟨#[]⟩, .slice none 0 0, .int .i64 0] 39 (0, 0))) := fun W h => (h.block _ (by have := hz1.out; omega)).trans hH1.out
      have hDz : Hid (∀ m l z0, Vd m l z0 → foB m l z0 = bs → (if r8 = 0 then (if p8 < bs.length then (4 : Int) else 0) else r8) = 0) := fun m l z0 hv hf => by
        obtain ⟨_, q1, q2⟩ := hall.out m l z0 hv hf
        rw [if_pos q1, if_neg]
        have := congrArg List.length q2
        simp at this
        omega
      generalize (if r8 = 0 then (if p8 < bs.length then (4 : Int) else 0) else r8) = D at *
      have hfail : Hid (∀ W, Below w1.heap.size w1 W → (∀ m l z0, Vd m l z0 → foB m l z0 ≠ bs) → GtQ w bs (.returned (.tuple #[.agg #[.string ⟨#[]⟩, .slice none 0 0, .int .i64 0], .int .i64 150])) W → True) := fun _ _ _ _ => trivial
      clear y0 y1 y2 hPut hs10 hfail
      by_cases hD0 : D = 0
      · subst hD0
        by_cases hpe : puE s F z = 0
        · have ho10' : Hid (Own w10 w9.heap.size v10 (foB s F z)) := by have := ho10.out; rw [if_pos hpe] at this; exact this
          have hEb : Hid (eqB (foB s F z) bs = true ↔ foB s F z = bs) := eqB_iff (isBytes_foB _ _ _) hby.out
          have hcv : Hid (∀ W, Below w10.heap.size w10 W → (convert 40 9 v10).run Try.prog W = .ok (.string (strOfNums (foB s F z))) W ∧ (convert 40 9 v).run Try.prog W = .ok (.string (strOfNums bs)) W) := fun W h => ⟨conv_str (ho10'.out.bts.grow h), conv_str (hb1.out.grow (hB10.out.trans (h.mono hB10.out.size)))⟩
          have hEE : Hid (eqB (foB s F z) bs = ((strOfNums (foB s F z)).toList == (strOfNums bs).toList)) := rfl
          rw [hpe]
          have hvd : Hid (Vd s F z) := ⟨hpe, hFgi.out, hin8.out⟩
          cases heq : ((strOfNums (foB s F z)).toList == (strOfNums bs).toList) with
          | false =>
            have hno : Hid (∀ m l z0, Vd m l z0 → foB m l z0 ≠ bs) := fun m l z0 hv hf => by
              obtain ⟨⟨rfl, rfl, rfl⟩, _, _⟩ := hall.out m l z0 hv hf
              have := hEb.out.2 hf
              rw [hEE.out, heq] at this
              cases this
            clear hEb hEE hall hDz hvd
            generalize strOfNums (foB s F z) = SA at *
            generalize strOfNums bs = SB at *
            go_wp2_with (first
              | (go_at_call 42; refine hD.mono ?_; rintro e w11 ⟨rfl, hb11⟩; have cv1 := (hcv.out w11 hb11).1; have cv2 := (hcv.out w11 hb11).2; have hB11 := hB10.out.trans (hb11.mono hB10.out.size); obtain ⟨⟨k50, k51, k52⟩, ⟨f50, f51, f52⟩⟩ := boxF (hrow.out _ hB11); replace hB11 : Hid (Below w1.heap.size w1 w11) := hB11; replace hb11 : Hid _ := hb11))
            obtain ⟨hS1, hS2⟩ := setF (x' := .string ⟨#[]⟩) (y' := .slice none 0 0) (z' := .int .i64 0) (hrow.out _ hB11.out)
            generalize ((w11.setCell ⟨w.heap.size, 0, none⟩ (.string ⟨#[]⟩)).setCell ⟨w.heap.size, 1, none⟩ (.slice none 0 0)).setCell ⟨w.heap.size, 2, none⟩ (.int .i64 0) = W6 at *
            obtain ⟨⟨k0, k1, k2⟩, _⟩ := boxF hS1
            refine bodyPost_ret (v := .tuple #[.agg #[.string ⟨#[]⟩, .slice none 0 0, .int .i64 0], .int .i64 150]) ?_ rfl ?_
            · simp [results, asAddr, Result.andThen, go_sem, k0, k1, k2]
            · exact ⟨below_of_grown (hB1.out.trans (hB11.out.mono hB1.out.size)) hS2 (Nat.le_refl _) (hB1.out.trans (hB11.out.mono hB1.out.size)).size, .inr ⟨hno.out, rfl⟩⟩
          | true =>
            have hfb : Hid (foB s F z = bs) := hEb.out.1 (hEE.out.trans heq)
            clear hEb hEE hall hDz
            generalize strOfNums (foB s F z) = SA at *
            generalize strOfNums bs = SB at *
            go_wp2_with (first
              | (go_at_call 42; refine hD.mono ?_; rintro e w11 ⟨rfl, hb11⟩; have cv1 := (hcv.out w11 hb11).1; have cv2 := (hcv.out w11 hb11).2; have hB11 := hB10.out.trans (hb11.mono hB10.out.size); obtain ⟨⟨k50, k51, k52⟩, ⟨f50, f51, f52⟩⟩ := boxF (hrow.out _ hB11); have hb911 := hb10.out.trans (hb11.mono hb10.out.size); obtain ⟨⟨j0, j1, j2⟩, _⟩ := boxF ((hb911.block _ (lt_of_block hH9.out)).trans hH9.out); have hg11 := Sls.grow ho9.out.sls hb911; replace hg11 : Hid (Grs w11 (.slice ay ny cy) F) := hg11; replace hb911 : Hid _ := hb911; replace hB11 : Hid (Below w1.heap.size w1 w11) := hB11; replace hb11 : Hid _ := hb11))
            obtain ⟨hS1, hS2⟩ := setF (x' := .string s) (y' := .slice ay ny cy) (z' := .int .i64 z) (hrow.out _ hB11.out)
            generalize ((w11.setCell ⟨w.heap.size, 0, none⟩ (.string s)).setCell ⟨w.heap.size, 1, none⟩ (.slice ay ny cy)).setCell ⟨w.heap.size, 2, none⟩ (.int .i64 z) = W6 at *
            obtain ⟨⟨k0, k1, k2⟩, _⟩ := boxF hS1
            refine bodyPost_ret (v := .tuple #[.agg #[.string s, .slice ay ny cy, .int .i64 z], .int .i64 0]) ?_ rfl ?_
            · simp [results, asAddr, Result.andThen, go_sem, k0, k1, k2]
            · refine ⟨below_of_grown (hB1.out.trans (hB11.out.mono hB1.out.size)) hS2 (Nat.le_refl _) (hB1.out.trans (hB11.out.mono hB1.out.size)).size, .inl ⟨s, _, F, z, hvd.out, hfb.out, rfl, ?_⟩⟩
              obtain ⟨a', c', e', hn', hr'⟩ := hg11.out
              cases e'
              refine ⟨_, _, rfl, hn', ?_⟩
              rcases hr' with h | ⟨b, o, hab, hcell⟩
              · exact .inl h
              · refine .inr ⟨b, o, hab, fun t ht i u hu => ?_⟩
                have hc := hcell t ht i u hu
                have hblt := World.block_lt_of_cell? w11 _ hc
                have hneb : some b ≠ some w.heap.size := fun h => by
                  cases h
                  have h1 : w5.heap.size ≤ w.heap.size := hbl.out w.heap.size (by rw [hab]; rfl)
                  have h2 := hB5.out.size
                  have h3 := hz1.out
                  omega
                exact (World.cell?_of_block (w := w11) (hS2.block b hblt hneb)).trans hc
        · have hpb : (puE s F z == 0) = false := by simpa using hpe
          have hpn : (puE s F z != 0) = true := by simpa using hpe
          have hno : Hid (∀ m l z0, Vd m l z0 → foB m l z0 ≠ bs) := fun m l z0 hv hf => by
            obtain ⟨⟨rfl, rfl, rfl⟩, _, _⟩ := hall.out m l z0 hv hf
            exact hpe hv.1
          clear hall hDz ho10
          generalize puE s F z = PE at *
          go_wp2_with (first
            | (go_at_call 42; refine hD.mono ?_; rintro e w11 ⟨rfl, hb11⟩; have hB11 := hB10.out.trans (hb11.mono hB10.out.size); obtain ⟨⟨k50, k51, k52⟩, ⟨f50, f51, f52⟩⟩ := boxF (hrow.out _ hB11); replace hB11 : Hid (Below w1.heap.size w1 w11) := hB11; replace hb11 : Hid _ := hb11))
          obtain ⟨hS1, hS2⟩ := setF (x' := .string ⟨#[]⟩) (y' := .slice none 0 0) (z' := .int .i64 0) (hrow.out _ hB11.out)
          generalize ((w11.setCell ⟨w.heap.size, 0, none⟩ (.string ⟨#[]⟩)).setCell ⟨w.heap.size, 1, none⟩ (.slice none 0 0)).setCell ⟨w.heap.size, 2, none⟩ (.int .i64 0) = W6 at *
          obtain ⟨⟨k0, k1, k2⟩, _⟩ := boxF hS1
          refine bodyPost_ret (v := .tuple #[.agg #[.string ⟨#[]⟩, .slice none 0 0, .int .i64 0], .int .i64 150]) ?_ rfl ?_
          · simp [results, asAddr, Result.andThen, go_sem, k0, k1, k2]
          · exact ⟨below_of_grown (hB1.out.trans (hB11.out.mono hB1.out.size)) hS2 (Nat.le_refl _) (hB1.out.trans (hB11.out.mono hB1.out.size)).size, .inr ⟨hno.out, rfl⟩⟩
      · have hDb : (D == 0) = false := by simpa using hD0
        have hDn : (D != 0) = true := by simpa using hD0
        have hno : Hid (∀ m l z0, Vd m l z0 → foB m l z0 ≠ bs) := fun m l z0 hv hf => hD0 (hDz.out m l z0 hv hf)
        clear hall hDz ho10 hD0
        generalize puE s F z = PE at *
        go_wp2_with (first
          | (go_at_call 42; refine hD.mono ?_; rintro e w11 ⟨rfl, hb11⟩; have hB11 := hB10.out.trans (hb11.mono hB10.out.size); obtain ⟨⟨k50, k51, k52⟩, ⟨f50, f51, f52⟩⟩ := boxF (hrow.out _ hB11); replace hB11 : Hid (Below w1.heap.size w1 w11) := hB11; replace hb11 : Hid _ := hb11))
        obtain ⟨hS1, hS2⟩ := setF (x' := .string ⟨#[]⟩) (y' := .slice none 0 0) (z' := .int .i64 0) (hrow.out _ hB11.out)
        generalize ((w11.setCell ⟨w.heap.size, 0, none⟩ (.string ⟨#[]⟩)).setCell ⟨w.heap.size, 1, none⟩ (.slice none 0 0)).setCell ⟨w.heap.size, 2, none⟩ (.int .i64 0) = W6 at *
        obtain ⟨⟨k0, k1, k2⟩, _⟩ := boxF hS1
        refine bodyPost_ret (v := .tuple #[.agg #[.string ⟨#[]⟩, .slice none 0 0, .int .i64 0], .int .i64 150]) ?_ rfl ?_
        · simp [results, asAddr, Result.andThen, go_sem, k0, k1, k2]
        · exact ⟨below_of_grown (hB1.out.trans (hB11.out.mono hB1.out.size)) hS2 (Nat.le_refl _) (hB1.out.trans (hB11.out.mono hB1.out.size)).size, .inr ⟨hno.out, rfl⟩⟩
end Go.Proofs.Ytfbeilninpapaaa
