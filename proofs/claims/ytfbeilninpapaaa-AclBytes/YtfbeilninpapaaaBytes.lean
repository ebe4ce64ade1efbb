/-
  Proved here: 'klaxonlaw15.AclBytes' (P15.3), called with any folder and any bytes, in any memory, returns true, and its arguments read afterwards as they read before: Put lays a folder's bytes as the document does, Get reads them back and refuses what Put would not lay. No condition beyond the row's own (each slice and string within the reach that every row states).
-/
import Derived.Test.YtfbeilninpapaaaRows
import Derived.WalkKit
import Derived.ProofKit
import Derived.OpenShut
import Derived.ShutString
import Derived.ChangeOld
import Derived.Below
import Derived.SizedLaws
import Derived.Test.YtfbeilninpapaaaBo
import Derived.Test.YtfbeilninpapaaaGx
import Derived.Test.YtfbeilninpapaaaSa
import Derived.Test.YtfbeilninpapaaaRq
import Derived.Test.YtfbeilninpapaaaGr
namespace Go.Proofs.Ytfbeilninpapaaa.aclBytes
open Go.ChangeShapes Go.WideShapes Go.ChangeAt Go.RowKit
open Go.ChangeMaps (open_string shut_string)
set_option linter.unusedVariables false
theorem own : ownKnob Try.prog.godebug = none := by kernel_rfl
theorem laidOut : laidOutB Try.prog = true := by kernel_rfl
set_option maxRecDepth 100000 in
set_option maxHeartbeats 8000000 in
theorem walk (m : ByteArray) (gv : Value) (l : List Gr) (z : Int) (v : Value) (bs : List Int) (w : World) (hF : FoIn w m gv l z) (hb : Bts w v bs) (hby : IsBytes bs) (hbl : bs.length ≤ 140737488351232) :
    Calls Try.prog 4 #[.agg #[.string m, gv, .int .i64 z], v] w fun e w' => e = .returned (.bool true) ∧ Below w.heap.size w w' := by
  obtain ⟨hm, ⟨hG, hGi, hGl⟩, hz⟩ := hF
  obtain ⟨a, c, rfl⟩ := hG.shape
  obtain ⟨av, cv, rfl⟩ : ∃ a c, v = .slice a bs.length c := by obtain ⟨a, c, rfl, _⟩ := hb; exact ⟨_, _, rfl⟩
  have hgr : Hid (GrR l) := fun g hg => by have := (hGi g hg).2; omega
  have hgi : Hid (∀ g ∈ l, GrI g) := fun g hg => (hGi g hg).1
  obtain ⟨w1, hw1⟩ : ∃ w1, w1 = w.alloc (.cells #[.string m, .slice a l.length c, .int .i64 z] 39) := ⟨_, rfl⟩
  have hB1 : Hid (Below w.heap.size w w1) := by rw [hw1]; exact (Below.refl _ _).alloc (Nat.le_refl _) _
  have hz1 : w1.heap.size = w.heap.size + 1 := by rw [hw1]; simp
  have hH1 : w1.heap[w.heap.size]? = some (.cells #[.string m, .slice a l.length c, .int .i64 z] 39 (0, 0)) := by rw [hw1]; exact heap_new _ _
  have hG1 : Grs w1 (.slice a l.length c) l := by rw [hw1]; exact hG.alloc _
  have hb1 : Bts w1 (.slice av bs.length cv) bs := by rw [hw1]; exact hb.alloc _
  have hrow : Hid (∀ W, Below w1.heap.size w1 W → W.heap[w.heap.size]? = some (.cells #[.string m, .slice a l.length c, .int .i64 z] 39 (0, 0))) := fun W h => (h.block _ (by omega)).trans hH1
  have hgk : Hid (∀ W, Below w1.heap.size w1 W → Grs W (.slice a l.length c) l) := fun W h => hG1.grow h
  have hbk : Hid (∀ W, Below w1.heap.size w1 W → Bts W (.slice av bs.length cv) bs) := fun W h => hb1.grow h
  have hS := small_any m ⟨#[]⟩ (.slice none 0 0) [] (.slice a l.length c) l w1 (sls_nil _) (Nat.zero_le _) hG1 (by omega) (by omega) (Nat.zero_le _) (fun s hs => by cases hs) hgr.out
  have hlive := fun W => live_ok W
  obtain ⟨⟨c0, c1, c2⟩, _⟩ := boxF hH1
  clear hG hb hGi hG1 hb1
  replace hby : Hid (IsBytes bs) := hby
  replace hz1 : Hid (w1.heap.size = w.heap.size + 1) := hz1
  replace hH1 : Hid (w1.heap[w.heap.size]? = some (.cells #[.string m, .slice a l.length c, .int .i64 z] 39 (0, 0))) := hH1
  cases hsm : smB m ⟨#[]⟩ [] l with
  | false =>
    rw [hsm] at hS
    clear hsm
    go_enter Try.func4, Try.ntmps4
    go_upto_region 1 with fail
    rw [← hw1]
    replace hw1 : Hid _ := hw1
    go_wp2_with (first
      | (go_at_call 7; refine hS.mono ?_; rintro e w2 ⟨rfl, hq2⟩)
      | (go_at_call 8; refine (hlive _).mono ?_; rintro e w3 ⟨rfl, hq3⟩))
    go_ret
    have hB2 := hB1.out.trans (hq2.mono hB1.out.size)
    exact ⟨rfl, hB2.trans (hq3.mono hB2.size)⟩
  | true =>
    rw [hsm] at hS
    have hlen : l.length ≤ 40 := by
      unfold smB at hsm
      simpa using (Bool.and_eq_true_iff.1 hsm).1
    clear hsm
    rcases Bool.eq_false_or_eq_true (decide ((20000 : Int) < (bs.length : Int))) with hbig | hbig
    · go_enter Try.func4, Try.ntmps4
      go_upto_region 1 with fail
      rw [← hw1]
      replace hw1 : Hid _ := hw1
      go_wp2_with (first
        | (go_at_call 7; refine hS.mono ?_; rintro e w2 ⟨rfl, hq2⟩)
        | (go_at_call 8; refine (hlive _).mono ?_; rintro e w3 ⟨rfl, hq3⟩))
      go_ret
      have hB2 := hB1.out.trans (hq2.mono hB1.out.size)
      exact ⟨rfl, hB2.trans (hq3.mono hB2.size)⟩
    · have hbl2 : bs.length ≤ 20000 := by
        have : (bs.length : Int) ≤ 20000 := by simpa using hbig
        omega
      go_enter Try.func4, Try.ntmps4
      go_upto_region 1 with fail
      rw [← hw1]
      replace hw1 : Hid _ := hw1
      go_upto_region 3 with (first
        | (go_at_call 7; refine hS.mono ?_; rintro e w2 ⟨rfl, hq2⟩))
      clear c0 c1 c2 hS
      obtain ⟨⟨d0, d1, d2⟩, _⟩ := boxF (hrow.out w2 hq2)
      have hs2 := hq2.size
      obtain ⟨w3, hw3⟩ : ∃ w3, w3 = w2.alloc (.cells #[.string m, .slice a l.length c, .int .i64 z] 39) := ⟨_, rfl⟩
      go_upto_region 4 with fail
      rw [← hw3]
      have hq3 : Below w1.heap.size w1 w3 := by rw [hw3]; exact hq2.alloc hs2 _
      have hH3 : w3.heap[w2.heap.size]? = some (.cells #[.string m, .slice a l.length c, .int .i64 z] 39 (0, 0)) := by rw [hw3]; exact heap_new _ _
      have hz3 : w3.heap.size = w2.heap.size + 1 := by rw [hw3]; simp
      clear d0 d1 d2
      have d1 : ∀ o', (w3.alloc o').cell? ⟨w.heap.size, 1, none⟩ = some (.slice a l.length c) := fun o' => (boxF (hrow.out _ (hq3.alloc hq3.size o'))).1.2.1
      have hlt3 : w.heap.size < w3.heap.size := by have := hz1.out; omega
      replace hw3 : Hid _ := hw3
      replace hz3 : Hid (w3.heap.size = w2.heap.size + 1) := hz3
      replace hq2 : Hid (Below w1.heap.size w1 w2) := hq2
      replace hq3 : Hid (Below w1.heap.size w1 w3) := hq3
      replace hH3 : Hid (w3.heap[w2.heap.size]? = some (.cells #[.string m, .slice a l.length c, .int .i64 z] 39 (0, 0))) := hH3
      go_upto_region 5 with (first
        | (at_builtin; refine appR TG rfl (.tmp 30) (.tmp 32) rfl w3.heap.size (.slice (some ⟨w3.heap.size, 0, none⟩) 0 0) (.slice a l.length c) [] l rfl rfl (own_empty (T := TG) w3 w3.heap.size (Nat.le_refl _)) ((hgk.out _ hq3.out).alloc _) (by simp) (by simp; omega) ?_; intro v4 w4 ho4 hg4; rw [List.nil_append] at ho4; have hq4 : Below w3.heap.size w3 w4 := ((Below.refl _ w3).alloc (Nat.le_refl _) _).grown hg4 (by simp) (by intro q hq; cases hq; exact Nat.le_refl _); have hH4 := (hq4.block _ (by have := hz3.out; omega)).trans hH3.out; obtain ⟨⟨j0, j1, j2⟩, ⟨f0, f1, f2⟩⟩ := boxF hH4; obtain ⟨a4, c4, rfl⟩ := ho4.shape; replace hq4 : Hid (Below w3.heap.size w3 w4) := hq4; replace hg4 : Hid _ := hg4; replace ho4 : Hid (OwnG w4 w3.heap.size (.slice a4 l.length c4) l) := ho4; replace hH4 : Hid (w4.heap[w2.heap.size]? = some (.cells #[.string m, .slice a l.length c, .int .i64 z] 39 (0, 0))) := hH4))
      clear d1
      try clear j0 j1 j2
      try clear f0 f1 f2
      obtain ⟨w5, hw5⟩ : ∃ w5, w5 = w4.setCell ⟨w2.heap.size, 1, none⟩ (.slice a4 l.length c4) := ⟨_, rfl⟩
      rw [← hw5]
      have hg5 : w4.grownBy w5 (some w2.heap.size) := by rw [hw5]; exact grownBy_set (Below.refl _ _) _ _ _
      have hH5 : w5.heap[w2.heap.size]? = some (.cells #[.string m, .slice a4 l.length c4, .int .i64 z] 39 (0, 0)) := by rw [hw5]; exact block_setCell hH4.out
      have hq14 : Below w1.heap.size w1 w4 := hq3.out.trans (hq4.out.mono hq3.out.size)
      have hq5 : Below w1.heap.size w1 w5 := below_of_grown hq14 hg5 hs2 hq14.size
      have hv5 : Grs w5 (.slice a4 l.length c4) l := (OwnS.kept2 ho4.out hg5 (by have := hz3.out; omega)).sls
      obtain ⟨E, hE⟩ : ∃ E, puE m l z = E := ⟨_, rfl⟩
      obtain ⟨P, hP⟩ : ∃ P, (if puE m l z = 0 then foB m l z else []) = P := ⟨_, rfl⟩
      have h17 := puR_of (put_any m (.slice a4 l.length c4) l z w5 (by omega) hv5 (by omega) hgr.out hgi.out hz) hP hE
      have h18 : Hid (∀ W, Below w1.heap.size w1 W → Calls Try.prog 18 #[.agg #[.string m, .slice a l.length c, .int .i64 z]] W (PuR W P E)) := fun W h => puR_of (rput_any m (.slice a l.length c) l z W (by omega) (hgk.out W h) (by omega) hgr.out hgi.out hz) hP hE
      obtain ⟨⟨d0, d1, d2⟩, _⟩ := boxF hH5
      replace hw5 : Hid _ := hw5
      replace hg5 : Hid _ := hg5
      replace hH5 : Hid _ := hH5
      replace hv5 : Hid _ := hv5
      replace hq14 : Hid _ := hq14
      replace hq5 : Hid (Below w1.heap.size w1 w5) := hq5
      replace hP : Hid _ := hP
      replace hE : Hid (puE m l z = E) := hE
      go_upto_region 7 with (first
        | (go_at_call 17; refine h17.mono ?_; rintro e w6 ⟨a6, n6, c6, rfl, ho6, hb6⟩; have hq6 := hq5.out.trans (hb6.out.mono hq5.out.size); obtain ⟨⟨e0, e1, e2⟩, _⟩ := boxF (hrow.out w6 hq6); have h18' := h18.out w6 hq6; replace hq6 : Hid (Below w1.heap.size w1 w6) := hq6)
        | (go_at_call 18; refine h18'.mono ?_; rintro e w7 ⟨a7, n7, c7, rfl, ho7, hb7⟩; have hq7 := hq6.out.trans (hb7.out.mono hq6.out.size); replace hq7 : Hid (Below w1.heap.size w1 w7) := hq7))
      clear d0 d1 d2 e0 e1 e2 h17 h18'
      have hvk7 : Hid (Bts w7 (.slice av bs.length cv) bs) := hbk.out w7 hq7.out
      go_upto_region 8 with (first
        | (at_builtin; refine appX rfl (.tmp 46) (.tmp 47) rfl w7.heap.size (.slice (some ⟨w7.heap.size, 0, none⟩) 0 0) (.slice av bs.length cv) [] bs rfl rfl (own_emptyB w7) (hvk7.out.alloc _) (by simp) (by simp; omega) ?_; intro v8 w8 ho8 hb8 _; rw [List.nil_append] at ho8; have hb8' : Below w7.heap.size w7 w8 := ((Below.refl _ w7).alloc (Nat.le_refl _) _).trans hb8; obtain ⟨a8, c8, rfl⟩ := ho8.shape; have hG8 := gtS_of (get_any bs (.slice a8 bs.length c8) w8 ho8.bts hby.out (by omega)); replace ho8 : Hid _ := ho8; replace hb8 : Hid _ := hb8; replace hb8' : Hid (Below w7.heap.size w7 w8) := hb8')
        | (go_at_call 19; refine hG8.mono ?_; rintro e w9 ⟨m9, a9, n9, c9, l9, z9, r9, rfl, hr9, hg9, hb9⟩))
      clear hG8
      obtain ⟨w10, hw10⟩ : ∃ w10, w10 = w9.alloc (.cells #[.string m9, .slice a9 n9 c9, .int .i64 z9] 39) := ⟨_, rfl⟩
      rw [← hw10]
      have hb79 : Hid (Below w7.heap.size w7 w9) := hb8'.out.trans (hb9.out.mono hb8'.out.size)
      have hb710 : Hid (Below w7.heap.size w7 w10) := by rw [hw10]; exact hb79.out.alloc hb79.out.size _
      have hH10 : Hid (w10.heap[w9.heap.size]? = some (.cells #[.string m9, .slice a9 n9 c9, .int .i64 z9] 39 (0, 0))) := by rw [hw10]; exact heap_new _ _
      have hg10 : Hid (Grs w10 (.slice a9 n9 c9) l9) := by rw [hw10]; exact hg9.out.alloc _
      have hq10 : Hid (Below w1.heap.size w1 w10) := hq7.out.trans (hb710.out.mono hq7.out.size)
      have hG10 := gtS_of (rget_any bs (.slice av bs.length cv) w10 (hbk.out w10 hq10.out) hby.out (by omega))
      replace hw10 : Hid _ := hw10
      go_upto_region 9 with (first
        | (go_at_call 20; refine hG10.mono ?_; rintro e w11 ⟨m11, a11, n11, c11, l11, z11, r11, rfl, hr11, hg11, hb11⟩; obtain ⟨q1, q2, q3, q4⟩ := gtR_same hr9.out hr11.out; subst m11 l11 z11 r11))
      clear hG10
      obtain ⟨w12, hw12⟩ : ∃ w12, w12 = w11.alloc (.cells #[.string m9, .slice a11 n11 c11, .int .i64 z9] 39) := ⟨_, rfl⟩
      rw [← hw12]
      have hb1012 : Hid (Below w10.heap.size w10 w12) := by rw [hw12]; exact hb11.out.alloc hb11.out.size _
      have hH12 : w12.heap[w11.heap.size]? = some (.cells #[.string m9, .slice a11 n11 c11, .int .i64 z9] 39 (0, 0)) := by rw [hw12]; exact heap_new _ _
      have hH12b : w12.heap[w9.heap.size]? = some (.cells #[.string m9, .slice a9 n9 c9, .int .i64 z9] 39 (0, 0)) := (hb1012.out.block _ (lt_of_block hH10.out)).trans hH10.out
      have hg12 : Grs w12 (.slice a11 n11 c11) l9 := by rw [hw12]; exact hg11.out.alloc _
      have hg12b : Grs w12 (.slice a9 n9 c9) l9 := hg10.out.grow hb1012.out
      have hb712 : Hid (Below w7.heap.size w7 w12) := hb710.out.trans (hb1012.out.mono hb710.out.size)
      have hq12 : Hid (Below w1.heap.size w1 w12) := hq7.out.trans (hb712.out.mono hq7.out.size)
      have hS12 := same_eq m9 _ _ l9 z9 w12 hg12b hg12 (gtR_len hr9.out)
      have ho67 : Hid (Bts w7 (.slice a6 n6 c6) P) := ho6.out.bts.grow hb7.out
      have cv1 := conv_str (ho67.out.grow hb712.out)
      have cv2 := conv_str (ho7.out.bts.grow hb712.out)
      obtain ⟨⟨d0, d1, d2⟩, _⟩ := boxF hH12
      obtain ⟨⟨e0, e1, e2⟩, _⟩ := boxF hH12b
      generalize strOfNums P = X at *
      have t1 : (X.toList == X.toList) = true := by simp
      have t2 : (X.toList != X.toList) = false := by simp
      have t3 : (E == E) = true := by simp
      have t4 : (E != E) = false := by simp
      have t5 : (r9 == r9) = true := by simp
      have t6 : (r9 != r9) = false := by simp
      have hnum := fun x W => num_any x W
      replace hw12 : Hid _ := hw12
      replace hH12 : Hid _ := hH12
      replace hH12b : Hid _ := hH12b
      replace hg12 : Hid _ := hg12
      replace hg12b : Hid _ := hg12b
      go_upto_region 11 with (first
        | (go_at_call 9; refine (hnum _ _).mono ?_; rintro e wx ⟨rfl, hwx⟩; subst wx)
        | (go_at_call 21; refine hS12.mono ?_; rintro e w13 ⟨rfl, hb13⟩; replace hb13 : Hid (Below w12.heap.size w12 w13) := hb13))
      clear d0 d1 d2 e0 e1 e2 cv1 cv2 t1 t2 t5 t6 hS12
      have hq13 : Hid (Below w1.heap.size w1 w13) := hq12.out.trans (hb13.out.mono hq12.out.size)
      have hw13 : Hid (Below w.heap.size w w13) := hB1.out.trans (hq13.out.mono hB1.out.size)
      by_cases h0 : E = 0
      · subst h0
        have hvd : Vd m l z := ⟨hE.out, hgi.out, hz⟩
        have hPe : foB m l z = P := by have := hP.out; rw [if_pos hE.out] at this; exact this
        have hr0 : Hid (GtR P m l z 0) := .inl ⟨hvd, hPe, rfl⟩
        have hPb : IsBytes P := by rw [← hPe]; exact isBytes_foB _ _ _
        have hPl : P.length ≤ 1000000 := by rw [← hPe]; exact foB_len hvd
        have hb713 : Below w7.heap.size w7 w13 := hb712.out.trans (hb13.out.mono hb712.out.size)
        have hG13 := gtS_of (get_any P (.slice a6 n6 c6) w13 (ho67.out.grow hb713) hPb (by omega))
        replace hvd : Hid _ := hvd
        replace hPe : Hid _ := hPe
        replace hPb : Hid _ := hPb
        replace hb713 : Hid _ := hb713
        go_upto_region 13 with (first
          | (go_at_call 9; refine (hnum _ _).mono ?_; rintro e wx ⟨rfl, hwx⟩; subst wx)
          | (go_at_call 19; refine hG13.mono ?_; rintro e w14 ⟨m14, a14, n14, c14, l14, z14, r14, rfl, hr14, hg14, hb14⟩; obtain ⟨q1, q2, q3, q4⟩ := gtR_same hr0.out hr14.out; subst m14 l14 z14 r14))
        clear hG13
        obtain ⟨w15, hw15⟩ : ∃ w15, w15 = w14.alloc (.cells #[.string m, .slice a14 n14 c14, .int .i64 z] 39) := ⟨_, rfl⟩
        rw [← hw15]
        have hq14' : Below w1.heap.size w1 w14 := hq13.out.trans (hb14.out.mono hq13.out.size)
        have hq15 : Below w1.heap.size w1 w15 := by rw [hw15]; exact hq14'.alloc hq14'.size _
        have hH15 : w15.heap[w14.heap.size]? = some (.cells #[.string m, .slice a14 n14 c14, .int .i64 z] 39 (0, 0)) := by rw [hw15]; exact heap_new _ _
        have hg15 : Grs w15 (.slice a14 n14 c14) l := by rw [hw15]; exact hg14.out.alloc _
        have hS15 := same_eq m _ _ l z w15 hg15 (hgk.out w15 hq15) (by omega)
        obtain ⟨⟨d0, d1, d2⟩, _⟩ := boxF hH15
        obtain ⟨⟨e0, e1, e2⟩, _⟩ := boxF (hrow.out w15 hq15)
        replace hw15 : Hid _ := hw15
        replace hq15 : Hid (Below w1.heap.size w1 w15) := hq15
        replace hq14' : Hid _ := hq14'
        replace hH15 : Hid _ := hH15
        replace hg15 : Hid _ := hg15
        go_wp2_with (first
          | (go_at_call 9; refine (hnum _ _).mono ?_; rintro e wx ⟨rfl, hwx⟩; subst wx)
          | (go_at_call 21; refine hS15.mono ?_; rintro e w16 ⟨rfl, hb16⟩; replace hb16 : Hid (Below w15.heap.size w15 w16) := hb16)
          | (go_at_call 8; refine (hlive _).mono ?_; rintro e w17 ⟨rfl, hb17⟩))
        go_ret
        have hB15 := hB1.out.trans (hq15.out.mono hB1.out.size)
        have hB16 := hB15.trans (hb16.out.mono hB15.size)
        exact ⟨rfl, hB16.trans (hb17.mono hB16.size)⟩
      · have t7 : (E == 0) = false := by simpa using h0
        go_wp2_with (first
          | (go_at_call 9; refine (hnum _ _).mono ?_; rintro e wx ⟨rfl, hwx⟩; subst wx)
          | (go_at_call 8; refine (hlive _).mono ?_; rintro e w17 ⟨rfl, hb17⟩))
        go_ret
        exact ⟨rfl, hw13.out.trans (hb17.mono hw13.out.size)⟩
/-! ### THE ROW's STEP -/
set_option maxRecDepth 100000 in
theorem lifted (os : Os) (started : os.Started) (H : Type) (enc : TypeId × Value → H) :
    ReturnsInHanded {} Try.checked os 4 .any (Rows.aclBytesSpec.pre6 enc Try.prog Try.f4 Rows.aclBytesRow.domain false) (Rows.aclBytesSpec.post enc Try.prog Try.f4 false true false false) := by
  refine returnsInHanded_of_change_sized (C := Try.checked) own started (by kernel_rfl) Try.func4
    (ChangeSpec.witness6 (enc := enc) (C := Try.checked) false ⟨#[], #[.agg #[.string ⟨#[]⟩, .slice none 0 0, .int .i64 0], .slice none 0 0], []⟩ 8 (by kernel_rfl) (by kernel_rfl) (by kernel_rfl) (by kernel_rfl)) ?_
  intro W base args ds gs before hval0 hW hcnd hsz0 _
  have hsz : (DataW.weightsEach Try.prog (Try.f4.params.toList ++ Rows.aclBytesSpec.plain.varTypes Try.prog) (ds ++ gs)).all (· ≤ reachBytes) = true := hsz0
  have hval : ∀ (j : Nat) t v, Try.f4.params[j]? = some t → args[j]? = some v → Value.okWide Try.prog W .any base t v := hval0
  have hW' := hW
  obtain ⟨p, q, hA0, hV, rfl, hfz, hnd⟩ := hW
  have hA : DataW.TrodAll enc Try.prog W 0 (fun _ => true) true Try.f4.params.toList args.toList ds p := hA0
  rw [Try.params4] at hA hval hsz
  obtain ⟨v0, vs0, d0, ds0, p0, q0, hargs, rfl, rfl, h0, r0⟩ := trodAll_cons hA
  obtain ⟨v1, vs1, d1, ds1, p1, q1, rfl, rfl, rfl, h1, r1⟩ := trodAll_cons r0
  obtain ⟨rfl, rfl, rfl⟩ := trodAll_nil r1
  obtain rfl : args = #[v0, v1] := by cases args; simp_all
  obtain ⟨rfl, rfl⟩ := trodVars_none hV
  have k0 := h0
  have lt0 : ∀ x ∈ p0, x.block < W.heap.size := by obtain ⟨m, hm⟩ := k0; exact DataW.trod_lt m _ _ _ hm
  obtain ⟨m0, gv0, l0, z0, rfl, hR0⟩ : ∃ m gv l z, v0 = .agg #[.string m, gv, .int .i64 z] ∧ FoIn W m gv l z := by
    obtain ⟨fuel, hf⟩ := h0
    refine fo_arg (hval 0 39 v0 rfl rfl) hf (fun q hq => ?_)
    have := List.all_eq_true.1 hsz _ (DataW.weights_mem_each (j := 0) (t := 39) rfl rfl q hq)
    simpa using this
  have k1 := h1
  have lt1 : ∀ x ∈ p1, x.block < W.heap.size := by obtain ⟨m, hm⟩ := k1; exact DataW.trod_lt m _ _ _ hm
  obtain ⟨a1, n1, c1, rfl⟩ := okWide_slice Try.underlying40 (hval 1 40 v1 rfl rfl)
  obtain ⟨l1, hP1, hR1, hL1⟩ : ∃ l, Bts W (.slice a1 n1 c1) l ∧ IsBytes l ∧ l.length ≤ 140737488351232 := by
    obtain ⟨fuel, hf⟩ := h1
    refine bts_of_trod hf (fun q hq => ?_)
    have := List.all_eq_true.1 hsz _ (DataW.weights_mem_each (j := 1) (t := 40) rfl rfl q hq)
    simpa using this
  clear hA0 hval0
  refine (walk m0 gv0 l0 z0 (.slice a1 n1 c1) l1 W hR0 hP1 hR1 hL1).mono fun e W' ⟨he, bel⟩ => ?_
  subst he
  exact ⟨_, rfl, _, _, _, [], _, [], hW', trodAll_mk1 (shut_bool Try.underlying4 _), (trodAll_cons_mk (Below.trod laidOut (by kernel_rfl) (of_decide_eq_true (by kernel_rfl)) k0 bel lt0) (trodAll_cons_mk (Below.trod laidOut (by kernel_rfl) (of_decide_eq_true (by kernel_rfl)) k1 bel lt1) trodAll_mk0)), rfl, bel.frame _, fun h => by cases h⟩
theorem over : Rows.aclBytesRow.holds Try.pinned (OpenSpec.ofChange Rows.aclBytesSpec) :=
  OpenClaim.holds_of_wide 4 Try.f4 rfl rfl rfl rfl rfl rfl rfl ⟨rfl, rfl, rfl, rfl, rfl⟩ rfl rfl rfl rfl rfl (by kernel_rfl) Try.func4 (by kernel_rfl)
    (of_decide_eq_true (by kernel_rfl)) (by unfold Func.isWrapper; first | (rw [if_pos (by decide +kernel)]; kernel_rfl) | (rw [if_neg (by decide +kernel)]; exact ⟨rfl, rfl⟩))
    (fun os started H enc _ => lifted os started H enc)
end Go.Proofs.Ytfbeilninpapaaa.aclBytes
namespace Go.Proofs.Ytfbeilninpapaaa
/-- The statement. -/
theorem aclBytes_holds : Rows.AclBytesSaid := aclBytes.over
#print axioms aclBytes_holds
end Go.Proofs.Ytfbeilninpapaaa
