/- The contract of readText. -/
import Derived.Test.YtkhnhnaefmcngaaRdi
import Derived.Deep.Cut
import Derived.Deep.CutBlock
import Derived.Deep.DeepCutAuto
namespace Go.Proofs.Ytkhnhnaefmcngaa
set_option linter.unusedVariables false
open Go.RowKit
/-- What readers of a text know between two groups: j groups are read, tx are their bytes. -/
def TxI (bs : List Int) (j : Nat) (tx : List Int) : Prop := ∀ (t : ByteArray) (rest : List Int), t.size ≤ 256 → bs = textB t ++ rest →
  (j = 0 ∨ 8 * j < t.size) ∧ tx = (numsS t).take (8 * j) ∧ bs.drop (1 + 9 * j) = groups ((numsS t).drop (8 * j)) ++ rest
theorem txI_start (bs : List Int) : TxI bs 0 [] := by
  intro t rest _ e
  refine ⟨.inl rfl, by simp, ?_⟩
  rw [e, textB]; rfl
theorem groups_len9 (l : List Int) : 9 ≤ (groups l).length := by
  by_cases h : l.length ≤ 8
  · rw [groups_last l h]; simp [padN_len]
  · rw [groups_more l (by omega)]; simp; omega
/-- What the next group says. -/
theorem txI_next {bs : List Int} {j : Nat} {tx : List Int} (h : TxI bs j tx) (t : ByteArray) (rest : List Int) (ht : t.size ≤ 256) (e : bs = textB t ++ rest) :
    8 * j ≤ 256 ∧ 1 + 9 * j + 9 ≤ bs.length ∧
    ((bs.getD (1 + 9 * j + 8) 0 ≤ 8 ∧ tx ++ ((bs.drop (1 + 9 * j)).take 8).take (bs.getD (1 + 9 * j + 8) 0).toNat = numsS t ∧ 1 + 9 * j + 9 = (textB t).length) ∨
     (bs.getD (1 + 9 * j + 8) 0 = 9 ∧ 8 * (j + 1) < t.size ∧ tx ++ (bs.drop (1 + 9 * j)).take 8 = (numsS t).take (8 * (j + 1)) ∧ bs.drop (1 + 9 * (j + 1)) = groups ((numsS t).drop (8 * (j + 1))) ++ rest)) := by
  obtain ⟨h1, h2, h3⟩ := h t rest ht e
  have hnl := numsS_length t
  have h9 := groups_len9 ((numsS t).drop (8 * j))
  have hl := congrArg List.length h3
  rw [List.length_drop, List.length_append] at hl
  have hget : bs.getD (1 + 9 * j + 8) 0 = (bs.drop (1 + 9 * j)).getD 8 0 := by simp [List.getD]
  refine ⟨by omega, by omega, ?_⟩
  rw [hget, h3]
  by_cases hs : ((numsS t).drop (8 * j)).length ≤ 8
  · rw [groups_last _ hs]
    have e8 : (padN 8 ((numsS t).drop (8 * j)) ++ [(((numsS t).drop (8 * j)).length : Int)] ++ rest).getD 8 0 = (((numsS t).drop (8 * j)).length : Int) := by
      rw [List.append_assoc, List.getD_eq_getElem?_getD, List.getElem?_append_right (by rw [padN_len]; omega), padN_len]
      simp
    have et : (padN 8 ((numsS t).drop (8 * j)) ++ [(((numsS t).drop (8 * j)).length : Int)] ++ rest).take 8 = padN 8 ((numsS t).drop (8 * j)) := by
      rw [List.append_assoc, List.take_left' (padN_len _ _)]
    rw [e8, et]
    refine .inl ⟨by omega, ?_, ?_⟩
    · rw [Int.toNat_natCast, padN_take 8 _ hs, h2, List.take_append_drop]
    · rw [groups_last _ hs] at hl
      have := congrArg List.length e
      simp [padN_len] at hl this
      omega
  · rw [groups_more _ (by omega)]
    have ht8 : (((numsS t).drop (8 * j)).take 8).length = 8 := by rw [List.length_take]; omega
    have e8 : (((numsS t).drop (8 * j)).take 8 ++ 9 :: groups (((numsS t).drop (8 * j)).drop 8) ++ rest).getD 8 0 = 9 := by
      rw [List.append_assoc, List.getD_eq_getElem?_getD, List.getElem?_append_right (by omega), ht8]
      simp
    have et : (((numsS t).drop (8 * j)).take 8 ++ 9 :: groups (((numsS t).drop (8 * j)).drop 8) ++ rest).take 8 = ((numsS t).drop (8 * j)).take 8 := by
      rw [List.append_assoc, List.take_left' ht8]
    rw [e8, et]
    have hdl : ((numsS t).drop (8 * j)).length = t.size - 8 * j := by rw [List.length_drop, hnl]
    refine .inr ⟨rfl, by omega, ?_, ?_⟩
    · rw [h2, show 8 * (j + 1) = 8 * j + 8 by omega, List.take_add]
    · rw [show 1 + 9 * (j + 1) = 1 + 9 * j + 9 by omega, ← List.drop_drop, h3, groups_more _ (by omega), List.append_assoc, List.drop_append, List.drop_eq_nil_of_le (by omega), List.nil_append, ht8, show 8 * (j + 1) = 8 * j + 8 by omega, ← List.drop_drop]
      rfl
theorem txI_step {bs : List Int} {j : Nat} {tx : List Int} (h : TxI bs j tx) (h9 : bs.getD (1 + 9 * j + 8) 0 = 9) : TxI bs (j + 1) (tx ++ (bs.drop (1 + 9 * j)).take 8) := by
  intro t rest ht e
  rcases (txI_next h t rest ht e).2.2 with ⟨h1, _⟩ | ⟨_, h2, h3, h4⟩
  · omega
  · exact ⟨.inr h2, h3, h4⟩
/-- No text stands there. -/
theorem txI_none {bs : List Int} {j : Nat} {tx : List Int} (h : TxI bs j tx) (hhd : bs.head? = some 160) (hno : 256 < 8 * j ∨ bs.length < 1 + 9 * j + 9 ∨ 9 < bs.getD (1 + 9 * j + 8) 0) : RdP bs pt0 0 := by
  refine ⟨Nat.zero_le _, by show I64 0; unfold I64; omega, Nat.zero_le _, ?_⟩
  intro q rest hq e
  exfalso
  rcases hq with ⟨k1, k2, k3⟩ | ⟨k1, k2, k3⟩
  · rw [e, partB_num k1] at hhd
    have := headN_in k3
    simp [numB] at hhd
    omega
  · rw [partB_text k1] at e
    have := txI_next h q.text rest k3 e
    omega
/-- The text that stands there. -/
theorem txI_text {bs : List Int} {j : Nat} {tx : List Int} (h : TxI bs j tx) (hhd : bs.head? = some 160) (htl : tx.length = 8 * j) (hl : 1 + 9 * j + 9 ≤ bs.length) (L : Nat) (hL : bs.getD (1 + 9 * j + 8) 0 = (L : Int)) (h9 : L < 9) :
    RdP bs ⟨2, 0, strOfNums (tx ++ ((bs.drop (1 + 9 * j)).take 8).take L)⟩ (1 + 9 * j + 9) := by
  refine ⟨hl, by show I64 0; unfold I64; omega, ?_, ?_⟩
  · show (strOfNums _).size ≤ _
    have : (strOfNums (tx ++ ((bs.drop (1 + 9 * j)).take 8).take L)).size = (tx ++ ((bs.drop (1 + 9 * j)).take 8).take L).length := by
      show Array.size _ = _
      simp
    rw [this]
    simp; omega
  intro q rest hq e
  rcases hq with ⟨k1, k2, k3⟩ | ⟨k1, k2, k3⟩
  · exfalso
    rw [e, partB_num k1] at hhd
    have := headN_in k3
    simp [numB] at hhd
    omega
  · rw [partB_text k1] at e ⊢
    obtain ⟨_, _, h1 | h1⟩ := txI_next h q.text rest k3 e
    · rw [hL, Int.toNat_natCast] at h1
      obtain ⟨_, h2, h3⟩ := h1
      refine ⟨?_, h3⟩
      rw [h2, strOf_numsS]
      exact Pt.ext3 k1.symm k2.symm rfl
    · omega
/-- Eight bytes that were laid ahead of a call. -/
theorem box8 {W w2 : World} {ty : TypeId} (hb : Below (W.alloc (.cells #[.int .u8 0, .int .u8 0, .int .u8 0, .int .u8 0, .int .u8 0, .int .u8 0, .int .u8 0, .int .u8 0] ty)).drew.heap.size (W.alloc (.cells #[.int .u8 0, .int .u8 0, .int .u8 0, .int .u8 0, .int .u8 0, .int .u8 0, .int .u8 0, .int .u8 0] ty)).drew w2) :
    RowT w2 W.heap.size ty [0, 0, 0, 0, 0, 0, 0, 0] ∧ Below W.heap.size W w2 := by
  have h := (hb.block W.heap.size (by simp)).trans (heap_new W _)
  exact ⟨h, (((Below.refl _ W).alloc (Nat.le_refl _) _).drew).trans (hb.mono (by simp))⟩
theorem RowT.set8 {w : World} {g : Nat} {ty : TypeId} {l : List Int} (h : RowT w g ty l) (hl : l.length = 8) (c0 c1 c2 c3 c4 c5 c6 c7 : Int) :
    RowT ((((((((w.setCell ⟨g, 0, none⟩ (.int .u8 c0)).setCell ⟨g, 1, none⟩ (.int .u8 c1)).setCell ⟨g, 2, none⟩ (.int .u8 c2)).setCell ⟨g, 3, none⟩ (.int .u8 c3)).setCell ⟨g, 4, none⟩ (.int .u8 c4)).setCell ⟨g, 5, none⟩ (.int .u8 c5)).setCell ⟨g, 6, none⟩ (.int .u8 c6)).setCell ⟨g, 7, none⟩ (.int .u8 c7)) g ty [c0, c1, c2, c3, c4, c5, c6, c7] := by
  obtain ⟨d0, d1, d2, d3, d4, d5, d6, d7, rfl⟩ := list8 hl
  exact (((((((h.set c0).set c1).set c2).set c3).set c4).set c5).set c6).set c7
theorem row_to {w : World} {g L : Nat} {ty : TypeId} {G : List Int} (h : RowT w g ty G) (hG : G.length = 8) (hL : L ≤ 8) : Bts w (.slice (some ⟨g, 0, none⟩) L 8) (G.take L) := by
  have hl : (G.take L).length = L := by rw [List.length_take]; omega
  refine ⟨_, 8, by rw [hl], ⟨(fun e => by cases e), by omega⟩, .inr ⟨g, 0, rfl, fun t _ ht => ?_⟩⟩
  rw [hl] at ht
  rw [Nat.zero_add, h.cell t (by omega)]
  simp [ht]
theorem size70 (W : World) : (sizeOf (Try.prog.elem 70)).run Try.prog W = .ok 1 W := by kernel_rfl
theorem arr70 : Try.prog.underlying 70 = some (.array (Try.prog.arrayLen 70) (Try.prog.elem 70)) := by kernel_rfl
theorem alen70 : Try.prog.arrayLen 70 = 8 := by kernel_rfl
theorem arr_to (g L : Nat) (hL : L ≤ 8) (W : World) : (Instr.sliceAt 70 (.pointer (some ⟨g, 0, none⟩)) none (some (.int .u8 (L : Int))) none).run Try.prog W = .ok (.slice (some ⟨g, 0, none⟩) L 8) W := by
  rw [run_sliceAt_array_h W 70 ⟨g, 0, none⟩ arr70 .u8 L (by omega) (by rw [alen70]; omega), size70]
  simp [Result.andThen, slicedAt, alen70, add_at]
theorem lt_of_blk {w : World} {g : Nat} {o : Obj} (h : w.heap[g]? = some o) : g < w.heap.size := (Array.getElem?_eq_some_iff.1 h).1
theorem getD_str (s : ByteArray) (a : Nat) (h : a < s.size) : (numsS s).getD a 0 = ((s[a].toNat : Nat) : Int) := by
  have hl : a < (numsS s).length := by rw [numsS_length]; exact h
  rw [List.getD_eq_getElem?_getD, List.getElem?_eq_getElem hl]
  simp [numsS]
  rfl
theorem pad_at (s : ByteArray) (a : Nat) (h : a + 8 ≤ s.size) : padN 8 (numsS (s.extract a s.size)) = ((numsS s).drop a).take 8 := by
  have hn := numsS_length s
  rw [numsS_extract, List.take_of_length_le (by omega), padN_long 8 _ (by rw [List.length_drop]; omega)]
set_option maxRecDepth 100000 in
set_option maxHeartbeats 4000000 in
theorem readText_any (s : ByteArray) (w : World) (hs : s.size ≤ 1000000) (h0 : 0 < s.size) (hhd : (numsS s).head? = some 160) : Calls Try.prog 41 #[.string s] w fun e w' => ∃ p n, e = .returned (.tuple #[ptV p, .int .i64 (n : Nat)]) ∧ RdP (numsS s) p n ∧ Below w.heap.size w w' := by
  have hnl := numsS_length s
  replace hnl : Hid _ := hnl
  replace hhd : Hid _ := hhd
  go_enter Try.func41, Try.ntmps41
  go_wp2
  go_loopw [4, 5] (fun u a wr => ∃ (j A : Nat) (tx : List Int), a = .int .i64 (A : Int) ∧ Hid (A = 1 + 9 * j) ∧ A ≤ s.size ∧ j ≤ 33 ∧ Own wr (w.heap.size + 1) u tx ∧ Hid (tx.length = 8 * j) ∧ Hid (TxI (numsS s) j tx) ∧ Hid (wr.heap[w.heap.size]? = some (.cells #[.int .i64 0, .int .i64 0, .string ⟨#[]⟩] 39 (0, 0))) ∧ Below w.heap.size w wr)
    (fun _ a _ => s.size - (intOf a).toNat)
  case atStart => exact ⟨0, 1, [], rfl, rfl, by omega, by omega, World.ownsRow_nil _ _ _ _, rfl, txI_start _, heap_new _ _, (Below.refl _ w).alloc (Nat.le_refl _) _⟩
  case round =>
    obtain ⟨j, A, tx, rfl, hA, hj, hj33, ho, htl, htx, hblk, hb⟩ := hrel
    have hz := hb.size
    obtain ⟨av, cv, hv⟩ := ho.shape
    subst hv
    have hnone := fun h => txI_none htx.out hhd.out h
    rw [hnl.out, ← hA.out] at hnone
    replace hnone : Hid _ := hnone
    have hlt1 : w.heap.size < wr.heap.size := lt_of_blk hblk.out
    obtain ⟨n, hn⟩ : ∃ n, Hid (n = tx.length) := ⟨_, rfl⟩
    rw [← hn.out] at ho ⊢
    by_cases hgo : n ≤ 256 ∧ A + 9 ≤ s.size
    · obtain ⟨hgo1, hgo2⟩ := hgo
      have hA1 : (n : Int) ≤ 256 := by omega
      have hA2 : (8 : Int) < (s.size : Int) - (A : Int) := by omega
      have hA8 : IntKind.i64.wrap ((A : Int) + 8) = ((A + 8 : Nat) : Int) := by rw [Go.IntWalk.i64_in _ (by omega)]; omega
      obtain ⟨L, hL⟩ : ∃ L : Nat, Hid ((numsS s).getD (A + 8) 0 = (L : Int)) := ⟨_, getD_str s (A + 8) (by omega)⟩
      have hix : ∀ W : World, (Instr.index 9 (.string s) (.int .i64 ((A + 8 : Nat) : Int))).run Try.prog W = .ok (.int .u8 (L : Int)) W := by
        intro W
        rw [run_index_string W 9 s .i64 _ Try.underlying9, dif_pos (by omega)]
        have := getD_str s (A + 8) (by omega)
        rw [hL.out] at this
        rw [this]
        rfl
      have hsl : ∀ W : World, (Instr.slice 9 (.string s) (some (.int .i64 (A : Int))) none none).run Try.prog W = .ok (.string (s.extract A s.size)) W := by
        intro W
        have := run_slice_string_l W 9 s Try.underlying9 .i64 (A : Int) (by omega) (by omega)
        rwa [Int.toNat_natCast] at this
      have hL2 : L < 256 := by
        have := numsS_bytes s _ (getD_mem (numsS s) 0 (A + 8) (by rw [hnl.out]; omega))
        rw [hL.out] at this; omega
      have hG : Hid (padN 8 (numsS (s.extract A s.size)) = ((numsS s).drop A).take 8) := pad_at s A (by omega)
      have hgr := fun W => groupOf_any (s.extract A s.size) W
      rw [hG.out] at hgr
      have hGl : (((numsS s).drop A).take 8).length = 8 := by rw [← hG.out, padN_len]
      generalize s.extract A s.size = S at *
      generalize hGG : ((numsS s).drop A).take 8 = G at *
      replace hGG : Hid _ := hGG
      generalize hA8n : A + 8 = A8 at *
      replace hA8n : Hid _ := hA8n
      go_wp2
      go_cut [6, 7] (fun x6 x7 wc => ∃ g, x6 = .pointer (some ⟨g, 0, none⟩) ∧ x7 = .int .u8 (L : Int) ∧ wr.heap.size ≤ g ∧ RowT wc g 70 G ∧ Below wr.heap.size wr wc)
      case first =>
        obtain ⟨c0, c1, c2, c3, c4, c5, c6, c7, rfl⟩ := list8 hGl
        have hg1 := fun W => (hgr (World.drew (World.alloc W (.cells #[.int .u8 0, .int .u8 0, .int .u8 0, .int .u8 0, .int .u8 0, .int .u8 0, .int .u8 0, .int .u8 0] 70)))).mono (fun e w' h => And.intro h.1 (box8 h.2))
        have hg2 := hgr wr.drew
        unfold arrV at hg1 hg2
        clear hgr
        go_region_with (go_at_call 40; first
          | (with_reducible refine (hg1 _).mono ?_; rintro e w2 ⟨rfl, hr8, hb8⟩; obtain ⟨b0, b1, b2, b3, b4, b5, b6, b7, bf⟩ := hr8.cells8)
          | (with_reducible refine hg2.mono ?_; rintro e w2 ⟨rfl, hb2⟩))
        all_goals
          go_wp2_with fail
          go_meet
          case rel =>
            first
            | exact ⟨wr.heap.size, rfl, rfl, Nat.le_refl _, hr8.set8 rfl _ _ _ _ _ _ _ _, (((((((hb8.setCell (Nat.le_refl _) _).setCell (Nat.le_refl _) _).setCell (Nat.le_refl _) _).setCell (Nat.le_refl _) _).setCell (Nat.le_refl _) _).setCell (Nat.le_refl _) _).setCell (Nat.le_refl _) _).setCell (Nat.le_refl _) _⟩
            | exact ⟨w2.heap.size, rfl, rfl, hb2.size, heap_new _ _, ((Below.refl _ wr).drew.trans hb2).alloc hb2.size _⟩
      case rest =>
        obtain ⟨g, rfl, rfl, hg, hrow, hbc⟩ := hcut
        have hoc := ho.stay hbc
        have hzc := hbc.size
        have hbk := (hbc.block w.heap.size hlt1).trans hblk.out
        have hbx : Below w.heap.size w wc := hb.trans (hbc.mono (by omega))
        obtain ⟨z0, z1, z2⟩ := cells3 hbk
        have zf := fun p => frozen_of hbk p
        have hgb := hrow.bts
        rw [hGl] at hgb
        clear hgr hix hsl ho
        by_cases h9 : (9 : Int) < (L : Int)
        · have hres : Hid (RdP (numsS s) pt0 0) := hnone.out (by rw [hL.out]; omega)
          go_wp2
          refine bodyPost_ret (v := .tuple #[ptV pt0, .int .i64 ((0 : Nat) : Int)]) ?_ rfl ⟨pt0, 0, rfl, hres.out, ((hbx.setCell (Nat.le_refl _) _).setCell (Nat.le_refl _) _).setCell (Nat.le_refl _) _⟩
          simp [results, Try.results41, asAddr, Result.andThen, go_sem, ptV, pt0, z0, z1, z2]
        · by_cases h8 : (L : Int) < 9
          · have hLn : L < 9 := by omega
            have hres : Hid (RdP (numsS s) ⟨2, 0, strOfNums (tx ++ G.take L)⟩ (A + 9)) := by
              have := txI_text htx.out hhd.out htl.out (by rw [hnl.out, ← hA.out]; omega) L (by rw [← hA.out, hA8n.out]; exact hL.out) hLn
              rw [← hA.out, hGG.out] at this
              exact this
            have hgL : Bts wc (.slice (some ⟨g, 0, none⟩) L 8) (G.take L) := row_to hrow hGl (by omega)
            have hslL := arr_to g L (by omega)
            have hLl : (G.take L).length = L := by rw [List.length_take]; omega
            have hA9 : IntKind.i64.wrap ((A : Int) + 9) = ((A + 9 : Nat) : Int) := by rw [Go.IntWalk.i64_in _ (by omega)]; omega
            have hA9b : (A : Int) + 9 = ((A + 9 : Nat) : Int) := by omega
            clear hgb hrow
            generalize A + 9 = A9 at *
            generalize hST : strOfNums (tx ++ G.take L) = ST at *
            replace hST : Hid _ := hST
            go_wp2_with (first
              | (at_builtin; refine appG rfl (.tmp 35) (.tmp 37) rfl (w.heap.size + 1) (.slice av n cv) _ _ _ tx (G.take L) rfl rfl hoc hgL (by omega) (by rw [hLl, ← hn.out]; omega) ?_; intro v3 w3 ho3 hg3; have hcv := conv_str ho3.bts; rw [hST.out] at hcv)
              | (go_at_call 18; refine (text_any ST _).mono ?_; rintro e w4 ⟨rfl, hb4⟩; have hb3 : Below (w.heap.size + 1) wc w3 := hoc.grows (by omega) hg3; have hbk4 := (hb4.block w.heap.size (by have := hb3.size; omega)).trans ((hb3.block w.heap.size (by omega)).trans hbk); obtain ⟨y0, y1, y2⟩ := cells3 hbk4; have yf := fun p => frozen_of hbk4 p; unfold ptV))
            have hbz : Below w.heap.size w w4 := (hbx.trans (hb3.mono (by omega))).trans (hb4.mono (by have := hb3.size; omega))
            refine bodyPost_ret (v := .tuple #[ptV ⟨2, 0, ST⟩, .int .i64 (A9 : Int)]) ?_ rfl ⟨_, A9, rfl, hres.out, ((hbz.setCell (Nat.le_refl _) _).setCell (Nat.le_refl _) _).setCell (Nat.le_refl _) _⟩
            simp [results, Try.results41, asAddr, Result.andThen, go_sem, ptV, y0, y1, y2]
          · obtain rfl : L = 9 := by omega
            have hstep : Hid (TxI (numsS s) (j + 1) (tx ++ G)) := by
              have := txI_step htx.out (by rw [← hA.out, hA8n.out, hL.out]; rfl)
              rw [← hA.out, hGG.out] at this
              exact this
            have hA9 : IntKind.i64.wrap ((A : Int) + 9) = ((A + 9 : Nat) : Int) := by rw [Go.IntWalk.i64_in _ (by omega)]; omega
            go_wp2_with (first
              | (at_builtin; refine appG rfl (.tmp 42) (.tmp 43) rfl (w.heap.size + 1) (.slice av n cv) _ _ _ tx G rfl rfl hoc hgb (by omega) (by rw [hGl, ← hn.out]; omega) ?_; intro v3 w3 ho3 hg3))
            have hb3 : Below (w.heap.size + 1) wc w3 := hoc.grows (by omega) hg3
            refine ⟨⟨j + 1, A + 9, tx ++ G, by go_num, ?_, by omega, ?_, ho3, ?_, hstep, (hb3.block w.heap.size (by omega)).trans hbk, hbx.trans (hb3.mono (by omega))⟩, ?_⟩
            · show _ = _
              rw [hA.out]; omega
            · have := htl.out; have := hn.out; omega
            · show _ = _
              rw [List.length_append, hGl, htl.out]; omega
            · simp [intOf]; omega
    · have hres : Hid (RdP (numsS s) pt0 0) := hnone.out (by have := hn.out; have := htl.out; omega)
      obtain ⟨z0, z1, z2⟩ := cells3 hblk.out
      have zf := fun p => frozen_of hblk.out p
      by_cases h256 : 256 < n
      · have hd1 : decide ((n : Int) ≤ 256) = false := by simp; omega
        go_wp2
        refine bodyPost_ret (v := .tuple #[ptV pt0, .int .i64 ((0 : Nat) : Int)]) ?_ rfl ⟨pt0, 0, rfl, hres.out, ((hb.setCell (Nat.le_refl _) _).setCell (Nat.le_refl _) _).setCell (Nat.le_refl _) _⟩
        simp [results, Try.results41, asAddr, Result.andThen, go_sem, ptV, pt0, z0, z1, z2]
      · have hd1 : decide ((n : Int) ≤ 256) = true := by simp; omega
        have hd2 : decide ((8 : Int) < (s.size : Int) - (A : Int)) = false := by simp; omega
        go_wp2
        refine bodyPost_ret (v := .tuple #[ptV pt0, .int .i64 ((0 : Nat) : Int)]) ?_ rfl ⟨pt0, 0, rfl, hres.out, ((hb.setCell (Nat.le_refl _) _).setCell (Nat.le_refl _) _).setCell (Nat.le_refl _) _⟩
        simp [results, Try.results41, asAddr, Result.andThen, go_sem, ptV, pt0, z0, z1, z2]
end Go.Proofs.Ytkhnhnaefmcngaa
