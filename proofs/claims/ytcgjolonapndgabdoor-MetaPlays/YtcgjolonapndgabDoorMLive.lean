/- The contract of live. -/
import Derived.Test.YtcgjolonapndgabDoorMSt
namespace Go.Proofs.YtcgjolonapndgabDoor
open Go.RowKit Go.Maps Go.ChangeMaps Go.MapKept
theorem be_last (n : Nat) : (be 8 n).getD 7 0 = ((n % 256 : Nat) : Int) := by
  rw [be, List.getD_eq_getElem?_getD, List.getElem?_append_right (by rw [be_len]; omega), be_len]
  rfl
/-- Bytes whose second Seq ends otherwise than the first one are no meta's. -/
theorem torn_no {bs : List Int} (h : bs.getD 35 0 ≠ ((seqOf bs % 256 : Nat) : Int)) : isMeta bs = false := by
  cases hm : isMeta bs with
  | false => rfl
  | true =>
    have h1 := isMeta_last hm
    have h2 := congrArg (fun l => List.getD l 7 0) h1
    rw [be_last] at h2
    exfalso
    apply h
    rw [← h2]
    simp
theorem seqOf_take {bs : List Int} {q : Nat} (hq : q < 2 ^ 64) (h : bs.take 8 = be 8 q) : seqOf bs = q := by
  unfold seqOf
  rw [List.drop_zero, h, ofBe_be]
  exact Nat.mod_eq_of_lt hq
theorem meta_take (size q : Nat) (r k d : Int) : (padded size (metaB q r k d)).take 8 = be 8 q := by
  unfold padded
  rw [metaB_split, List.take_left' (be_len _ _)]
theorem lv_torn : isMeta (over ((padded 64 (metaB 2 0 0 0)).take 35) (zeros 64)) = false := by
  have hl : ((padded 64 (metaB 2 0 0 0)).take 35).length = 35 := by
    rw [List.length_take, padded_len _ _ (by rw [metaB_len]; omega)]; rfl
  have h1 : seqOf (over ((padded 64 (metaB 2 0 0 0)).take 35) (zeros 64)) = 2 := by
    refine seqOf_take (by decide) ?_
    unfold over
    rw [List.take_append_of_le_length (by omega), List.take_take]
    exact meta_take _ _ _ _ _
  refine torn_no ?_
  rw [h1]
  unfold over
  rw [List.getD_eq_getElem?_getD, List.getElem?_append_right (by omega), hl]
  decide
theorem lvD_best : (lvD.best 2).q = 2 := by
  obtain ⟨_, h1, h2, h3, h4, h5, h6, h7, h8⟩ := lvC_is
  obtain ⟨_, e⟩ := lvD_is
  have hop := op_same lvC
  have hs : lvD.sectors = 8 := by rw [e]; exact hop.1.trans h1
  have hz : lvD.size = 64 := by rw [e]; exact hop.2.1.trans h2
  have hd : lvD.dead = false := by rw [e]; show lvC.op.dead = false; unfold St.op; rw [if_pos (by simp [St.live, h3, h4])]; exact h3
  have n0 : lvD.now 0 = padded 64 (metaB 2 0 0 0) := by rw [e]; rfl
  have n2 : lvD.now 2 = padded 64 (metaB 1 3 4 1) := by
    rw [e]
    show ((lvC.op.fresh 2).getD (lvC.op.safe 2)) = _
    rw [hop.2.2.1, hop.2.2.2.1, h6, h8]; rfl
  unfold St.best
  rw [if_neg (by rw [cnt_same 2 hs hz (t := lvA), hd]; simp [lvA_cnt]), n0, n2, stM_meta _ _ _ _ _ _ (by decide) mok2, stM_meta _ _ _ _ _ _ (by decide) mok1]
  rfl
theorem lvD_ops : lvD.ops = 3 ∧ lvD.size = 64 := by
  obtain ⟨_, h1, h2, h3, h4, h5, h6, h7, h8⟩ := lvC_is
  obtain ⟨_, e⟩ := lvD_is
  rw [e]
  constructor
  · show lvC.op.ops = 3
    unfold St.op
    rw [if_pos (by simp [St.live, h3, h4])]
    show lvC.ops + 1 = 3
    rw [h5]
  · exact (op_same lvC).2.1.trans h2
theorem lvE_best : lvE.best 2 = ⟨1, 3, 4, 1⟩ ∧ lvE.errB 2 = 0 := by
  obtain ⟨_, h1, h2, h3, h4, h5, h6, h7, h8⟩ := lvC_is
  obtain ⟨_, e⟩ := lvD_is
  have hop := op_same lvC
  have hs : lvE.sectors = 8 := by unfold lvE; rw [e]; exact hop.1.trans h1
  have hz : lvE.size = 64 := by unfold lvE; rw [e]; exact hop.2.1.trans h2
  have hd : lvE.dead = false := rfl
  have n0 : lvE.now 0 = over ((padded 64 (metaB 2 0 0 0)).take 35) (zeros 64) := by
    unfold lvE
    rw [e]
    show over ((padded 64 (metaB 2 0 0 0)).take (lastN lvC.op.size [] [(0, 35)] 0)) (lvC.op.safe 0) = _
    rw [hop.2.1, hop.2.2.1, h7, h2]
    rfl
  have n2 : lvE.now 2 = padded 64 (metaB 1 3 4 1) := by
    unfold lvE
    rw [e]
    show (match lvC.op.fresh 2 with | some x => over (x.take (lastN lvC.op.size [] [(0, 35)] 2)) (lvC.op.safe 2) | none => lvC.op.safe 2) = _
    rw [hop.2.2.1, hop.2.2.2.1, h6, h8]
  have hb : lvE.best 2 = ⟨1, 3, 4, 1⟩ := by
    unfold St.best
    rw [if_neg (by rw [cnt_same 2 hs hz (t := lvA), hd]; simp [lvA_cnt]), n0, n2, stM_meta _ _ _ _ _ _ (by decide) mok1]
    rw [show stM (over ((padded 64 (metaB 2 0 0 0)).take 35) (zeros 64)) 0 = Mt.zero from if_neg fun h => by rw [lv_torn] at h; cases h.1]
    rfl
  refine ⟨hb, ?_⟩
  unfold St.errB
  rw [if_neg (by rw [cnt_same 2 hs hz (t := lvA)]; exact lvA_cnt), hd, hb]
  rfl
theorem lvA_err : lvA.errB 2 = 40 := by
  unfold St.errB
  rw [if_neg lvA_cnt]
  have : lvA.best 2 = Mt.zero := by
    unfold St.best
    rw [if_neg (by simp [lvA_cnt]; decide)]
    rw [show lvA.now 0 = zeros 64 from rfl, show lvA.now 2 = zeros 64 from rfl, stM_zeros, stM_zeros]
    rfl
  rw [this]
  rfl
theorem lv_byt : Byt lvA ∧ Byt lvD ∧ Byt lvE := by
  have h1 : Byt lvA := byt_new 8 64
  have h2 : Byt lvD := byt_writeM (byt_sync (byt_writeM h1 2 1 3 4 1)) 2 2 0 0 0
  exact ⟨h1, h2, byt_crash h2 _ _⟩
set_option maxRecDepth 100000 in
set_option maxHeartbeats 4000000 in
theorem live_any (w : World) : Calls Tryd.prog 9 #[] w fun e w' => e = .returned (.bool true) ∧ Below w.heap.size w w' := by
  go_enter Tryd.func9, Tryd.ntmps9
  go_wp2_with fail
  refine (held_new (w := w) (W := w) 8 64 (by omega) (by omega) (by omega) (by omega) (Below.refl _ w)).mono ?_
  rintro e w1 ⟨p, rfl, h1, hb1⟩
  replace h1 : Held w w1 p _ lvA := h1
  go_wp2_with (first | (go_at_call 14; refine (num_any _ _ (by omega) (by omega)).mono ?_; rintro e w' ⟨rfl, hw'⟩; subst w'))
  refine (best_any h1.disk (fun n => byt_now lv_byt.1 n) 2).mono ?_
  rintro e w2 ⟨rfl, hb2⟩
  rw [lvA_err]
  have h2 := h1.grow hb2
  simp only [Mt.val]
  clear h1 hb1 hb2
  go_wp2_with fail
  refine (mwrite_any (h2.alloc _) (by decide) 2 1 3 4 1 (by decide) (by decide)).mono ?_
  rintro e w3 ⟨rfl, F3, h3, hf3, hF3⟩
  rw [lvB_is.1]
  replace h3 : Held w w3 p F3 lvB := h3
  clear h2 hf3 hF3
  go_wp2_with fail
  refine (held_sync h3 (by rw [lvB_is.2]; decide)).mono ?_
  rintro e w4 ⟨rfl, F4, h4, hf4, hF4⟩
  rw [lvC_is.1]
  replace h4 : Held w w4 p F4 lvC := h4
  clear h3 hf4 hF4
  go_wp2_with fail
  refine (mwrite_any h4 (by rw [lvC_is.2.2.2.2.2.1]; decide) 2 2 0 0 0 (by decide) (by decide)).mono ?_
  rintro e w5 ⟨rfl, F5, h5, hf5, hF5⟩
  rw [lvD_is.1]
  replace h5 : Held w w5 p F5 lvD := h5
  clear h4 hf5 hF5
  go_wp2_with fail
  refine (best_any h5.disk (fun n => byt_now lv_byt.2.1 n) 2).mono ?_
  rintro e w6 ⟨rfl, hb6⟩
  have h6 := h5.grow hb6
  simp only [Mt.val]
  rw [lvD_best]
  generalize (lvD.best 2).r = xr
  generalize (lvD.best 2).k = xk
  generalize (lvD.best 2).d = xd
  generalize lvD.errB 2 = xe
  clear h5 hb6
  have hx : MetaAt (w6.alloc (.cells #[.int .u64 2, .int .i64 xr, .int .i64 xk, .int .i64 xd] 24)) w6.heap.size 2 xr xk xd := heap_alloc_new w6 _
  have h7 := h6.alloc (.cells #[.int .u64 2, .int .i64 xr, .int .i64 xk, .int .i64 xd] 24)
  have hnF : ¬ F5 w6.heap.size := fun h => absurd (h6.blocks _ h).2 (by omega)
  have hbk := fun k (hk : F5 k) => (h6.blocks k hk).2
  clear h6
  go_wp2_with fail
  have h8 := h7.alloc (.cells #[.int .i64 0, .int .i64 35] 64)
  have ht := torns1 (w6.alloc (.cells #[.int .u64 2, .int .i64 xr, .int .i64 xk, .int .i64 xd] 24)) 0 35
  rw [World.size_alloc] at ht
  refine (held_crash h8 (by rw [lvD_ops.1]; decide) [] [(0, 35)] _ _ (ints_nil _) ht (by simp) (by simp) (by simp) (by simp [In64])).mono ?_
  rintro e w8 ⟨rfl, F8, h9, hf9, hF9⟩
  replace h9 : Held w w8 p F8 lvE := h9
  have hx8 : MetaAt w8 w6.heap.size 2 xr xk xd := (hx.keep ((heap_alloc _ (.cells #[.int .i64 0, .int .i64 35] 64)).2 _ hx.lt)).keep (hf9.block _ (by simp; omega) hnF)
  clear h8 h7 hx hf9 hF9
  go_wp2_with fail
  refine (best_any h9.disk (fun n => byt_now lv_byt.2.2 n) 2).mono ?_
  rintro e w9 ⟨rfl, hb9⟩
  rw [lvE_best.1, lvE_best.2]
  simp only [Mt.val]
  have hB9 := h9.below.trans (hb9.mono h9.le)
  have hx9 := hx8.keep (hb9.block _ hx8.lt)
  obtain ⟨c0, c1, c2, c3⟩ := hx9.cells
  have hlt9 := hx9.lt
  clear h9 hb9 hx8
  go_wp2_with (first | (go_at_call 14; refine (num_any _ _ (by omega) (by omega)).mono ?_; rintro e w' ⟨rfl, hw'⟩; subst w'))
  go_ret
  exact ⟨rfl, hB9.alloc hB9.size _⟩
end Go.Proofs.YtcgjolonapndgabDoor
