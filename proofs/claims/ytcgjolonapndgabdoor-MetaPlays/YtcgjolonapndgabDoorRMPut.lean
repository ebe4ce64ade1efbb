/- The document's Put of metas. -/
import Derived.Test.YtcgjolonapndgabDoorRBig
namespace Go.Proofs.YtcgjolonapndgabDoor
set_option linter.unusedVariables false
open Go.RowKit Go.Maps Go.ChangeMaps Go.MapKept
theorem own_nil (W : World) (base : Nat) : Own W base (.slice none 0 0) [] := World.ownsRow_nil W base 5 1
set_option maxRecDepth 100000 in
set_option maxHeartbeats 4000000 in
theorem rmput_any (q : Nat) (r k d : Int) (w : World) (hq : q < 2 ^ 64) :
    Calls Tryd.prog 13 #[.agg #[.int .u64 q, .int .i64 r, .int .i64 k, .int .i64 d]] w fun e w' => e = .returned (.string (strOfNums (metaB q r k d))) ∧ Below w.heap.size w w' := by
  have hm0 : MetaAt (w.alloc (.cells #[.int .u64 q, .int .i64 r, .int .i64 k, .int .i64 d] 24)) w.heap.size q r k d := heap_alloc_new w _
  have hz0 : w.heap.size + 1 ≤ (w.alloc (.cells #[.int .u64 q, .int .i64 r, .int .i64 k, .int .i64 d] 24)).heap.size := by simp
  have hB0 : Below w.heap.size w (w.alloc (.cells #[.int .u64 q, .int .i64 r, .int .i64 k, .int .i64 d] 24)) := (Below.refl _ _).alloc (Nat.le_refl _) _
  have hr := u64_wrap r
  have hk := u64_wrap k
  have hd := u64_wrap d
  have hrl := u64_lt r
  have hkl := u64_lt k
  have hdl := u64_lt d
  have HE : Hid (∀ M, M = mfold 4294967295 (be 8 q ++ be 4 (u64 r) ++ be 8 (u64 k) ++ be 4 (u64 d)) → be 8 q ++ be 4 (u64 r) ++ be 8 (u64 k) ++ be 4 (u64 d) ++ be 4 M ++ be 8 q = metaB q r k d) := by
    show ∀ M, _
    rintro M rfl
    rfl
  have hHb : IsBytes (be 8 q ++ be 4 (u64 r) ++ be 8 (u64 k) ++ be 4 (u64 d)) := mhead_bytes _ _ _ _
  have hHl : (be 8 q ++ be 4 (u64 r) ++ be 8 (u64 k) ++ be 4 (u64 d)).length = 24 := mhead_len _ _ _ _
  generalize hR : u64 r = R at *
  generalize hK : u64 k = K at *
  generalize hD : u64 d = D at *
  go_enter Tryd.func13, Tryd.ntmps13
  go_wp2_with fail
  generalize w.alloc (.cells #[.int .u64 q, .int .i64 r, .int .i64 k, .int .i64 d] 24) = W0 at *
  obtain ⟨c0, c1, c2, c3⟩ := hm0.cells
  refine (big_any (w.heap.size + 1) _ [] q 8 _ hq (by omega) (own_nil _ _) hz0 (by simp)).mono ?_
  rintro e w1 ⟨v1, rfl, ho1, hb1⟩
  have hm1 := hm0.keep (hb1.block _ (Nat.lt_succ_self _))
  have hB1 := hB0.trans (hb1.mono (Nat.le_succ _))
  have hz1 := Nat.le_trans hz0 hb1.size
  obtain ⟨p0, p1, p2, p3⟩ := hm1.cells
  clear hm0 hB0 hz0 hb1 c0 c1 c2 c3
  go_wp2_with fail
  refine (big_any (w.heap.size + 1) _ _ R 4 _ hrl (by omega) ho1 hz1 (by simp [be_len])).mono ?_
  rintro e w2 ⟨v2, rfl, ho2, hb2⟩
  have hm2 := hm1.keep (hb2.block _ (Nat.lt_succ_self _))
  have hB2 := hB1.trans (hb2.mono (Nat.le_succ _))
  have hz2 := Nat.le_trans hz1 hb2.size
  obtain ⟨q0, q1, q2, q3⟩ := hm2.cells
  clear hm1 hB1 hz1 hb2 p0 p1 p2 p3 ho1
  go_wp2_with fail
  refine (big_any (w.heap.size + 1) _ _ K 8 _ hkl (by omega) ho2 hz2 (by simp [be_len])).mono ?_
  rintro e w3 ⟨v3, rfl, ho3, hb3⟩
  have hm3 := hm2.keep (hb3.block _ (Nat.lt_succ_self _))
  have hB3 := hB2.trans (hb3.mono (Nat.le_succ _))
  have hz3 := Nat.le_trans hz2 hb3.size
  obtain ⟨p0, p1, p2, p3⟩ := hm3.cells
  clear hm2 hB2 hz2 hb3 q0 q1 q2 q3 ho2
  go_wp2_with fail
  refine (big_any (w.heap.size + 1) _ _ D 4 _ hdl (by omega) ho3 hz3 (by simp [be_len])).mono ?_
  rintro e w4 ⟨v4, rfl, ho4, hb4⟩
  have hm4 := hm3.keep (hb4.block _ (Nat.lt_succ_self _))
  have hB4 := hB3.trans (hb4.mono (Nat.le_succ _))
  have hz4 := Nat.le_trans hz3 hb4.size
  obtain ⟨q0, q1, q2, q3⟩ := hm4.cells
  rw [List.nil_append] at ho4
  clear hm3 hB3 hz3 hb4 p0 p1 p2 p3 ho3
  have hcrc := crc_any _ v4 w4 hHb (by rw [hHl]; omega) ho4.bts
  have hM := mfold_lt _ hHb 4294967295 (by decide)
  have HE2 := HE.out _ rfl
  clear HE
  generalize mfold 4294967295 (be 8 q ++ be 4 R ++ be 8 K ++ be 4 D) = M at hcrc hM HE2
  replace HE2 : Hid _ := HE2
  have hwM : IntKind.u64.wrap (M : Int) = M := wrap_u64 _ (by omega) (by omega)
  go_wp2_with (first | (go_at_call 38; refine hcrc.mono ?_; rintro e w' ⟨rfl, hw'⟩; subst w'))
  refine (big_any (w.heap.size + 1) _ _ M 4 _ (by omega) (by omega) ho4 hz4 (by rw [hHl]; omega)).mono ?_
  rintro e w5 ⟨v5, rfl, ho5, hb5⟩
  have hm5 := hm4.keep (hb5.block _ (Nat.lt_succ_self _))
  have hB5 := hB4.trans (hb5.mono (Nat.le_succ _))
  have hz5 := Nat.le_trans hz4 hb5.size
  obtain ⟨p0, p1, p2, p3⟩ := hm5.cells
  clear hm4 hB4 hz4 hb5 q0 q1 q2 q3 ho4 hcrc
  go_wp2_with fail
  refine (big_any (w.heap.size + 1) _ _ q 8 _ hq (by omega) ho5 hz5 (by rw [List.length_append, hHl, be_len]; omega)).mono ?_
  rintro e w6 ⟨v6, rfl, ho6, hb6⟩
  have hB6 := hB5.trans (hb6.mono (Nat.le_succ _))
  rw [HE2.out] at ho6
  have hcv := conv_str ho6.bts
  clear hm5 hB5 hz5 hb6 p0 p1 p2 p3 ho5
  go_wp2_with fail
  go_ret
  exact ⟨rfl, hB6⟩
end Go.Proofs.YtcgjolonapndgabDoor
