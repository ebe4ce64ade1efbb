/- The contract of meta.Put. -/
import Derived.Test.YtcgjolonapndgabDoorMForm
namespace Go.Proofs.YtcgjolonapndgabDoor
open Go.RowKit Go.Maps Go.ChangeMaps Go.MapKept
/-- What a struct of type Meta in block pb holds. -/
def MetaAt (w : World) (pb : Nat) (q : Nat) (r k d : Int) : Prop := w.heap[pb]? = some (.cells #[.int .u64 q, .int .i64 r, .int .i64 k, .int .i64 d] 24 (0, 0))
theorem MetaAt.cells {w : World} {pb q : Nat} {r k d : Int} (h : MetaAt w pb q r k d) : w.cell? ⟨pb, 0, none⟩ = some (.int .u64 q) ∧ w.cell? ⟨pb, 1, none⟩ = some (.int .i64 r) ∧ w.cell? ⟨pb, 2, none⟩ = some (.int .i64 k) ∧ w.cell? ⟨pb, 3, none⟩ = some (.int .i64 d) := by
  unfold MetaAt at h
  simp [World.cell?, h]
theorem MetaAt.frozen {w : World} {pb q : Nat} {r k d : Int} (h : MetaAt w pb q r k d) : w.frozen? ⟨pb, 0, none⟩ = false ∧ w.frozen? ⟨pb, 1, none⟩ = false ∧ w.frozen? ⟨pb, 2, none⟩ = false ∧ w.frozen? ⟨pb, 3, none⟩ = false := by
  unfold MetaAt at h
  simp [World.frozen?, h]
theorem MetaAt.keep {w w' : World} {pb q : Nat} {r k d : Int} (h : MetaAt w pb q r k d) (e : w'.heap[pb]? = w.heap[pb]?) : MetaAt w' pb q r k d := e.trans h
theorem MetaAt.lt {w : World} {pb q : Nat} {r k d : Int} (h : MetaAt w pb q r k d) : pb < w.heap.size := (Array.getElem?_eq_some_iff.1 h).1
theorem spl36 {cur : List Int} (o n x : Nat) (h : cur.length = 36) (ho : o + n ≤ 36) : (splice cur o (be n x)).length = 36 := by
  rw [splice_len _ _ _ (by rw [be_len, h]; exact ho), h]
set_option maxRecDepth 100000 in
set_option maxHeartbeats 4000000 in
theorem mput_any (q : Nat) (r k d : Int) (w : World) (hq : q < 2 ^ 64) :
    Calls Tryd.prog 12 #[.agg #[.int .u64 q, .int .i64 r, .int .i64 k, .int .i64 d]] w fun e w' => e = .returned (.slice (some ⟨w.heap.size + 1, 0, none⟩) 36 36) ∧ Row w' (w.heap.size + 1) (metaB q r k d) ∧ Below w.heap.size w w' := by
  obtain ⟨W0, hmk, hrow0, hpg0, hbe0, hz0⟩ := makeB w 36 (by omega) (.cells #[.int .u64 q, .int .i64 r, .int .i64 k, .int .i64 d] 24)
  replace hmk : (Instr.makeSlice 25 (.int .i64 36) (.int .i64 36)).run Tryd.prog (w.alloc (.cells #[.int .u64 q, .int .i64 r, .int .i64 k, .int .i64 d] 24)) = .ok (.slice (some ⟨w.heap.size + 1, 0, none⟩) 36 36) W0 := hmk
  replace hpg0 : MetaAt W0 w.heap.size q r k d := hpg0
  obtain ⟨p00, p01, p02, p03⟩ := hpg0.cells
  have hr := u64_wrap r
  have hk := u64_wrap k
  have hd := u64_wrap d
  have hrl := u64_lt r
  have hkl := u64_lt k
  have hdl := u64_lt d
  generalize hR : u64 r = R at *
  generalize hK : u64 k = K at *
  generalize hD : u64 d = D at *
  replace hrow0 : Hid _ := hrow0
  have hl0 : (zeros 36).length = 36 := by simp [zeros]
  have hl1 := spl36 0 8 q hl0 (by omega)
  have hl2 := spl36 8 4 R hl1 (by omega)
  have hl3 := spl36 12 8 K hl2 (by omega)
  go_enter Tryd.func12, Tryd.ntmps12
  go_wp2_with fail
  clear hmk hz0
  have hs0 : ∀ W, (Instr.slice 25 (.slice (some ⟨w.heap.size + 1, 0, none⟩) 36 36) (some (.int .i64 0)) (some (.int .i64 8)) none).run Tryd.prog W = .ok (.slice (some ⟨w.heap.size + 1, 0, none⟩) 8 36) W := fun W => cut_mid 36 (w.heap.size + 1) 0 8 (by omega) (by omega) (by omega) W
  go_region_held3 (fun W => W.cell? ⟨w.heap.size, 0, none⟩ = some (.int .u64 q)) (go_keep) (first | (go_at_call 35; refine (layNumber_any (w.heap.size + 1) 0 8 36 q _ _ hq (by rw [hl0]; omega) (by omega) (Row.drew hrow0.out)).mono ?_; rintro e w1 ⟨rfl, hrow1, hg1⟩; have hpg1 : MetaAt w1 w.heap.size q r k d := hpg0.keep (hg1.block _ hpg0.lt (by simp)); obtain ⟨p10, p11, p12, p13⟩ := hpg1.cells))
  have hbe1 := hbe0.drew.grown hg1 hbe0.size (fun k hk => by cases hk; omega)
  replace hrow1 : Hid _ := hrow1
  clear hs0 hpg0 hrow0 hbe0 hg1 p00 p01 p02 p03
  go_wp2_with fail
  have hs1 : ∀ W, (Instr.slice 25 (.slice (some ⟨w.heap.size + 1, 0, none⟩) 36 36) (some (.int .i64 8)) (some (.int .i64 12)) none).run Tryd.prog W = .ok (.slice (some ⟨w.heap.size + 1, 8, none⟩) 4 28) W := fun W => cut_mid 36 (w.heap.size + 1) 8 12 (by omega) (by omega) (by omega) W
  go_region_held3 (fun W => W.cell? ⟨w.heap.size, 1, none⟩ = some (.int .i64 r)) (go_keep) (first | (go_at_call 35; refine (layNumber_any (w.heap.size + 1) 8 4 28 R _ _ hrl (by rw [hl1]; omega) (by omega) (Row.drew hrow1.out)).mono ?_; rintro e w2 ⟨rfl, hrow2, hg2⟩; have hpg2 : MetaAt w2 w.heap.size q r k d := hpg1.keep (hg2.block _ hpg1.lt (by simp)); obtain ⟨p20, p21, p22, p23⟩ := hpg2.cells))
  have hbe2 := hbe1.drew.grown hg2 hbe1.size (fun k hk => by cases hk; omega)
  replace hrow2 : Hid _ := hrow2
  clear hs1 hpg1 hrow1 hbe1 hg2 p10 p11 p12 p13
  go_wp2_with fail
  have hs2 : ∀ W, (Instr.slice 25 (.slice (some ⟨w.heap.size + 1, 0, none⟩) 36 36) (some (.int .i64 12)) (some (.int .i64 20)) none).run Tryd.prog W = .ok (.slice (some ⟨w.heap.size + 1, 12, none⟩) 8 24) W := fun W => cut_mid 36 (w.heap.size + 1) 12 20 (by omega) (by omega) (by omega) W
  go_region_held3 (fun W => W.cell? ⟨w.heap.size, 2, none⟩ = some (.int .i64 k)) (go_keep) (first | (go_at_call 35; refine (layNumber_any (w.heap.size + 1) 12 8 24 K _ _ hkl (by rw [hl2]; omega) (by omega) (Row.drew hrow2.out)).mono ?_; rintro e w3 ⟨rfl, hrow3, hg3⟩; have hpg3 : MetaAt w3 w.heap.size q r k d := hpg2.keep (hg3.block _ hpg2.lt (by simp)); obtain ⟨p30, p31, p32, p33⟩ := hpg3.cells))
  have hbe3 := hbe2.drew.grown hg3 hbe2.size (fun k hk => by cases hk; omega)
  replace hrow3 : Hid _ := hrow3
  clear hs2 hpg2 hrow2 hbe2 hg3 p20 p21 p22 p23
  go_wp2_with fail
  have hs3 : ∀ W, (Instr.slice 25 (.slice (some ⟨w.heap.size + 1, 0, none⟩) 36 36) (some (.int .i64 20)) (some (.int .i64 24)) none).run Tryd.prog W = .ok (.slice (some ⟨w.heap.size + 1, 20, none⟩) 4 16) W := fun W => cut_mid 36 (w.heap.size + 1) 20 24 (by omega) (by omega) (by omega) W
  go_region_held3 (fun W => W.cell? ⟨w.heap.size, 3, none⟩ = some (.int .i64 d)) (go_keep) (first | (go_at_call 35; refine (layNumber_any (w.heap.size + 1) 20 4 16 D _ _ hdl (by rw [hl3]; omega) (by omega) (Row.drew hrow3.out)).mono ?_; rintro e w4 ⟨rfl, hrow4, hg4⟩; have hpg4 : MetaAt w4 w.heap.size q r k d := hpg3.keep (hg4.block _ hpg3.lt (by simp)); obtain ⟨p40, p41, p42, p43⟩ := hpg4.cells))
  have hbe4 := hbe3.drew.grown hg4 hbe3.size (fun k hk => by cases hk; omega)
  replace hrow4 : Hid _ := hrow4
  clear hs3 hpg3 hrow3 hbe3 hg4 p30 p31 p32 p33
  go_wp2_with fail
  have hrow5 : Hid (Row w4 (w.heap.size + 1) (padded 36 (mhead q R K D))) := by
    have := hrow4.out
    rwa [mlay] at this
  have hpl : (padded 36 (mhead q R K D)).length = 36 := padded_len _ _ (by rw [mhead_len]; omega)
  have hmb : Bts w4 (.slice (some ⟨w.heap.size + 1, 0, none⟩) 24 36) (mhead q R K D) := by
    have hll := mhead_len q R K D
    refine ⟨_, 36, by rw [hll], ⟨(fun e => by cases e), by rw [hll]; omega⟩, .inr ⟨w.heap.size + 1, 0, rfl, fun t _ ht => ?_⟩⟩
    rw [hll] at ht
    rw [Nat.zero_add, Row.cell hrow5.out t (by rw [hpl]; omega), mlay_get q R K D t ht]
  have hHb := mhead_bytes q R K D
  have hm := mark_at (w := w4) [.slice (some ⟨w.heap.size + 1, 0, none⟩) 24 36] [mhead q R K D] rfl (by simpa using hHb) (by simp [mhead_len]) (by simp) (by intro t ht; have : t = 0 := by { simp at ht; exact ht }; subst this; exact hmb) 1 rfl (mfold 4294967295 (mhead q R K D)) (by simp)
  have hM := mfold_lt (mhead q R K D) hHb 4294967295 (by decide)
  have HE : Hid (splice (splice (padded 36 (mhead q R K D)) 24 (be 4 (mfold 4294967295 (mhead q R K D)))) 28 (be 8 q) = metaB q r k d) := by
    show _ = _
    unfold metaB
    rw [hR, hK, hD]
    exact mlay_end q R K D
  generalize mfold 4294967295 (mhead q R K D) = M at hm hM HE
  generalize padded 36 (mhead q R K D) = P at hrow5 hpl HE
  have hwM : IntKind.u64.wrap (M : Int) = M := wrap_u64 _ (by omega) (by omega)
  clear hmb hHb hrow4
  have hs4 : ∀ W, (Instr.slice 25 (.slice (some ⟨w.heap.size + 1, 0, none⟩) 36 36) (some (.int .i64 24)) (some (.int .i64 28)) none).run Tryd.prog W = .ok (.slice (some ⟨w.heap.size + 1, 24, none⟩) 4 12) W := fun W => cut_mid 36 (w.heap.size + 1) 24 28 (by omega) (by omega) (by omega) W
  have hs5 : ∀ W, (Instr.slice 25 (.slice (some ⟨w.heap.size + 1, 0, none⟩) 36 36) none (some (.int .i64 24)) none).run Tryd.prog W = .ok (.slice (some ⟨w.heap.size + 1, 0, none⟩) 24 36) W := fun W => by
    have := cut_to 36 (w.heap.size + 1) 24 (by omega) (by omega) W
    unfold slV at this
    exact this
  go_region_held3 (fun _ => True) (trivial) (first | (go_at_call 36; refine (hm _ _ (heap1d _ _) (bel1d _ _)).mono ?_; rintro e w5 ⟨rfl, hw5⟩; subst w5) | (go_at_call 35; refine (layNumber_any (w.heap.size + 1) 24 4 12 M _ _ (by omega) (by rw [hpl]; omega) (by omega) (Row.allocd hrow5.out _)).mono ?_; rintro e w6 ⟨rfl, hrow6, hg6⟩))
  have hz4 := hbe4.size
  have hpg6 : MetaAt w6 w.heap.size q r k d := hpg4.keep ((hg6.block _ (by simp; exact Nat.lt_succ_of_lt hpg4.lt) (by simp)).trans ((heap_alloc w4 _).2 _ hpg4.lt))
  obtain ⟨p60, p61, p62, p63⟩ := hpg6.cells
  have hbe6 := (hbe4.alloc hz4 (.cells #[.slice (some ⟨w.heap.size + 1, 0, none⟩) 24 36] 25)).drew.grown hg6 (by simp; omega) (fun k hk => by cases hk; omega)
  replace hrow6 : Hid _ := hrow6
  clear hs4 hs5 hm hpg4 hbe4 hg6 p40 p41 p42 p43 hrow5
  go_wp2_with fail
  have hs6 : ∀ W, (Instr.slice 25 (.slice (some ⟨w.heap.size + 1, 0, none⟩) 36 36) (some (.int .i64 28)) none none).run Tryd.prog W = .ok (.slice (some ⟨w.heap.size + 1, 28, none⟩) 8 8) W := fun W => by
    obtain ⟨dp, hcut, hdp⟩ := cut_from 36 (w.heap.size + 1) 28 (by omega)
    have := hcut W
    unfold slV at this
    rw [hdp (by omega)] at this
    exact this
  go_region_held3 (fun W => W.cell? ⟨w.heap.size, 0, none⟩ = some (.int .u64 q)) (go_keep) (first | (go_at_call 35; refine (layNumber_any (w.heap.size + 1) 28 8 8 q _ _ hq (by rw [splice_len _ _ _ (by rw [hpl, be_len]; omega), hpl]; omega) (by omega) (Row.drew hrow6.out)).mono ?_; rintro e w7 ⟨rfl, hrow7, hg7⟩; have hpg7 : MetaAt w7 w.heap.size q r k d := hpg6.keep (hg7.block _ hpg6.lt (by simp)); obtain ⟨p70, p71, p72, p73⟩ := hpg7.cells))
  rw [HE.out] at hrow7
  have hbe7 := hbe6.drew.grown hg7 hbe6.size (fun k hk => by cases hk; omega)
  go_wp2_with fail
  go_ret
  exact ⟨rfl, hrow7, hbe7⟩
end Go.Proofs.YtcgjolonapndgabDoor
