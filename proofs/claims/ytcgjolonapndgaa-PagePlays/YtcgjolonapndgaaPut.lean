/- The contract of page.Put. -/
import Derived.Test.YtcgjolonapndgaaNum
import Derived.Deep.RegionHeld3
namespace Go.Proofs.Ytcgjolonapndgaa
open Go.RowKit Go.Maps Go.ChangeMaps Go.MapKept
/-- b[i:j] of a slice of a block. -/
theorem cut_mid (s g i j : Nat) (hi : i ≤ j) (hj : j ≤ s) (h0 : i < s) (W : World) : (Instr.slice 23 (.slice (some ⟨g, 0, none⟩) s s) (some (.int .i64 (i : Int))) (some (.int .i64 (j : Int))) none).run Try.prog W = .ok (.slice (some ⟨g, i, none⟩) (j - i) (s - i)) W := by
  rw [run_slice_lh W 23 (some ⟨g, 0, none⟩) s s elem33 .i64 .i64 i j (by omega) (by omega) (by omega), size5]
  simp only [Result.andThen, sliced, Int.toNat_natCast]
  rw [if_neg (by omega)]
  simp [add_at]
/-- What a struct of type 25 in block pb holds. -/
def PageAt (w : World) (pb : Nat) (kind : Int) (id : Nat) (lv : Value) : Prop := w.heap[pb]? = some (.cells #[.int .u8 kind, .int .u32 id, lv] 25 (0, 0))
theorem PageAt.cells {w : World} {pb : Nat} {kind : Int} {id : Nat} {lv : Value} (h : PageAt w pb kind id lv) : w.cell? ⟨pb, 0, none⟩ = some (.int .u8 kind) ∧ w.cell? ⟨pb, 1, none⟩ = some (.int .u32 id) ∧ w.cell? ⟨pb, 2, none⟩ = some lv := by
  unfold PageAt at h
  simp [World.cell?, h]
theorem PageAt.keep {w w' : World} {pb : Nat} {kind : Int} {id : Nat} {lv : Value} (h : PageAt w pb kind id lv) (e : w'.heap[pb]? = w.heap[pb]?) : PageAt w' pb kind id lv := e.trans h
theorem PageAt.lt {w : World} {pb : Nat} {kind : Int} {id : Nat} {lv : Value} (h : PageAt w pb kind id lv) : pb < w.heap.size := (Array.getElem?_eq_some_iff.1 h).1
/-- make([]byte, n) beside a struct. -/
theorem makeB (w : World) (s : Nat) (hs : s ≤ 1000000) (o : Obj) : ∃ W, (Instr.makeSlice 23 (.int .i64 s) (.int .i64 s)).run Try.prog (w.alloc o) = .ok (.slice (some ⟨w.heap.size + 1, 0, none⟩) s s) W ∧ Row W (w.heap.size + 1) (zeros s) ∧ W.heap[w.heap.size]? = some o ∧ Below w.heap.size w W ∧ W.heap.size = w.heap.size + 2 := by
  have hm := makeZ (w.alloc o) s hs
  rw [World.size_alloc] at hm
  refine ⟨_, hm, ?_, ?_, ((Below.refl _ w).alloc (Nat.le_refl _) _).alloc (by simp) _, by simp⟩
  · have := (heap_alloc (w.alloc o) (.cells ((zeros s).map (Value.int .u8)).toArray 5)).1
    unfold Row
    simpa using this
  · rw [(heap_alloc (w.alloc o) _).2 _ (by simp)]
    exact heap_alloc_new w o
theorem Row.drew {w : World} {g : Nat} {bs : List Int} (h : Row w g bs) : Row w.drew g bs := h
theorem heap1d (w : World) (a : Obj) : (w.alloc a).drew.heap[w.heap.size]? = some a := heap_alloc_new w a
theorem bel1d (w : World) (a : Obj) : Below w.heap.size w (w.alloc a).drew := ((Below.refl _ w).alloc (Nat.le_refl _) a).drew
theorem Row.allocd {w : World} {g : Nat} {bs : List Int} (h : Row w g bs) (o : Obj) : Row (w.alloc o).drew g bs := ((heap_alloc w o).2 g h.lt).trans h
theorem padded_first (s : Nat) (k : Int) (h : 1 ≤ s) : (zeros s).set 0 k = padded s [k] := by
  obtain ⟨n, rfl⟩ : ∃ n, s = n + 1 := ⟨s - 1, by omega⟩
  simp [zeros, padded, List.replicate_succ]
theorem padded_lay (size : Nat) (kind : Int) (id : Nat) (load : List Int) (hl : load.length + 11 ≤ size) : splice (splice (splice ((zeros size).set 0 kind) 1 (be 4 id)) 5 (be 2 load.length)) 7 load = padded size (kind :: (be 4 id ++ be 2 load.length ++ load)) := by
  rw [padded_first _ _ (by omega)]
  have e1 := padded_splice' size [kind] (be 4 id) (by simp [be_len]; omega)
  rw [show [kind].length = 1 from rfl] at e1
  rw [e1]
  have e2 := padded_splice' size ([kind] ++ be 4 id) (be 2 load.length) (by simp [be_len]; omega)
  rw [show ([kind] ++ be 4 id).length = 5 by simp [be_len]] at e2
  rw [e2]
  have e3 := padded_splice' size ([kind] ++ be 4 id ++ be 2 load.length) load (by simp [be_len]; omega)
  rw [show ([kind] ++ be 4 id ++ be 2 load.length).length = 7 by simp [be_len]] at e3
  rw [e3]
  simp
theorem padded_take (size : Nat) (kind : Int) (id : Nat) (load : List Int) (hl : load.length + 11 ≤ size) : (padded size (kind :: (be 4 id ++ be 2 load.length ++ load))).take (size - 4) = laid size kind id load := by
  have hX : (kind :: (be 4 id ++ be 2 load.length ++ load)).length = load.length + 7 := by simp [be_len]; omega
  unfold padded laid zeros zs
  rw [List.take_append, List.take_of_length_le (by omega), hX, List.take_replicate]
  simp only [List.cons_append, List.append_assoc]
  congr 5
  omega
theorem splice_end (z q : List Int) (n : Nat) (hz : z.length = n + q.length) : splice z n q = z.take n ++ q := by
  unfold splice
  rw [List.drop_eq_nil_of_le (by omega)]; simp
theorem Bts.split {w : World} {v : Value} {bs : List Int} (hb : Bts w v bs) : ∃ a c, v = .slice a bs.length c := by
  obtain ⟨a, c, h, _⟩ := hb
  exact ⟨a, c, h⟩
set_option maxRecDepth 100000 in
set_option maxHeartbeats 4000000 in
theorem put_ok (size : Nat) (kind : Int) (id : Nat) (lv : Value) (load : List Int) (w : World) (h1 : 64 ≤ size) (h2 : size ≤ 8192) (hk : 0 < kind ∧ kind < 256) (hid : id < 2 ^ 32) (hb : Bts w lv load) (hby : IsBytes load) (hl : load.length + 11 ≤ size) :
    Calls Try.prog 10 #[.int .i64 size, .agg #[.int .u8 kind, .int .u32 id, lv]] w fun e w' => e = .returned (.tuple #[.slice (some ⟨w.heap.size + 1, 0, none⟩) size size, .int .i64 0]) ∧ Row w' (w.heap.size + 1) (pageB size kind id load) ∧ Below w.heap.size w w' := by
  obtain ⟨a, c, rfl⟩ := hb.split
  have d1 : (kind == 0) = false := by simp; omega
  obtain ⟨W0, hmk, hrow0, hpg0, hbe0, hz0⟩ := makeB w size (by omega) (.cells #[.int .u8 kind, .int .u32 id, .slice a load.length c] 25)
  have hlt : decide (((size : Int) - 11) < (load.length : Int)) = false := by simp; omega
  have hc0 := hrow0.cell 0 (by simp [zeros]; omega)
  have hf0 := hrow0.frozen 0
  have hb0 := hb.grow hbe0
  replace hpg0 : PageAt W0 w.heap.size kind id (.slice a load.length c) := hpg0
  obtain ⟨p00, p01, p02⟩ := hpg0.cells
  have hrow1 := hrow0.set (p := 0) kind
  have hpg1 : PageAt (W0.setCell ⟨w.heap.size + 1, 0, none⟩ (.int .u8 kind)) w.heap.size kind id (.slice a load.length c) := hpg0.keep (Below.heap_setCell _ _ _ _ (by simp))
  have hbe1 := hbe0.setCell (p := ⟨w.heap.size + 1, 0, none⟩) (by simp) (.int .u8 kind)
  have HL : Hid (splice (splice (splice ((zeros size).set 0 kind) 1 (be 4 id)) 5 (be 2 load.length)) 7 load = padded size (kind :: (be 4 id ++ be 2 load.length ++ load))) := padded_lay size kind id load hl
  have HT : Hid ((padded size (kind :: (be 4 id ++ be 2 load.length ++ load))).take (size - 4) = laid size kind id load) := padded_take size kind id load hl
  have hLb := laid_bytes size kind id load ⟨by omega, hk.2⟩ hby
  replace hrow0 : Hid _ := hrow0
  replace hrow1 : Hid _ := hrow1
  clear hpg0 hbe0
  go_enter Try.func10, Try.ntmps10
  go_wp2_with (first | (go_at_call 16; refine (room_ok _ _ (by omega) (by omega)).mono ?_; rintro e w' ⟨rfl, hw'⟩; subst w'))
  generalize W0.setCell ⟨w.heap.size + 1, 0, none⟩ (.int .u8 kind) = W1 at hrow1 hpg1 hbe1 ⊢
  clear hrow0 hmk hc0 hf0 p00 p01 p02 hb0 hz0
  obtain ⟨p10, p11, p12⟩ := hpg1.cells
  have hwid : IntKind.u64.wrap (id : Int) = id := wrap_u64 _ (by omega) (by omega)
  have hs1 : ∀ W, (Instr.slice 23 (.slice (some ⟨w.heap.size + 1, 0, none⟩) size size) (some (.int .i64 1)) (some (.int .i64 5)) none).run Try.prog W = .ok (.slice (some ⟨w.heap.size + 1, 1, none⟩) 4 (size - 1)) W := fun W => cut_mid size (w.heap.size + 1) 1 5 (by omega) (by omega) (by omega) W
  go_region_held3 (fun W => W.cell? ⟨w.heap.size, 1, none⟩ = some (.int .u32 id)) (go_keep) (first | (go_at_call 36; refine (layNumber_any (w.heap.size + 1) 1 4 (size - 1) id _ _ (by omega) (by simp [zeros]; omega) (by omega) (Row.drew hrow1.out)).mono ?_; rintro e w2 ⟨rfl, hrow2, hg2⟩; have hpg2 : PageAt w2 w.heap.size kind id (.slice a load.length c) := hpg1.keep (hg2.block _ hpg1.lt (by simp)); obtain ⟨p20, p21, p22⟩ := hpg2.cells))
  have hbe2 := hbe1.drew.grown hg2 hbe1.size (fun k hk => by cases hk; omega)
  replace hrow2 : Hid _ := hrow2
  have hs2 : ∀ W, (Instr.slice 23 (.slice (some ⟨w.heap.size + 1, 0, none⟩) size size) (some (.int .i64 5)) (some (.int .i64 7)) none).run Try.prog W = .ok (.slice (some ⟨w.heap.size + 1, 5, none⟩) 2 (size - 5)) W := fun W => cut_mid size (w.heap.size + 1) 5 7 (by omega) (by omega) (by omega) W
  have hw : IntKind.u64.wrap (load.length : Int) = load.length := wrap_u64 _ (by omega) (by omega)
  clear hs1 hpg1 hrow1 hbe1 hg2 p10 p11 p12
  go_wp2_with fail
  go_region_held3 (fun W => W.cell? ⟨w.heap.size, 2, none⟩ = some (.slice a load.length c)) (go_keep) (first | (go_at_call 36; refine (layNumber_any (w.heap.size + 1) 5 2 (size - 5) load.length _ _ (by omega) (by rw [splice_len _ _ _ (by simp [zeros, be_len]; omega)]; simp [zeros]; omega) (by omega) (Row.drew hrow2.out)).mono ?_; rintro e w3 ⟨rfl, hrow3, hg3⟩; have hpg3 : PageAt w3 w.heap.size kind id (.slice a load.length c) := hpg2.keep (hg3.block _ hpg2.lt (by simp)); obtain ⟨p30, p31, p32⟩ := hpg3.cells))
  have hbe3 := hbe2.drew.grown hg3 hbe2.size (fun k hk => by cases hk; omega)
  replace hrow3 : Hid _ := hrow3
  have hsl : (splice (splice ((zeros size).set 0 kind) 1 (be 4 id)) 5 (be 2 load.length)).length = size := by
    rw [splice_len _ _ _ (by rw [splice_len _ _ _ (by simp [zeros, be_len]; omega)]; simp [zeros, be_len]; omega), splice_len _ _ _ (by simp [zeros, be_len]; omega)]; simp [zeros]
  obtain ⟨dp, hcut, hdp⟩ := cut_from size (w.heap.size + 1) 7 (by omega)
  unfold slV at hcut
  replace hcut : ∀ W, (Instr.slice 23 (.slice (some ⟨w.heap.size + 1, 0, none⟩) size size) (some (.int .i64 7)) none none).run Try.prog W = .ok (.slice dp (size - 7) (size - 7)) W := hcut
  have hb3 := hb.grow hbe3
  obtain ⟨a', c', ev, _, hcell3⟩ := hb3
  cases ev
  obtain ⟨w4, hcp, hrow4, hbe4, hg4⟩ := copyR (w := w3.drew) (w0 := w) (B := w.heap.size) dp a (size - 7) (size - 7) c (w.heap.size + 1) 7 _ load (by omega) (Row.drew hrow3.out) hbe3.drew (by omega) (fun _ => hdp (by omega)) (by rw [hsl]; omega) hcell3
  have hpg4 : PageAt w4 w.heap.size kind id (.slice a load.length c) := hpg3.keep (hg4.block _ hpg3.lt (by simp))
  obtain ⟨p40, p41, p42⟩ := hpg4.cells
  rw [HL.out] at hrow4
  replace hrow4 : Hid _ := hrow4
  clear hs2 hpg2 hrow2 hbe2 hg3 p20 p21 p22 hcell3 hsl
  go_wp2_with fail
  go_region_held3 (fun W => W.cell? ⟨w.heap.size, 2, none⟩ = some (.slice a load.length c)) (go_keep) (fail)
  clear hcut hdp hrow3 hbe3 hpg3 hg4 p30 p31 p32 hcp
  have hcast : (size : Int) - 4 = ((size - 4 : Nat) : Int) := by omega
  have hs3 : ∀ W, (Instr.slice 23 (.slice (some ⟨w.heap.size + 1, 0, none⟩) size size) (some (.int .i64 ((size : Int) - 4))) none none).run Try.prog W = .ok (.slice (some ⟨w.heap.size + 1, size - 4, none⟩) 4 4) W := fun W => by
    obtain ⟨dp, hcut, hdp⟩ := cut_from size (w.heap.size + 1) (size - 4) (by omega)
    have := hcut W
    unfold slV at this
    rw [hcast, this, hdp (by omega), show size - (size - 4) = 4 by omega]
  have hs4 : ∀ W, (Instr.slice 23 (.slice (some ⟨w.heap.size + 1, 0, none⟩) size size) none (some (.int .i64 ((size : Int) - 4))) none).run Try.prog W = .ok (.slice (some ⟨w.heap.size + 1, 0, none⟩) (size - 4) size) W := fun W => by
    have := cut_to size (w.heap.size + 1) (size - 4) (by omega) (by omega) W
    unfold slV at this
    rw [hcast, this]
  have hpl : (padded size (kind :: (be 4 id ++ be 2 load.length ++ load))).length = size := padded_len _ _ (by simp [be_len]; omega)
  have hmb : Bts w4 (.slice (some ⟨w.heap.size + 1, 0, none⟩) (size - 4) size) (laid size kind id load) := by
    have hll := laid_len size kind id load hl
    refine ⟨_, size, by rw [hll], ⟨(fun e => by cases e), by rw [hll]; omega⟩, .inr ⟨w.heap.size + 1, 0, rfl, fun t _ ht => ?_⟩⟩
    rw [hll] at ht
    rw [Nat.zero_add, Row.cell hrow4.out t (by rw [hpl]; omega), ← HT.out]
    simp [ht]
  have hm := mark_at (w := w4) [.slice (some ⟨w.heap.size + 1, 0, none⟩) (size - 4) size] [laid size kind id load] rfl (by simpa using hLb) (by simp [laid_len _ _ _ _ hl]; omega) (by simp) (by intro t ht; have : t = 0 := by { simp at ht; exact ht }; subst this; exact hmb) 1 rfl (mfold 4294967295 (laid size kind id load)) (by simp)
  have hM := mfold_lt (laid size kind id load) hLb 4294967295 (by decide)
  have HE : Hid (splice (padded size (kind :: (be 4 id ++ be 2 load.length ++ load))) (size - 4) (be 4 (mfold 4294967295 (laid size kind id load))) = pageB size kind id load) := by
    show _ = _
    rw [splice_end _ _ _ (by rw [hpl, be_len]; omega), HT.out]; rfl
  generalize mfold 4294967295 (laid size kind id load) = M at hm hM HE
  have h44 : size - (size - 4) = 4 := by omega
  have hwM : IntKind.u64.wrap (M : Int) = M := wrap_u64 _ (by omega) (by omega)
  clear hmb HT HL hLb
  go_wp2_with fail
  go_region_held3 (fun _ => True) (trivial) (first | (go_at_call 37; refine (hm _ _ (heap1d _ _) (bel1d _ _)).mono ?_; rintro e w5 ⟨rfl, hw5⟩; subst w5) | (go_at_call 36; refine (layNumber_any (w.heap.size + 1) (size - 4) 4 4 M _ _ (by omega) (by rw [hpl]; omega) (by omega) (Row.allocd hrow4.out _)).mono ?_; rintro e w6 ⟨rfl, hrow6, hg6⟩))
  rw [HE.out] at hrow6
  replace hrow6 : Hid _ := hrow6
  have hz4 := hbe4.size
  have hbe6 := (hbe4.alloc hz4 (.cells #[.slice (some ⟨w.heap.size + 1, 0, none⟩) (size - 4) size] 23)).drew.grown hg6 (by simp; omega) (fun k hk => by cases hk; omega)
  go_wp2_with fail
  go_ret2
  exact ⟨rfl, hrow6.out, hbe6⟩
end Go.Proofs.Ytcgjolonapndgaa
