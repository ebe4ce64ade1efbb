/- The contract of page.Get. -/
import Derived.Test.YtcgjolonapndgaaLib
import Derived.Deep.CutBlock
import Derived.Deep.DeepCutAuto
namespace Go.Proofs.Ytcgjolonapndgaa
open Go.RowKit Go.Maps Go.ChangeMaps Go.MapKept
/-- v[i:j] of a slice that is read. -/
theorem cut_any (b o n c i j : Nat) (hi : i ≤ j) (hj : j ≤ n) (hn : n ≤ c) (h0 : i < c) (W : World) : (Instr.slice 23 (.slice (some ⟨b, o, none⟩) n c) (some (.int .i64 (i : Int))) (some (.int .i64 (j : Int))) none).run Try.prog W = .ok (.slice (some ⟨b, o + i, none⟩) (j - i) (c - i)) W := by
  rw [run_slice_lh W 23 (some ⟨b, o, none⟩) n c elem33 .i64 .i64 i j (by omega) (by omega) (by omega), size5]
  simp only [Result.andThen, sliced, Int.toNat_natCast]
  rw [if_neg (by omega)]
  simp [add_at]
/-- &v[0]. -/
theorem at_zero (b o n c : Nat) (h : 0 < n) (W : World) : (Instr.indexAt 23 (.slice (some ⟨b, o, none⟩) n c) (.int .i64 0)).run Try.prog W = .ok (.pointer (some ⟨b, o, none⟩)) W := by
  rw [run_indexAt_slice W 23 ⟨b, o, none⟩ n c .i64 0 elem33, if_pos (by omega), size5]
  simp [Result.andThen, add_at]
theorem rest_cut {w : World} {bs : List Int} {b o : Nat} (h : Rest w 0 bs.length b o fun t => .int .u8 (bs.getD t 0)) (i n : Nat) (hi : i + n ≤ bs.length) : Rest w 0 ((bs.drop i).take n).length b (o + i) fun t => .int .u8 (((bs.drop i).take n).getD t 0) := by
  intro t _ ht
  have hl : ((bs.drop i).take n).length = n := by simp; omega
  rw [hl] at ht
  have := h (i + t) (Nat.zero_le _) (by omega)
  rw [Nat.add_assoc, this]
  simp [ht]
theorem bts_cut {w : World} {bs : List Int} {b o c : Nat} (hc : bs.length ≤ c) (h : Rest w 0 bs.length b o fun t => .int .u8 (bs.getD t 0)) (i n : Nat) (hi : i + n ≤ bs.length) : Bts w (.slice (some ⟨b, o + i, none⟩) n (c - i)) ((bs.drop i).take n) := by
  have hl : ((bs.drop i).take n).length = n := by simp; omega
  exact ⟨_, c - i, by rw [hl], ⟨(fun e => by cases e), by rw [hl]; omega⟩, .inr ⟨b, o + i, rfl, rest_cut h i n hi⟩⟩
theorem heap2 (w : World) (a b : Obj) : ((w.alloc a).alloc b).drew.heap[w.heap.size + 1]? = some b := by
  show ((w.heap.push a).push b)[w.heap.size + 1]? = _
  simp only [Array.getElem?_push, Array.size_push]; rw [if_pos trivial]
theorem PageAt.frozen {w : World} {pb : Nat} {kind : Int} {id : Nat} {lv : Value} (h : PageAt w pb kind id lv) : w.frozen? ⟨pb, 0, none⟩ = false ∧ w.frozen? ⟨pb, 1, none⟩ = false ∧ w.frozen? ⟨pb, 2, none⟩ = false := by
  unfold PageAt at h
  simp [World.frozen?, h]
theorem heap2f (w : World) (a b : Obj) : ((w.alloc a).alloc b).drew.heap[w.heap.size]? = some a := by
  show ((w.heap.push a).push b)[w.heap.size]? = _
  simp [Array.getElem?_push]
theorem pageSet {w : World} {x : Nat} {k k2 : Int} {i i2 : Nat} {v v2 : Value} (h : PageAt w x k i v) : PageAt (((w.setCell ⟨x, 0, none⟩ (.int .u8 k2)).setCell ⟨x, 1, none⟩ (.int .u32 i2)).setCell ⟨x, 2, none⟩ v2) x k2 i2 v2 := by
  have h1 := block_setCell (i := 0) (u := .int .u8 k2) h
  have h2 := block_setCell (i := 1) (u := .int .u32 i2) h1
  have h3 := block_setCell (i := 2) (u := v2) h2
  unfold PageAt
  rw [h3]
  simp
theorem setThree {w : World} {x k : Nat} (a b c : Value) (h : k ≠ x) : (((w.setCell ⟨x, 0, none⟩ a).setCell ⟨x, 1, none⟩ b).setCell ⟨x, 2, none⟩ c).heap[k]? = w.heap[k]? := by
  rw [Below.heap_setCell _ _ _ _ h, Below.heap_setCell _ _ _ _ h, Below.heap_setCell _ _ _ _ h]
theorem Own.grow {w W : World} {base : Nat} {v : Value} {xs : List Int} (h : Own w base v xs) (hb : Below w.heap.size w W) : Own W base v xs :=
  World.ownsRow.kept h (row := none) ⟨hb.os, hb.tape, hb.output, hb.size, fun k hk _ => hb.block k hk⟩ (by cases v.ownBlock <;> simp)
theorem numberOf_at (bs : List Int) (n b o c : Nat) (w : World) (hn : bs.length = n) (hby : IsBytes bs) (hlen : n ≤ 8) (hcell : Rest w 0 bs.length b o fun t => .int .u8 (bs.getD t 0)) :
    Calls Try.prog 39 #[.slice (some ⟨b, o, none⟩) n c] w fun e w' => e = .returned (.int .u64 (ofBe bs)) ∧ w' = w := by
  subst hn
  exact numberOf_some bs b o c w hby hlen hcell
theorem Rest.grow {w W : World} {n b o : Nat} {f : Nat → Value} (h : Rest w 0 n b o f) (hb : Below w.heap.size w W) : Rest W 0 n b o f := fun t h0 ht => by
  have := h t h0 ht
  exact (hb.cell (p := ⟨b, o + t, none⟩) (World.block_lt_of_cell? w _ this)).trans this
theorem hb_cell {w W : World} {b o : Nat} {v : Value} (h : Below w.heap.size w W) (hc : w.cell? ⟨b, o, none⟩ = some v) : W.cell? ⟨b, o, none⟩ = some v := (h.cell (p := ⟨b, o, none⟩) (World.block_lt_of_cell? w _ hc)).trans hc
theorem keepB {w W : World} {b o : Nat} {v : Value} (hc : w.cell? ⟨b, o, none⟩ = some v) (h : Below w.heap.size w W) : Below w.heap.size w W ∧ W.cell? ⟨b, o, none⟩ = some v :=
  ⟨h, (hb_cell h hc)⟩
set_option maxRecDepth 100000 in
set_option maxHeartbeats 1000000 in
theorem get_size (v : Value) (bs : List Int) (w : World) (hb : Bts w v bs) (h : bs.length < 64 ∨ 8192 < bs.length) :
    Calls Try.prog 12 #[v] w fun e w' => e = .returned (.tuple #[.agg #[.int .u8 0, .int .u32 0, .slice none 0 0], .int .i64 30]) ∧ Below w.heap.size w w' := by
  have hlen := len_bts hb
  go_enter Try.func12, Try.ntmps12
  go_wp2_with (first | (go_at_call 16; refine (room_bad _ _ (by omega)).mono ?_; rintro e w' ⟨rfl, hw'⟩; subst w'))
  exact bodyPost_ret (v := .tuple #[.agg #[.int .u8 0, .int .u32 0, .slice none 0 0], .int .i64 30]) (by simp [results, Try.results12, go_sem]) rfl ⟨rfl, (Below.refl _ _).alloc (Nat.le_refl _) _⟩
set_option maxRecDepth 100000 in
set_option maxHeartbeats 1000000 in
theorem get_long (v : Value) (bs : List Int) (w : World) (hb : Bts w v bs) (hby : IsBytes bs) (h1 : 64 ≤ bs.length) (h2 : bs.length ≤ 8192) (h3 : bs.length < lenOf bs + 11) :
    Calls Try.prog 12 #[v] w fun e w' => e = .returned (.tuple #[.agg #[.int .u8 0, .int .u32 0, .slice none 0 0], .int .i64 30]) ∧ Below w.heap.size w w' := by
  obtain ⟨a, c, rfl, ⟨_, hc⟩, hr⟩ := hb
  rcases hr with rfl | ⟨b, o, rfl, hr⟩
  · simp at h1
  have hs57 : ∀ W, (Instr.slice 23 (.slice (some ⟨b, o, none⟩) bs.length c) (some (.int .i64 5)) (some (.int .i64 7)) none).run Try.prog W = .ok (.slice (some ⟨b, o + 5, none⟩) 2 (c - 5)) W := fun W => cut_any b o bs.length c 5 7 (by omega) (by omega) hc (by omega) W
  have hr5 := (rest_cut hr 5 2 (by omega)).grow ((Below.refl _ w).alloc (Nat.le_refl _) (.cells #[.int .u8 0, .int .u32 0, .slice none 0 0] 25))
  have hl5 : ((bs.drop 5).take 2).length = 2 := by simp; omega
  have hlt := ofBe_lt ((bs.drop 5).take 2) ((hby.drop 5).take 2)
  rw [hl5] at hlt
  have hnum := numberOf_at ((bs.drop 5).take 2) 2 b (o + 5) (c - 5) _ hl5 ((hby.drop 5).take 2) (by omega) hr5
  unfold lenOf at h3
  generalize ofBe ((bs.drop 5).take 2) = L at h3 hlt hnum
  have h3' : (bs.length : Int) - 11 < (L : Int) := by omega
  have hwL : IntKind.i64.wrap (L : Int) = L := by rw [IntKind.wrap_i64]; omega
  clear hr5 hr hl5
  go_enter Try.func12, Try.ntmps12
  go_wp2_with (first | (go_at_call 16; refine (room_ok _ _ (by omega) (by omega)).mono ?_; rintro e w' ⟨rfl, hw'⟩; subst w') | (go_at_call 39; refine hnum.mono ?_; rintro e w' ⟨rfl, hw'⟩; subst w'))
  exact bodyPost_ret (v := .tuple #[.agg #[.int .u8 0, .int .u32 0, .slice none 0 0], .int .i64 30]) (by simp [results, Try.results12, go_sem]) rfl ⟨rfl, (Below.refl _ _).alloc (Nat.le_refl _) _⟩
set_option maxRecDepth 100000 in
set_option maxHeartbeats 4000000 in
/-- Put's answer within Get: what it may be. -/
theorem get_main (v : Value) (bs : List Int) (w : World) (hb : Bts w v bs) (hby : IsBytes bs) (h1 : 64 ≤ bs.length) (h2 : bs.length ≤ 8192) (h3 : lenOf bs + 11 ≤ bs.length) :
    Calls Try.prog 12 #[v] w fun e w' => (isPage bs = false → e = .returned (.tuple #[.agg #[.int .u8 0, .int .u32 0, .slice none 0 0], .int .i64 30])) ∧ (isPage bs = true → ∃ lv, e = .returned (.tuple #[.agg #[.int .u8 (kindOf bs), .int .u32 (idOf bs), lv], .int .i64 0]) ∧ (∃ base, w.heap.size ≤ base ∧ Own w' base lv (loadOf bs))) ∧ Below w.heap.size w w' := by
  have hbv := hb
  obtain ⟨a, c, rfl, ⟨_, hc⟩, hr⟩ := hb
  rcases hr with rfl | ⟨b, o, rfl, hr⟩
  · simp at h1
  have hs57 : ∀ W, (Instr.slice 23 (.slice (some ⟨b, o, none⟩) bs.length c) (some (.int .i64 5)) (some (.int .i64 7)) none).run Try.prog W = .ok (.slice (some ⟨b, o + 5, none⟩) 2 (c - 5)) W := fun W => cut_any b o bs.length c 5 7 (by omega) (by omega) hc (by omega) W
  have hs15 : ∀ W, (Instr.slice 23 (.slice (some ⟨b, o, none⟩) bs.length c) (some (.int .i64 1)) (some (.int .i64 5)) none).run Try.prog W = .ok (.slice (some ⟨b, o + 1, none⟩) 4 (c - 1)) W := fun W => cut_any b o bs.length c 1 5 (by omega) (by omega) hc (by omega) W
  have hl5 : ((bs.drop 5).take 2).length = 2 := by simp; omega
  have hl1 : ((bs.drop 1).take 4).length = 4 := by simp; omega
  have hlt := ofBe_lt ((bs.drop 5).take 2) ((hby.drop 5).take 2)
  rw [hl5] at hlt
  have hit := ofBe_lt ((bs.drop 1).take 4) ((hby.drop 1).take 4)
  rw [hl1] at hit
  have hnum5 : ∀ W, Below w.heap.size w W → Calls Try.prog 39 #[.slice (some ⟨b, o + 5, none⟩) 2 (c - 5)] W fun e w' => e = .returned (.int .u64 (lenOf bs)) ∧ w' = W := fun W hW => numberOf_at ((bs.drop 5).take 2) 2 b (o + 5) (c - 5) W hl5 ((hby.drop 5).take 2) (by omega) ((rest_cut hr 5 2 (by omega)).grow hW)
  have hnum1 : ∀ W, Below w.heap.size w W → Calls Try.prog 39 #[.slice (some ⟨b, o + 1, none⟩) 4 (c - 1)] W fun e w' => e = .returned (.int .u64 (idOf bs)) ∧ w' = W := fun W hW => numberOf_at ((bs.drop 1).take 4) 4 b (o + 1) (c - 1) W hl1 ((hby.drop 1).take 4) (by omega) ((rest_cut hr 1 4 (by omega)).grow hW)
  have hs7 : ∀ W, (Instr.slice 23 (.slice (some ⟨b, o, none⟩) bs.length c) (some (.int .i64 7)) (some (.int .i64 (7 + (lenOf bs : Int)))) none).run Try.prog W = .ok (.slice (some ⟨b, o + 7, none⟩) (lenOf bs) (c - 7)) W := fun W => by
    have := cut_any b o bs.length c 7 (7 + lenOf bs) (by omega) (by omega) hc (by omega) W
    rw [show 7 + lenOf bs - 7 = lenOf bs by omega] at this
    rw [← this]
    congr 6
  have hcl : ∀ W, Below w.heap.size w W → Calls Try.prog 40 #[.slice (some ⟨b, o + 7, none⟩) (lenOf bs) (c - 7)] W fun e w' => ∃ v', e = .returned v' ∧ Own w' W.heap.size v' (loadOf bs) ∧ Below W.heap.size W w' := fun W hW => clone_some b (o + 7) (lenOf bs) (c - 7) (loadOf bs) W (by simp [loadOf]; omega) (by simp [loadOf]; omega) ((bts_cut hc hr 7 (lenOf bs) (by omega)).grow hW)
  have hc0 : w.cell? ⟨b, o, none⟩ = some (.int .u8 (kindOf bs)) := hr 0 (Nat.zero_le _) (by omega)
  have hLL : (loadOf bs).length = lenOf bs := by simp [loadOf]; omega
  have hLb : IsBytes (loadOf bs) := (hby.drop 7).take _
  have hkb := hby _ (getD_mem bs 0 0 (by omega))
  replace hkb : 0 ≤ kindOf bs ∧ kindOf bs < 256 := hkb
  have hPG : Hid (isPage bs = decide (kindOf bs ≠ 0 ∧ pageB bs.length (kindOf bs) (idOf bs) (loadOf bs) = bs)) := by
    show _ = _
    unfold isPage
    simp only [h1, h2, h3, true_and]
  replace hlt : lenOf bs < 65536 := hlt
  replace hit : idOf bs < 2 ^ 32 := hit
  generalize kindOf bs = K at *
  generalize idOf bs = I at *
  generalize loadOf bs = Ld at *
  generalize lenOf bs = L at *
  have h3' : decide ((bs.length : Int) - 11 < (L : Int)) = false := by simp; omega
  have h0n : (0 : Int) < (bs.length : Int) := by omega
  have hwI : IntKind.u32.wrap (I : Int) = I := wrap_u32 _ (by omega) (by omega)
  have hwL : IntKind.i64.wrap (L : Int) = L := by rw [IntKind.wrap_i64]; omega
  have hix := at_zero b o bs.length c (by omega)
  have hw7 : IntKind.i64.wrap (7 + (L : Int)) = 7 + (L : Int) := by rw [IntKind.wrap_i64]; omega
  have hBA : ∀ o, Below w.heap.size w (w.alloc o) := fun o => (Below.refl _ _).alloc (Nat.le_refl _) _
  go_enter Try.func12, Try.ntmps12
  go_wp2_with (first | (go_at_call 16; refine (room_ok _ _ (by omega) (by omega)).mono ?_; rintro e w' ⟨rfl, hw'⟩; subst w') | (go_at_call 39; refine (hnum5 _ (hBA _)).mono ?_; rintro e w' ⟨rfl, hw'⟩; subst w'))
  have hB0 := hBA (.cells #[.int .u8 0, .int .u32 0, .slice none 0 0] 25)
  have hB01 := (hB0.alloc (by simp) (.cells #[.int .u8 0, .int .u32 0, .slice none 0 0] 25)).drew
  have px := heap2 w (.cells #[.int .u8 0, .int .u32 0, .slice none 0 0] 25) (.cells #[.int .u8 0, .int .u32 0, .slice none 0 0] 25)
  have px1 := heap2f w (.cells #[.int .u8 0, .int .u32 0, .slice none 0 0] 25) (.cells #[.int .u8 0, .int .u32 0, .slice none 0 0] 25)
  have px0 := heap1d w (.cells #[.int .u8 0, .int .u32 0, .slice none 0 0] 25)
  clear hnum5 hr hs57
  go_cut [6] (fun x6 wc => ∃ (xb base : Nat) (lv : Value), x6 = .pointer (some ⟨xb, 0, none⟩) ∧ PageAt wc xb K I lv ∧ Own wc base lv Ld ∧ w.heap.size + 1 ≤ base ∧ PageAt wc w.heap.size 0 0 (.slice none 0 0) ∧ w.heap.size < xb ∧ Below w.heap.size w wc)
  case first =>
    go_region_held3 (fun W => Below w.heap.size w W ∧ W.cell? ⟨b, o, none⟩ = some (.int .u8 K)) (first | exact keepB hc0 hB0 | exact keepB hc0 hB0.drew | exact keepB hc0 hB01 | exact keepB hc0 (by assumption) | exact keepB hc0 (((hB2.setCell (by simp) _).setCell (by simp) _).setCell (by simp) _) | exact keepB hc0 (hB2.alloc hB2.size _) | exact keepB hc0 (Below.drew (And.left (by assumption)))) (first | (go_at_call 39; refine (hnum1 _ (by first | assumption | exact hB0.drew | exact hB01 | exact And.left (by assumption))).mono ?_; rintro e w' ⟨rfl, hw'⟩; subst w') | (go_at_call 40; refine (hcl _ (by first | assumption | exact hB0.drew | exact hB01 | exact And.left (by assumption))).mono ?_; rintro e w2 ⟨v2, rfl, ho2, hb2⟩; obtain ⟨a2, c2, rfl⟩ := ho2.bts.split; have hB2 : Below w.heap.size w w2 := Below.trans (by first | assumption | exact hB0.drew | exact hB01 | exact And.left (by assumption)) (hb2.mono (by first | (simp; done) | (simp; omega))); have hr2 : PageAt w2 w.heap.size 0 0 (.slice none 0 0) := (hb2.block _ (by first | (simp; done) | (simp; omega))).trans (by first | exact px1 | exact px0); (first | (have hx2 : PageAt w2 (w.heap.size + 1) 0 0 (.slice none 0 0) := (hb2.block _ (by simp)).trans px; obtain ⟨x20, x21, x22⟩ := hx2.cells; obtain ⟨y20, y21, y22⟩ := hx2.frozen) | skip)))
    all_goals
      go_wp2_with fail
      go_meet
      case rel =>
        rw [hLL] at ho2
        first
        | exact ⟨_, _, _, rfl, pageSet hx2, ownsRow_setCell_below (ownsRow_setCell_below (ownsRow_setCell_below ho2 (by simp) _) (by simp) _) (by simp) _, by simp, hr2.keep (setThree _ _ _ (by omega)), by omega, ((hB2.setCell (by simp) _).setCell (by simp) _).setCell (by simp) _⟩
        | exact ⟨w2.heap.size, _, _, rfl, heap_alloc_new _ _, World.ownsRow.alloc ho2 _, by simp, hr2.keep ((heap_alloc w2 _).2 _ hr2.lt), hr2.lt, hB2.alloc hB2.size _⟩
  case rest =>
    obtain ⟨xb, base, lv, rfl, hpx, hol, hbase, hres, hxb, hBc⟩ := hcut
    obtain ⟨al, cl, hlv⟩ := hol.bts.split
    rw [hLL] at hlv
    subst hlv
    obtain ⟨c60, c61, c62⟩ := hpx.cells
    clear hB0 hB01 px px0 px1 hcl hs15 hs7 hnum1 hc0 hix hw7
    by_cases hK : K = 0
    · subst hK
      have hP : isPage bs = false := by rw [hPG.out]; simp
      go_wp2_with (first | (go_at_call 10; refine (put_kind _ _ _ _).mono ?_; rintro e w3 ⟨rfl, hb3⟩; have hr3 : PageAt w3 w.heap.size 0 0 (.slice none 0 0) := hres.keep (hb3.block _ hres.lt); obtain ⟨x30, x31, x32⟩ := hr3.cells; obtain ⟨y30, y31, y32⟩ := hr3.frozen))
      have hz3 := hBc.size
      have hB3 := hBc.trans (hb3.mono hz3)
      refine bodyPost_ret (v := .tuple #[.agg #[.int .u8 0, .int .u32 0, .slice none 0 0], .int .i64 30]) (by simp [results, Try.results12, go_sem, x30, x31, x32]) rfl ⟨fun _ => rfl, fun h => ?_, ((hB3.setCell (Nat.le_refl _) _).setCell (Nat.le_refl _) _).setCell (Nat.le_refl _) _⟩
      rw [hP] at h; cases h
    · have hput := fun W => put_ok bs.length K I (.slice al L cl) Ld W h1 h2 ⟨by omega, hkb.2⟩ hit
      have hbl := hol.bts
      have hbc := hbv.grow hBc
      have hPb := pageB_bytes bs.length K I Ld hkb hLb
      by_cases hE : pageB bs.length K I Ld = bs
      · have hP : isPage bs = true := by rw [hPG.out]; simp [hK, hE]
        have hdE : decide (pageB bs.length K I Ld = bs) = true := by simp [hE]
        go_wp2_with (first
          | (go_at_call 10; refine (hput _ hbl hLb (by omega)).mono ?_; rintro e w3 ⟨rfl, hrow3, hb3⟩; have hr3 : PageAt w3 w.heap.size 0 0 (.slice none 0 0) := hres.keep (hb3.block _ hres.lt); have hx3 : PageAt w3 xb K I (.slice al L cl) := hpx.keep (hb3.block _ hpx.lt); obtain ⟨x30, x31, x32⟩ := hr3.cells; obtain ⟨y30, y31, y32⟩ := hr3.frozen; obtain ⟨c70, c71, c72⟩ := hx3.cells; have hbt := hrow3.bts; rw [pageB_len _ _ _ _ (by omega)] at hbt)
          | (go_at_call 41; refine (equal_any _ _ _ _ _ hbt (hbc.grow hb3) hPb hby).mono ?_; rintro e w4 ⟨rfl, hw4⟩; subst w4))
        have hz3 := hBc.size
        have hB3 := hBc.trans (hb3.mono hz3)
        refine bodyPost_ret (v := .tuple #[.agg #[.int .u8 K, .int .u32 I, .slice al L cl], .int .i64 0]) (by simp [results, Try.results12, go_sem, x30, x31, x32]) rfl ⟨fun h => ?_, fun _ => ⟨_, rfl, base, by omega, ownsRow_setCell_below (ownsRow_setCell_below (ownsRow_setCell_below (hol.grow hb3) (by simp; omega) _) (by simp; omega) _) (by simp; omega) _⟩, ((hB3.setCell (Nat.le_refl _) _).setCell (Nat.le_refl _) _).setCell (Nat.le_refl _) _⟩
        rw [hP] at h; cases h
      · have hP : isPage bs = false := by rw [hPG.out]; simp [hE]
        have hdE : decide (pageB bs.length K I Ld = bs) = false := by simp [hE]
        go_wp2_with (first
          | (go_at_call 10; refine (hput _ hbl hLb (by omega)).mono ?_; rintro e w3 ⟨rfl, hrow3, hb3⟩; have hr3 : PageAt w3 w.heap.size 0 0 (.slice none 0 0) := hres.keep (hb3.block _ hres.lt); obtain ⟨x30, x31, x32⟩ := hr3.cells; obtain ⟨y30, y31, y32⟩ := hr3.frozen; have hbt := hrow3.bts; rw [pageB_len _ _ _ _ (by omega)] at hbt)
          | (go_at_call 41; refine (equal_any _ _ _ _ _ hbt (hbc.grow hb3) hPb hby).mono ?_; rintro e w4 ⟨rfl, hw4⟩; subst w4))
        have hz3 := hBc.size
        have hB3 := hBc.trans (hb3.mono hz3)
        refine bodyPost_ret (v := .tuple #[.agg #[.int .u8 0, .int .u32 0, .slice none 0 0], .int .i64 30]) (by simp [results, Try.results12, go_sem, x30, x31, x32]) rfl ⟨fun _ => rfl, fun h => ?_, ((hB3.setCell (Nat.le_refl _) _).setCell (Nat.le_refl _) _).setCell (Nat.le_refl _) _⟩
        rw [hP] at h; cases h

/-- page.Get of bytes that are no page. -/
theorem get_no (v : Value) (bs : List Int) (w : World) (hb : Bts w v bs) (hby : IsBytes bs) (h : isPage bs = false) :
    Calls Try.prog 12 #[v] w fun e w' => e = .returned (.tuple #[.agg #[.int .u8 0, .int .u32 0, .slice none 0 0], .int .i64 30]) ∧ Below w.heap.size w w' := by
  by_cases h1 : bs.length < 64 ∨ 8192 < bs.length
  · exact get_size v bs w hb h1
  · by_cases h3 : bs.length < lenOf bs + 11
    · exact get_long v bs w hb hby (by omega) (by omega) h3
    · exact (get_main v bs w hb hby (by omega) (by omega) (by omega)).mono fun e w' hh => ⟨hh.1 h, hh.2.2⟩
/-- page.Get of a page's bytes. -/
theorem get_yes (v : Value) (bs : List Int) (w : World) (hb : Bts w v bs) (hby : IsBytes bs) (h : isPage bs = true) :
    Calls Try.prog 12 #[v] w fun e w' => ∃ lv, e = .returned (.tuple #[.agg #[.int .u8 (kindOf bs), .int .u32 (idOf bs), lv], .int .i64 0]) ∧ (∃ base, w.heap.size ≤ base ∧ Own w' base lv (loadOf bs)) ∧ Below w.heap.size w w' := by
  have hp := h
  simp only [isPage, decide_eq_true_eq] at hp
  obtain ⟨h1, h2, h3, _, _⟩ := hp
  refine (get_main v bs w hb hby h1 h2 h3).mono fun e w' hh => ?_
  obtain ⟨lv, e1, e2⟩ := hh.2.1 h
  exact ⟨lv, e1, e2, hh.2.2⟩
end Go.Proofs.Ytcgjolonapndgaa
