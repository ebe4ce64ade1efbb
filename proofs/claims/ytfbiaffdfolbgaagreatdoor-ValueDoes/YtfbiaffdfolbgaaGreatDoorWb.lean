/- The document's Print. -/
import Derived.Test.YtfbiaffdfolbgaaGreatDoorWa
import Derived.LoopN
namespace Go.Proofs.YtfbiaffdfolbgaaGreatDoor
set_option linter.unusedVariables false
open Go.RowKit
attribute [local go_sem ↓] Go.wp_at_zero Go.wp_at_succ
/-- A text's byte. -/
theorem idx_run (l : List Int) (k : Nat) (c : Int) (hk : l[k]? = some c) (hc : 0 ≤ c ∧ c ≤ 255) (W : World) : (Instr.index 9 (.string (bOf l)) (.int .i64 (k : Int))).run Tryz.prog W = .ok (.int .u8 c) W := by
  obtain ⟨hlt, e⟩ := List.getElem?_eq_some_iff.1 hk
  rw [run_index_string (P := Tryz.prog) W 9 (bOf l) .i64 (k : Int) Tryz.underlying9]
  have hs : (bOf l).size = l.length := bOf_size l
  rw [dif_pos ⟨by omega, by rw [hs]; omega⟩]
  congr 2
  have e2 : (bOf l)[((k : Int)).toNat]'(by rw [hs]; omega) = UInt8.ofNat c.toNat := by
    show (u8s l).toArray[((k : Int)).toNat]'(by simp [u8s]; omega) = _
    simp [u8s, e]
  rw [e2]
  show ((c.toNat % 256 : Nat) : Int) = c
  omega
theorem ext_run (l : List Int) (k : Nat) : (bOf l).extract 0 k = bOf (l.take k) := by
  apply ByteArray.ext
  rw [ByteArray.data_extract]
  apply Array.ext'
  rw [Array.toList_extract, List.extract_eq_take_drop]
  simp [bOf, u8s, List.map_take]
set_option maxRecDepth 100000 in
set_option maxHeartbeats 1000000 in
theorem rprint_pos (N : Nat) (h2 : N ≤ 1000000000000000) (w : World) : Calls Tryz.prog 33 #[vlV ⟨1, (N : Int)⟩] w fun e w' => e = .returned (.string (txtS ⟨1, (N : Int)⟩)) ∧ Below w.heap.size w w' := by
  have ha := vlNew w ⟨1, (N : Int)⟩
  have hB : Below (w.alloc (vlO ⟨1, (N : Int)⟩)).heap.size (w.alloc (vlO ⟨1, (N : Int)⟩)) (w.alloc (vlO ⟨1, (N : Int)⟩)) := Below.refl _ _
  have hi := fun W => ris_any ⟨1, (N : Int)⟩ W
  rw [isB_of (show IsV ⟨1, (N : Int)⟩ from by have := num_isV (N : Int); rw [num_in (by omega) (by omega)] at this; exact this)] at hi
  obtain ⟨q, hq⟩ : ∃ q, Hid (q = N / 1000) := ⟨_, rfl⟩
  obtain ⟨r, hr⟩ : ∃ r, Hid (r = N % 1000) := ⟨_, rfl⟩
  have eq : (N : Int) / 1000 = (q : Int) := by have := hq.out; omega
  have er : (N : Int) % 1000 = (r : Int) := by have := hr.out; omega
  have eqt : (N : Int).tdiv 1000 = (q : Int) := by rw [Int.tdiv_eq_ediv_of_nonneg (by omega)]; exact eq
  have ert : (N : Int).tmod 1000 = (r : Int) := by rw [Int.tmod_eq_emod_of_nonneg (by omega)]; exact er
  have hqb : q ≤ 1000000000000 := by have := hq.out; omega
  have hrb : r < 1000 := by have := hr.out; omega
  have hwq : IntKind.i64.wrap (q : Int) = (q : Int) := by rw [IntKind.wrap_i64]; omega
  have hwr : IntKind.i64.wrap (1000 + (r : Int)) = 1000 + (r : Int) := by rw [IntKind.wrap_i64]; omega
  have htx : txtS ⟨1, (N : Int)⟩ = bOf (dec q) ++ bOf (tail r) := by
    unfold txtS
    have hn : ¬ (N : Int) < 0 := by omega
    simp only [txt, hn, if_false, if_true]
    rw [txtN, bOf_append, Int.natAbs_natCast, ← hq.out, ← hr.out]
  rw [htx]
  have hf1 : ∀ W, Calls Tryz.prog 44 #[.int .i64 (q : Int)] W fun e w' => e = .returned (.string (bOf (dec q))) ∧ Below W.heap.size W w' := fun W => rdigits_any q W (by omega)
  have hD1 : (bOf (dec q)).size ≤ 13 := by rw [bOf_size]; exact dec_len 12 q (by omega)
  have hn0 : ¬ (N : Int) < 0 := by omega
  by_cases hr0 : r = 0
  · subst hr0
    have et : bOf (dec q) ++ bOf (tail 0) = bOf (dec q) := by apply ByteArray.ext; simp [tail, bOf, u8s]
    rw [et]
    generalize bOf (dec q) = D1 at *
    clear htx et hr hq
    unfold vlV at *
    go_enter Tryz.func33, Tryz.ntmps33
    go_wp2_with (first | (go_at_call 12; with_reducible refine (hi _).mono ?_; rintro e w2 ⟨rfl, hb2⟩; replace hB := hB.trans (hb2.mono hB.size); obtain ⟨a0, a1⟩ := (ha.grow hB).cells) | (go_at_call 44; with_reducible refine (hf1 _).mono ?_; rintro e w2 ⟨rfl, hb2⟩; replace hB := hB.trans (hb2.mono hB.size); obtain ⟨a0, a1⟩ := (ha.grow hB).cells))
    go_ret
    exact ⟨rfl, (bW0 w _).trans (hB.mono (by simp))⟩
  · have hf2 : ∀ W, Calls Tryz.prog 44 #[.int .i64 (1000 + (r : Int))] W fun e w' => e = .returned (.string (bOf (49 :: digs3 r))) ∧ Below W.heap.size W w' := fun W => by
      have e : (1000 + (r : Int)) = ((1000 + r : Nat) : Int) := by omega
      rw [← dec_three hrb, e]; exact rdigits_any (1000 + r) W (by omega)
    have hsl := cut1 49 (digs3 r)
    have hsz4 : (bOf (49 :: digs3 r)).size = 4 := by rw [bOf_size]; rfl
    have hsz : (bOf (digs3 r)).size = 3 := by rw [bOf_size]; rfl
    rw [hsz4] at hsl
    have et : bOf (dec q) ++ bOf (tail r) = (bOf (dec q) ++ ⟨#[46]⟩) ++ bOf (frac r) := by rw [tail, if_neg hr0, bOf_cons, ← ByteArray.append_assoc]; rfl
    rw [et]
    have hne : ((r : Int) == 0) = false := by simpa using hr0
    have hd1 : Hid (digs3 r = [48 + ((r / 100 : Nat) : Int), 48 + ((r / 10 % 10 : Nat) : Int), 48 + ((r % 10 : Nat) : Int)]) := rfl
    obtain ⟨x, hx⟩ : ∃ x, Hid (x = 48 + ((r / 100 : Nat) : Int)) := ⟨_, rfl⟩
    obtain ⟨y, hy⟩ : ∃ x, Hid (x = 48 + ((r / 10 % 10 : Nat) : Int)) := ⟨_, rfl⟩
    obtain ⟨z, hz⟩ : ∃ x, Hid (x = 48 + ((r % 10 : Nat) : Int)) := ⟨_, rfl⟩
    have hd2 : Hid (digs3 r = [x, y, z]) := by rw [hx.out, hy.out, hz.out]; exact hd1
    have i3 : ∀ W, (Instr.index 9 (.string (bOf (digs3 r))) (.int .i64 2)).run Tryz.prog W = .ok (.int .u8 z) W := fun W => by
      rw [hd2.out]; exact idx_run [x, y, z] 2 z rfl (by have := hz.out; omega) W
    have i2 : ∀ W, (Instr.index 9 (.string (bOf [x, y])) (.int .i64 1)).run Tryz.prog W = .ok (.int .u8 y) W := fun W => idx_run [x, y] 1 y rfl (by have := hy.out; omega) W
    have i1 : ∀ W, (Instr.index 9 (.string (bOf [x])) (.int .i64 0)).run Tryz.prog W = .ok (.int .u8 x) W := fun W => idx_run [x] 0 x rfl (by have := hx.out; omega) W
    have s3 : (bOf (digs3 r)).extract 0 2 = bOf [x, y] := by rw [hd2.out]; exact ext_run [x, y, z] 2
    have s2 : (bOf [x, y]).extract 0 1 = bOf [x] := ext_run [x, y] 1
    have z2 : (bOf [x, y]).size = 2 := by rw [bOf_size]; rfl
    have z1 : (bOf [x]).size = 1 := by rw [bOf_size]; rfl
    by_cases c1 : r % 10 = 0
    · have ez : (z == 48) = true := by have := hz.out; simp; omega
      by_cases c2 : r % 100 = 0
      · have ey : (y == 48) = true := by have := hy.out; simp; omega
        have ex : (x == 48) = false := by have := hx.out; simp; omega
        have ef : bOf (frac r) = bOf [x] := by rw [frac, if_pos c2, hx.out]
        rw [ef]
        generalize bOf (dec q) = D1 at *
        generalize bOf (49 :: digs3 r) = D4 at *
        generalize bOf (digs3 r) = E3 at *
        generalize bOf [x, y] = E2 at *
        generalize bOf [x] = E1 at *
        clear htx et hr hq hd1 hd2 hx hy hz c1 c2 ef hr0
        unfold vlV at *
        go_enter Tryz.func33, Tryz.ntmps33
        go_wp2_with (first | (go_at_call 12; with_reducible refine (hi _).mono ?_; rintro e w2 ⟨rfl, hb2⟩; replace hB := hB.trans (hb2.mono hB.size); obtain ⟨a0, a1⟩ := (ha.grow hB).cells) | (go_at_call 44; with_reducible refine (hf1 _).mono ?_; rintro e w2 ⟨rfl, hb2⟩; replace hB := hB.trans (hb2.mono hB.size); obtain ⟨a0, a1⟩ := (ha.grow hB).cells) | (go_at_call 44; with_reducible refine (hf2 _).mono ?_; rintro e w2 ⟨rfl, hb2⟩; replace hB := hB.trans (hb2.mono hB.size); obtain ⟨a0, a1⟩ := (ha.grow hB).cells))
        refine wp_loop_rounds 3 ?_
        rw [rounds_succ]
        go_wp2
        rw [rounds_succ]
        go_wp2
        rw [rounds_succ]
        go_wp2
        go_ret
        exact ⟨rfl, (bW0 w _).trans (hB.mono (by simp))⟩
      · have ey : (y == 48) = false := by have := hy.out; simp; omega
        have ef : bOf (frac r) = bOf [x, y] := by rw [frac, if_neg c2, if_pos c1, hx.out, hy.out]
        rw [ef]
        generalize bOf (dec q) = D1 at *
        generalize bOf (49 :: digs3 r) = D4 at *
        generalize bOf (digs3 r) = E3 at *
        generalize bOf [x, y] = E2 at *
        clear htx et hr hq hd1 hd2 hx hy hz c1 c2 ef hr0 i1 s2 z1
        unfold vlV at *
        go_enter Tryz.func33, Tryz.ntmps33
        go_wp2_with (first | (go_at_call 12; with_reducible refine (hi _).mono ?_; rintro e w2 ⟨rfl, hb2⟩; replace hB := hB.trans (hb2.mono hB.size); obtain ⟨a0, a1⟩ := (ha.grow hB).cells) | (go_at_call 44; with_reducible refine (hf1 _).mono ?_; rintro e w2 ⟨rfl, hb2⟩; replace hB := hB.trans (hb2.mono hB.size); obtain ⟨a0, a1⟩ := (ha.grow hB).cells) | (go_at_call 44; with_reducible refine (hf2 _).mono ?_; rintro e w2 ⟨rfl, hb2⟩; replace hB := hB.trans (hb2.mono hB.size); obtain ⟨a0, a1⟩ := (ha.grow hB).cells))
        refine wp_loop_rounds 2 ?_
        rw [rounds_succ]
        go_wp2
        rw [rounds_succ]
        go_wp2
        go_ret
        exact ⟨rfl, (bW0 w _).trans (hB.mono (by simp))⟩
    · have ez : (z == 48) = false := by have := hz.out; simp; omega
      have ef : bOf (frac r) = bOf (digs3 r) := by rw [frac, if_neg (by omega), if_neg c1]; rfl
      rw [ef]
      generalize bOf (dec q) = D1 at *
      generalize bOf (49 :: digs3 r) = D4 at *
      generalize bOf (digs3 r) = E3 at *
      clear htx et hr hq hd1 hd2 hx hy hz c1 ef hr0 i1 i2 s2 s3 z1 z2
      unfold vlV at *
      go_enter Tryz.func33, Tryz.ntmps33
      go_wp2_with (first | (go_at_call 12; with_reducible refine (hi _).mono ?_; rintro e w2 ⟨rfl, hb2⟩; replace hB := hB.trans (hb2.mono hB.size); obtain ⟨a0, a1⟩ := (ha.grow hB).cells) | (go_at_call 44; with_reducible refine (hf1 _).mono ?_; rintro e w2 ⟨rfl, hb2⟩; replace hB := hB.trans (hb2.mono hB.size); obtain ⟨a0, a1⟩ := (ha.grow hB).cells) | (go_at_call 44; with_reducible refine (hf2 _).mono ?_; rintro e w2 ⟨rfl, hb2⟩; replace hB := hB.trans (hb2.mono hB.size); obtain ⟨a0, a1⟩ := (ha.grow hB).cells))
      refine wp_loop_rounds 1 ?_
      rw [rounds_succ]
      go_wp2
      go_ret
      exact ⟨rfl, (bW0 w _).trans (hB.mono (by simp))⟩
set_option maxRecDepth 100000 in
set_option maxHeartbeats 1000000 in
theorem rprint_any (v : Vl) (w : World) : Calls Tryz.prog 33 #[vlV v] w fun e w' => e = .returned (.string (prS v)) ∧ Below w.heap.size w w' := by
  have ha := vlNew w v
  have hB : Below (w.alloc (vlO v)).heap.size (w.alloc (vlO v)) (w.alloc (vlO v)) := Below.refl _ _
  have hi := fun W => ris_any v W
  by_cases hv : IsV v
  · rw [isB_of hv] at hi
    have e : prS v = txtS v := by rw [prS, if_pos hv]
    rw [e]; clear e
    rcases hv.cases with ⟨n, rfl, h1, h2⟩ | rfl | rfl | rfl | rfl
    · by_cases hn : n < 0
      · obtain ⟨N, hN⟩ : ∃ N : Nat, Hid (-n = (N : Int)) := ⟨n.natAbs, show -n = _ by omega⟩
        have hwn : IntKind.i64.wrap (-n) = (N : Int) := by rw [IntKind.wrap_i64]; have := hN.out; omega
        have hen := hN.out
        have hp := fun W => rprint_pos N (by have := hN.out; omega) W
        have hnm := fun W => rnum_any (N : Int) W
        rw [num_in (by omega) (by have := hN.out; omega)] at hnm
        have hT : txtS ⟨1, n⟩ = bOf [45] ++ txtS ⟨1, (N : Int)⟩ := by
          have hn0 : ¬ (N : Int) < 0 := by omega
          have e1 : n.natAbs = N := by have := hN.out; omega
          unfold txtS
          simp only [txt, hn, hn0, if_true, if_false]
          rw [bOf_cons, e1, Int.natAbs_natCast]
        have hsT : (txtS ⟨1, (N : Int)⟩).size ≤ 18 := by
          unfold txtS; rw [bOf_size]; exact txt_len (show IsV ⟨1, (N : Int)⟩ from by have := num_isV (N : Int); rw [num_in (by omega) (by have := hN.out; omega)] at this; exact this)
        rw [hT]
        have e45 : bOf [45] = ⟨#[45]⟩ := rfl
        rw [e45]
        generalize txtS ⟨1, (N : Int)⟩ = T at *
        clear hv hT hN e45
        unfold vlV at *
        go_enter Tryz.func33, Tryz.ntmps33
        go_wp2_with (first | (go_at_call 12; with_reducible refine (hi _).mono ?_; rintro e w2 ⟨rfl, hb2⟩; replace hB := hB.trans (hb2.mono hB.size); obtain ⟨a0, a1⟩ := (ha.grow hB).cells) | (go_at_call 19; with_reducible refine (hnm _).mono ?_; rintro e w2 ⟨rfl, hb2⟩; replace hB := hB.trans (hb2.mono hB.size); obtain ⟨a0, a1⟩ := (ha.grow hB).cells) | (go_at_call 33; with_reducible refine (hp _).mono ?_; rintro e w2 ⟨rfl, hb2⟩; replace hB := hB.trans (hb2.mono hB.size); obtain ⟨a0, a1⟩ := (ha.grow hB).cells))
        go_ret
        exact ⟨rfl, (bW0 w _).trans (hB.mono (by simp))⟩
      · obtain ⟨N, rfl⟩ : ∃ N : Nat, n = (N : Int) := ⟨n.toNat, by omega⟩
        exact rprint_pos N (by omega) w
    all_goals
      clear hv
      unfold vlV at *
      go_enter Tryz.func33, Tryz.ntmps33
      go_wp2_with (first | (go_at_call 12; with_reducible refine (hi _).mono ?_; rintro e w2 ⟨rfl, hb2⟩; replace hB := hB.trans (hb2.mono hB.size); obtain ⟨a0, a1⟩ := (ha.grow hB).cells))
      go_ret
      exact ⟨rfl, (bW0 w _).trans (hB.mono (by simp))⟩
  · have e : prS v = ⟨#[]⟩ := by rw [prS, if_neg hv]
    rw [e]; clear e
    have e2 : isB v = false := decide_eq_false hv
    rw [e2] at hi
    clear hv e2
    unfold vlV at *
    go_enter Tryz.func33, Tryz.ntmps33
    go_wp2_with (first | (go_at_call 12; with_reducible refine (hi _).mono ?_; rintro e w2 ⟨rfl, hb2⟩; replace hB := hB.trans (hb2.mono hB.size); obtain ⟨a0, a1⟩ := (ha.grow hB).cells))
    go_ret
    exact ⟨rfl, (bW0 w _).trans (hB.mono (by simp))⟩
end Go.Proofs.YtfbiaffdfolbgaaGreatDoor
